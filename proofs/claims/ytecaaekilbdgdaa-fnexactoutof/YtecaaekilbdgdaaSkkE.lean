/- Contracts of the laws' eq of Sink, of equal ones. -/
import Derived.Test.YtecaaekilbdgdaaSkkT
import Derived.Test.YtecaaekilbdgdaaIntE
import Derived.Test.YtecaaekilbdgdaaPpE
namespace Go.Proofs.Ytecaaekilbdgdaa
open Go.RowKit

set_option maxRecDepth 100000 in
set_option maxHeartbeats 8000000 in
theorem eqSink_same (a0 : Option Addr) (n0 : Nat) (c0 : Nat) (a2 : Option Addr) (n2 : Nat) (c2 : Nat) (a3 : Option Addr) (n3 : Nat) (c3 : Nat) (a4 : Option Addr) (n4 : Nat) (c4 : Nat) (a0' : Option Addr) (c0' : Nat) (a2' : Option Addr) (c2' : Nat) (a3' : Option Addr) (c3' : Nat) (a4' : Option Addr) (c4' : Nat) (zi1 : Int) (zi5 : Int) (zi6 : Int) (x0 : List Int) (x2 : List Int) (x3 : List TPrepared) (x4 : List Int) (w : World) (hz0 : x0.length = n0) (hs0 : n0 ≤ 1048576) (hz2 : x2.length = n2) (hs2 : n2 ≤ 1048576) (hz3 : x3.length = n3) (hs3 : n3 ≤ 1048576) (hd3 : ∀ (i : Nat) (x : TPrepared), x3[i]? = some x → costPrepared x ≤ 1048576) (hz4 : x4.length = n4) (hs4 : n4 ≤ 1048576) (ha0 : At w a0 x0) (hb0 : At w a0' x0) (ha2 : At w a2 x2) (hb2 : At w a2' x2) (ha3 : AtSl RPrepared w a3 x3) (hb3 : AtSl RPrepared w a3' x3) (ha4 : At w a4 x4) (hb4 : At w a4' x4) :
    Calls Try.prog 11 #[.agg #[.slice a0 n0 c0, .int .i64 zi1, .slice a2 n2 c2, .slice a3 n3 c3, .slice a4 n4 c4, .int .i64 zi5, .int .i64 zi6], .agg #[.slice a0' n0 c0', .int .i64 zi1, .slice a2' n2 c2', .slice a3' n3 c3', .slice a4' n4 c4', .int .i64 zi5, .int .i64 zi6]] w fun e w' => e = .returned (.bool true) ∧ Below w.heap.size w w' := by
  obtain ⟨W, hW⟩ : ∃ W, W = ((w.alloc (.cells #[.slice a0 n0 c0, .int .i64 zi1, .slice a2 n2 c2, .slice a3 n3 c3, .slice a4 n4 c4, .int .i64 zi5, .int .i64 zi6] 25)).alloc (.cells #[.slice a0' n0 c0', .int .i64 zi1, .slice a2' n2 c2', .slice a3' n3 c3', .slice a4' n4 c4', .int .i64 zi5, .int .i64 zi6] 25)) := ⟨_, rfl⟩
  have B0 : Below w.heap.size w W := by rw [hW]; exact (((Below.refl _ _).alloc (Nat.le_refl _) _).alloc (by simp) _)
  have p1 : W.cell? ⟨w.heap.size, 1, none⟩ = some (.int .i64 zi1) := by rw [hW]; simp
  have r1 : W.cell? ⟨w.heap.size + 1, 1, none⟩ = some (.int .i64 zi1) := by rw [hW]; simp
  have p2 : W.cell? ⟨w.heap.size, 2, none⟩ = some (.slice a2 n2 c2) := by rw [hW]; simp
  have r2 : W.cell? ⟨w.heap.size + 1, 2, none⟩ = some (.slice a2' n2 c2') := by rw [hW]; simp
  have p3 : W.cell? ⟨w.heap.size, 3, none⟩ = some (.slice a3 n3 c3) := by rw [hW]; simp
  have r3 : W.cell? ⟨w.heap.size + 1, 3, none⟩ = some (.slice a3' n3 c3') := by rw [hW]; simp
  have p4 : W.cell? ⟨w.heap.size, 4, none⟩ = some (.slice a4 n4 c4) := by rw [hW]; simp
  have r4 : W.cell? ⟨w.heap.size + 1, 4, none⟩ = some (.slice a4' n4 c4') := by rw [hW]; simp
  have p5 : W.cell? ⟨w.heap.size, 5, none⟩ = some (.int .i64 zi5) := by rw [hW]; simp
  have r5 : W.cell? ⟨w.heap.size + 1, 5, none⟩ = some (.int .i64 zi5) := by rw [hW]; simp
  have p6 : W.cell? ⟨w.heap.size, 6, none⟩ = some (.int .i64 zi6) := by rw [hW]; simp
  have r6 : W.cell? ⟨w.heap.size + 1, 6, none⟩ = some (.int .i64 zi6) := by rw [hW]; simp
  have HA0 := Hid.mk (And.intro ha0 hb0)
  have HZ0 := Hid.mk hz0
  clear ha0 hb0 hz0
  have HA2 := Hid.mk (And.intro ha2 hb2)
  have HZ2 := Hid.mk hz2
  clear ha2 hb2 hz2
  have HA3 := Hid.mk (And.intro ha3 hb3)
  have HZ3 := Hid.mk hz3
  clear ha3 hb3 hz3
  have HD3 := Hid.mk hd3
  clear hd3
  have HA4 := Hid.mk (And.intro ha4 hb4)
  have HZ4 := Hid.mk hz4
  clear ha4 hb4 hz4
  go_enter Try.func11, Try.ntmps11
  go_wp2_with fail
  rw [← hW]
  clear hW
  refine (eqIntS_same a0 a0' n0 c0 c0' x0 W HZ0.out hs0 (At.below HA0.out.1 B0) (At.below HA0.out.2 B0)).mono ?_
  rintro e w0 ⟨rfl, hb0⟩
  have B1 := B0.trans (hb0.mono B0.size)
  have p1 := cell_later hb0 p1
  have r1 := cell_later hb0 r1
  have p2 := cell_later hb0 p2
  have r2 := cell_later hb0 r2
  have p3 := cell_later hb0 p3
  have r3 := cell_later hb0 r3
  have p4 := cell_later hb0 p4
  have r4 := cell_later hb0 r4
  have p5 := cell_later hb0 p5
  have r5 := cell_later hb0 r5
  have p6 := cell_later hb0 p6
  have r6 := cell_later hb0 r6
  go_wp2_with fail
  refine (eqIntS_same a2 a2' n2 c2 c2' x2 w0 HZ2.out hs2 (At.below HA2.out.1 B1) (At.below HA2.out.2 B1)).mono ?_
  rintro e w1 ⟨rfl, hb1⟩
  have B2 := B1.trans (hb1.mono B1.size)
  have p3 := cell_later hb1 p3
  have r3 := cell_later hb1 r3
  have p4 := cell_later hb1 p4
  have r4 := cell_later hb1 r4
  have p5 := cell_later hb1 p5
  have r5 := cell_later hb1 r5
  have p6 := cell_later hb1 p6
  have r6 := cell_later hb1 r6
  go_wp2_with fail
  refine (eqPreparedS_same a3 a3' n3 c3 c3' x3 w1 HZ3.out hs3 HD3.out (AtSl.below HA3.out.1 B2) (AtSl.below HA3.out.2 B2)).mono ?_
  rintro e w2 ⟨rfl, hb2⟩
  have B3 := B2.trans (hb2.mono B2.size)
  have p4 := cell_later hb2 p4
  have r4 := cell_later hb2 r4
  have p5 := cell_later hb2 p5
  have r5 := cell_later hb2 r5
  have p6 := cell_later hb2 p6
  have r6 := cell_later hb2 r6
  go_wp2_with fail
  refine (eqIntS_same a4 a4' n4 c4 c4' x4 w2 HZ4.out hs4 (At.below HA4.out.1 B3) (At.below HA4.out.2 B3)).mono ?_
  rintro e w3 ⟨rfl, hb3⟩
  have B4 := B3.trans (hb3.mono B3.size)
  have p5 := cell_later hb3 p5
  have r5 := cell_later hb3 r5
  have p6 := cell_later hb3 p6
  have r6 := cell_later hb3 r6
  go_wp2
  go_ret
  exact ⟨rfl, B4⟩


end Go.Proofs.Ytecaaekilbdgdaa
