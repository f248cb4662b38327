/- Contracts of the laws' held of Sink. -/
import Derived.Test.YtecaaekilbdgdaaSkkM
import Derived.Test.YtecaaekilbdgdaaIntsR
import Derived.Test.YtecaaekilbdgdaaPpL
namespace Go.Proofs.Ytecaaekilbdgdaa
open Go.RowKit

set_option maxRecDepth 100000 in
set_option maxHeartbeats 8000000 in
theorem heldSink_rep (a0 : Option Addr) (n0 : Nat) (c0 : Nat) (a2 : Option Addr) (n2 : Nat) (c2 : Nat) (a3 : Option Addr) (n3 : Nat) (c3 : Nat) (a4 : Option Addr) (n4 : Nat) (c4 : Nat) (zi1 : Int) (zi5 : Int) (zi6 : Int) (x0 : List Int) (x2 : List Int) (x3 : List TPrepared) (x4 : List Int) (m : Int) (w : World) (hz0 : x0.length = n0) (hs0 : n0 ≤ 1048576) (hz2 : x2.length = n2) (hs2 : n2 ≤ 1048576) (hz3 : x3.length = n3) (hs3 : n3 ≤ 1048576) (hd3 : ∀ (i : Nat) (x : TPrepared), x3[i]? = some x → costPrepared x ≤ 1048576) (hz4 : x4.length = n4) (hs4 : n4 ≤ 1048576) (hc3 : csumPrepared x3 n3 ≤ 1048576) (h0 : 0 ≤ m) (h1 : m ≤ 16777216) (ho : RSink.At w [.slice a0 n0 c0, .int .i64 zi1, .slice a2 n2 c2, .slice a3 n3 c3, .slice a4 n4 c4, .int .i64 zi5, .int .i64 zi6] (mkSink m (x0, zi1, x2, x3, x4, zi5, zi6))) :
    Calls Try.prog 15 #[.agg #[.slice a0 n0 c0, .int .i64 zi1, .slice a2 n2 c2, .slice a3 n3 c3, .slice a4 n4 c4, .int .i64 zi5, .int .i64 zi6], .int .i64 m] w fun e w' => e = .returned (.int .i64 (m + (mknSink (x0, zi1, x2, x3, x4, zi5, zi6) : Nat))) ∧ Below w.heap.size w w' := by
  obtain ⟨V3, hV3⟩ : ∃ V : Nat, msumPrepared x3 n3 = V := ⟨_, rfl⟩
  have hV3' : V3 ≤ 4194304 := by have q := hc3; rw [← hV3, msumPrepared_eq x3 n3 (by omega)]; omega
  have hv : mknSink (x0, zi1, x2, x3, x4, zi5, zi6) = n0 + n2 + V3 + n4 := by unfold mknSink; simp only; rw [hz0, hz2, hz3, hz4, hV3]
  rw [hv]
  have hf := RSink.at_iff ho
  clear ho
  have A0 : Hid (At w a0 (mkInts (m) x0)) := Hid.mk (by
    have h9 := hf.1.2.2.1
    exact h9)
  have A2 : Hid (At w a2 (mkInts (m + (n0 : Int)) x2)) := Hid.mk (by
    have h9 := hf.2.1.2.2.1
    simp only [hz0] at h9
    exact h9)
  have A3 : Hid (AtSl RPrepared w a3 (mkPrepareds (m + (n0 : Int) + (n2 : Int)) x3)) := Hid.mk (by
    have h9 := hf.2.2.1.2.2.1
    simp only [hz0, hz2] at h9
    exact h9)
  have A4 : Hid (At w a4 (mkInts (m + (n0 : Int) + (n2 : Int) + (V3 : Int)) x4)) := Hid.mk (by
    have h9 := hf.2.2.2.2.2.1
    simp only [hz0, hz2, hz3, hV3] at h9
    exact h9)
  clear hf hv
  obtain ⟨W, hW⟩ : ∃ W, W = w.alloc (.cells #[.slice a0 n0 c0, .int .i64 zi1, .slice a2 n2 c2, .slice a3 n3 c3, .slice a4 n4 c4, .int .i64 zi5, .int .i64 zi6] 25) := ⟨_, rfl⟩
  have B0 : Below w.heap.size w W := by rw [hW]; exact (Below.refl _ _).alloc (Nat.le_refl _) _
  have p2 : W.cell? ⟨w.heap.size, 2, none⟩ = some (.slice a2 n2 c2) := by rw [hW]; simp
  have p3 : W.cell? ⟨w.heap.size, 3, none⟩ = some (.slice a3 n3 c3) := by rw [hW]; simp
  have p4 : W.cell? ⟨w.heap.size, 4, none⟩ = some (.slice a4 n4 c4) := by rw [hW]; simp
  have HZ0 := Hid.mk hz0
  clear hz0
  have HZ2 := Hid.mk hz2
  clear hz2
  have HZ3 := Hid.mk hz3
  clear hz3
  have HD3 := Hid.mk hd3
  clear hd3
  have HV3 := Hid.mk hV3
  clear hV3
  have HZ4 := Hid.mk hz4
  clear hz4
  go_enter Try.func15, Try.ntmps15
  have y0 : ¬ m + (n0 : Int) < 0 := by omega
  go_wp2_with fail
  rw [← hW]
  clear hW
  refine (heldInts_rep a0 n0 c0 x0 (m) W HZ0.out hs0 (by omega) (by omega) (At.below A0.out B0)).mono ?_
  rintro e w0 ⟨rfl, hb0⟩
  have B1 := B0.trans (hb0.mono B0.size)
  have p2 := cell_later hb0 p2
  have p3 := cell_later hb0 p3
  have p4 := cell_later hb0 p4
  have y2 : ¬ m + (n0 : Int) + (n2 : Int) < 0 := by omega
  go_wp2_with fail
  refine (heldInts_rep a2 n2 c2 x2 (m + (n0 : Int)) w0 HZ2.out hs2 (by omega) (by omega) (At.below A2.out B1)).mono ?_
  rintro e w1 ⟨rfl, hb1⟩
  have B2 := B1.trans (hb1.mono B1.size)
  have p3 := cell_later hb1 p3
  have p4 := cell_later hb1 p4
  have y3 : ¬ m + (n0 : Int) + (n2 : Int) + (V3 : Int) < 0 := by omega
  go_wp2_with fail
  refine (heldPreparedS_rep a3 n3 c3 x3 (m + (n0 : Int) + (n2 : Int)) w1 HZ3.out hs3 HD3.out (by rw [HV3.out]; exact hV3') (by omega) (by omega) (AtSl.below A3.out B2)).mono ?_
  rintro e w2 ⟨rfl, hb2⟩
  rw [HV3.out]
  have B3 := B2.trans (hb2.mono B2.size)
  have p4 := cell_later hb2 p4
  have y4 : ¬ m + (n0 : Int) + (n2 : Int) + (V3 : Int) + (n4 : Int) < 0 := by omega
  go_wp2_with fail
  refine (heldInts_rep a4 n4 c4 x4 (m + (n0 : Int) + (n2 : Int) + (V3 : Int)) w2 HZ4.out hs4 (by omega) (by omega) (At.below A4.out B3)).mono ?_
  rintro e w3 ⟨rfl, hb3⟩
  have B4 := B3.trans (hb3.mono B3.size)
  go_wp2
  go_ret
  exact ⟨ret_int (by push_cast; omega), B4⟩

end Go.Proofs.Ytecaaekilbdgdaa
