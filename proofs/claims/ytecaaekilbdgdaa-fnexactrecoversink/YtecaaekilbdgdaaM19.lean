/- Contracts of the laws' sz of Sink. -/
import Derived.Test.YtecaaekilbdgdaaM4
import Derived.Test.YtecaaekilbdgdaaM3
import Derived.Test.YtecaaekilbdgdaaM18
namespace Go.Proofs.Ytecaaekilbdgdaa
open Go.RowKit

set_option maxRecDepth 100000 in
set_option maxHeartbeats 8000000 in
theorem szSink_any (a0 : Option Addr) (n0 : Nat) (c0 : Nat) (a2 : Option Addr) (n2 : Nat) (c2 : Nat) (a3 : Option Addr) (n3 : Nat) (c3 : Nat) (a4 : Option Addr) (n4 : Nat) (c4 : Nat) (zi1 : Int) (zi5 : Int) (zi6 : Int) (x0 : List Int) (x2 : List Int) (x3 : List TPrepared) (x4 : List Int) (l : Int) (w : World) (hz0 : x0.length = n0) (hn0 : n0 ≤ 9223372036854775807) (hz2 : x2.length = n2) (hn2 : n2 ≤ 9223372036854775807) (hz3 : x3.length = n3) (hn3 : n3 ≤ 9223372036854775807) (hz4 : x4.length = n4) (hn4 : n4 ≤ 9223372036854775807) (ha0 : At w a0 x0) (ha2 : At w a2 x2) (ha3 : AtSl RPrepared w a3 x3) (ha4 : At w a4 x4) (h0 : 0 ≤ l) (h1 : l ≤ 1048576) :
    Calls Try.prog 16 #[.agg #[.slice a0 n0 c0, .int .i64 zi1, .slice a2 n2 c2, .slice a3 n3 c3, .slice a4 n4 c4, .int .i64 zi5, .int .i64 zi6], .int .i64 l] w fun e w' => e = .returned (.int .i64 (leftOf l (costSink (x0, zi1, x2, x3, x4, zi5, zi6)))) ∧ Below w.heap.size w w' := by
  obtain ⟨C0, hC0⟩ : ∃ C : Nat, n0 = C := ⟨_, rfl⟩
  obtain ⟨C2, hC2⟩ : ∃ C : Nat, n2 = C := ⟨_, rfl⟩
  obtain ⟨C3, hC3⟩ : ∃ C : Nat, (n3 + csumPrepared x3 n3) = C := ⟨_, rfl⟩
  obtain ⟨C4, hC4⟩ : ∃ C : Nat, n4 = C := ⟨_, rfl⟩
  have hv : costSink (x0, zi1, x2, x3, x4, zi5, zi6) = C0 + C2 + C3 + C4 := by unfold costSink; simp only; rw [hz0, hz2, hz3, hz4, hC0, hC2, hC3, hC4]
  rw [hv]
  clear hv
  have HC0 := Hid.mk hC0
  have HA0 := Hid.mk ha0
  have HZ0 := Hid.mk hz0
  clear hC0 ha0 hz0
  have HC2 := Hid.mk hC2
  have HA2 := Hid.mk ha2
  have HZ2 := Hid.mk hz2
  clear hC2 ha2 hz2
  have HC3 := Hid.mk hC3
  have HA3 := Hid.mk ha3
  have HZ3 := Hid.mk hz3
  clear hC3 ha3 hz3
  have HC4 := Hid.mk hC4
  have HA4 := Hid.mk ha4
  have HZ4 := Hid.mk hz4
  clear hC4 ha4 hz4
  obtain ⟨W, hW⟩ : ∃ W, W = w.alloc (.cells #[.slice a0 n0 c0, .int .i64 zi1, .slice a2 n2 c2, .slice a3 n3 c3, .slice a4 n4 c4, .int .i64 zi5, .int .i64 zi6] 36) := ⟨_, rfl⟩
  have B0 : Below w.heap.size w W := by rw [hW]; exact (Below.refl _ _).alloc (Nat.le_refl _) _
  have p2 : W.cell? ⟨w.heap.size, 2, none⟩ = some (.slice a2 n2 c2) := by rw [hW]; simp
  have p3 : W.cell? ⟨w.heap.size, 3, none⟩ = some (.slice a3 n3 c3) := by rw [hW]; simp
  have p4 : W.cell? ⟨w.heap.size, 4, none⟩ = some (.slice a4 n4 c4) := by rw [hW]; simp
  go_enter Try.func16, Try.ntmps16
  go_wp2_with fail
  rw [← hW]
  clear hW
  refine (szInts_u a0 n0 c0 (l) W hn0 (by omega) (by omega)).mono ?_
  rintro e w0 ⟨rfl, hb0⟩
  rw [HC0.out]
  have B1 := B0.trans (hb0.mono B0.size)
  have p2 := cell_later hb0 p2
  have p3 := cell_later hb0 p3
  have p4 := cell_later hb0 p4
  by_cases k0 : l < (C0 : Int)
  · rw [leftOf_no k0]
    go_wp2
    go_ret
    exact ⟨ret_int (leftOf_no (by omega)).symm, B1⟩
  rw [leftOf_yes k0]
  have y0 : ¬ l - (C0 : Int) < 0 := by omega
  go_wp2_with fail
  refine (szInts_u a2 n2 c2 (l - (C0 : Int)) w0 hn2 (by omega) (by omega)).mono ?_
  rintro e w1 ⟨rfl, hb1⟩
  rw [HC2.out]
  have B2 := B1.trans (hb1.mono B1.size)
  have p3 := cell_later hb1 p3
  have p4 := cell_later hb1 p4
  by_cases k1 : l - (C0 : Int) < (C2 : Int)
  · rw [leftOf_no k1]
    go_wp2
    go_ret
    exact ⟨ret_int (leftOf_no (by omega)).symm, B2⟩
  rw [leftOf_yes k1]
  have y1 : ¬ l - (C0 : Int) - (C2 : Int) < 0 := by omega
  go_wp2_with fail
  refine (szPreparedS_any a3 n3 c3 x3 (l - (C0 : Int) - (C2 : Int)) w1 HZ3.out hn3 (by omega) (by omega) (AtSl.below HA3.out B2)).mono ?_
  rintro e w2 ⟨rfl, hb2⟩
  rw [HC3.out]
  have B3 := B2.trans (hb2.mono B2.size)
  have p4 := cell_later hb2 p4
  by_cases k2 : l - (C0 : Int) - (C2 : Int) < (C3 : Int)
  · rw [leftOf_no k2]
    go_wp2
    go_ret
    exact ⟨ret_int (leftOf_no (by omega)).symm, B3⟩
  rw [leftOf_yes k2]
  have y2 : ¬ l - (C0 : Int) - (C2 : Int) - (C3 : Int) < 0 := by omega
  go_wp2_with fail
  refine (szInts_u a4 n4 c4 (l - (C0 : Int) - (C2 : Int) - (C3 : Int)) w2 hn4 (by omega) (by omega)).mono ?_
  rintro e w3 ⟨rfl, hb3⟩
  rw [HC4.out]
  have B4 := B3.trans (hb3.mono B3.size)
  by_cases k3 : l - (C0 : Int) - (C2 : Int) - (C3 : Int) < (C4 : Int)
  · rw [leftOf_no k3]
    go_wp2
    go_ret
    exact ⟨ret_int (leftOf_no (by omega)).symm, B4⟩
  rw [leftOf_yes k3]
  have y3 : ¬ l - (C0 : Int) - (C2 : Int) - (C3 : Int) - (C4 : Int) < 0 := by omega
  go_wp2
  go_ret
  exact ⟨ret_int (by rw [leftOf_yes (by omega)]; omega), B4⟩


end Go.Proofs.Ytecaaekilbdgdaa
