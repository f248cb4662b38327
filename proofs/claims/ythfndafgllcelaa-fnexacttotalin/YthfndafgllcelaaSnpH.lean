/- Contracts of the laws' sz of Snap. -/
import Derived.Test.YthfndafgllcelaaSnpG
import Derived.Test.YthfndafgllcelaaIntS
import Derived.Test.YthfndafgllcelaaSzU
import Derived.Test.YthfndafgllcelaaPrH
import Derived.Test.YthfndafgllcelaaWiH
namespace Go.Proofs.Ythfndafgllcelaa
open Go.RowKit

set_option maxRecDepth 100000 in
set_option maxHeartbeats 8000000 in
theorem szSnap_any (a0 : Option Addr) (n0 : Nat) (c0 : Nat) (a1 : Option Addr) (n1 : Nat) (c1 : Nat)  (x0 : List TProc) (x1 : List TWire) (l : Int) (w : World) (hz0 : x0.length = n0) (hn0 : n0 ≤ 9223372036854775807) (hz1 : x1.length = n1) (hn1 : n1 ≤ 9223372036854775807) (ha0 : AtSl RProc w a0 x0) (ha1 : AtSl RWire w a1 x1) (h0 : 0 ≤ l) (h1 : l ≤ 1048576) :
    Calls Try.prog 17 #[.agg #[.slice a0 n0 c0, .slice a1 n1 c1], .int .i64 l] w fun e w' => e = .returned (.int .i64 (leftOf l (costSnap (x0, x1)))) ∧ Below w.heap.size w w' := by
  obtain ⟨C0, hC0⟩ : ∃ C : Nat, n0 = C := ⟨_, rfl⟩
  obtain ⟨C1, hC1⟩ : ∃ C : Nat, (n1 + csumWire x1 n1) = C := ⟨_, rfl⟩
  have hv : costSnap (x0, x1) = C0 + C1 := by unfold costSnap; simp only; rw [hz0, hz1, hC0, hC1]
  rw [hv]
  clear hv
  have HC0 := Hid.mk hC0
  have HA0 := Hid.mk ha0
  have HZ0 := Hid.mk hz0
  clear hC0 ha0 hz0
  have HC1 := Hid.mk hC1
  have HA1 := Hid.mk ha1
  have HZ1 := Hid.mk hz1
  clear hC1 ha1 hz1
  obtain ⟨W, hW⟩ : ∃ W, W = w.alloc (.cells #[.slice a0 n0 c0, .slice a1 n1 c1] 38) := ⟨_, rfl⟩
  have B0 : Below w.heap.size w W := by rw [hW]; exact (Below.refl _ _).alloc (Nat.le_refl _) _
  have p1 : W.cell? ⟨w.heap.size, 1, none⟩ = some (.slice a1 n1 c1) := by rw [hW]; simp
  go_enter Try.func17, Try.ntmps17
  go_wp2_with fail
  rw [← hW]
  clear hW
  refine (szProcS_any a0 n0 c0 x0 (l) W HZ0.out hn0 (by omega) (by omega) (AtSl.below HA0.out B0)).mono ?_
  rintro e w0 ⟨rfl, hb0⟩
  rw [HC0.out]
  have B1 := B0.trans (hb0.mono B0.size)
  have p1 := cell_later hb0 p1
  by_cases k0 : l < (C0 : Int)
  · rw [leftOf_no k0]
    go_wp2
    go_ret
    exact ⟨ret_int (leftOf_no (by omega)).symm, B1⟩
  rw [leftOf_yes k0]
  have y0 : ¬ l - (C0 : Int) < 0 := by omega
  go_wp2_with fail
  refine (szWireS_any a1 n1 c1 x1 (l - (C0 : Int)) w0 HZ1.out hn1 (by omega) (by omega) (AtSl.below HA1.out B1)).mono ?_
  rintro e w1 ⟨rfl, hb1⟩
  rw [HC1.out]
  have B2 := B1.trans (hb1.mono B1.size)
  by_cases k1 : l - (C0 : Int) < (C1 : Int)
  · rw [leftOf_no k1]
    go_wp2
    go_ret
    exact ⟨ret_int (leftOf_no (by omega)).symm, B2⟩
  rw [leftOf_yes k1]
  have y1 : ¬ l - (C0 : Int) - (C1 : Int) < 0 := by omega
  go_wp2
  go_ret
  exact ⟨ret_int (by rw [leftOf_yes (by omega)]; omega), B2⟩


end Go.Proofs.Ythfndafgllcelaa
