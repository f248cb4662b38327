/- Contracts of the laws' held of Snap. -/
import Derived.Test.YthfndafgllcelaaSnpM
import Derived.Test.YthfndafgllcelaaIntsR
import Derived.Test.YthfndafgllcelaaPrL
import Derived.Test.YthfndafgllcelaaWiL
namespace Go.Proofs.Ythfndafgllcelaa
open Go.RowKit

set_option maxRecDepth 100000 in
set_option maxHeartbeats 8000000 in
theorem heldSnap_rep (a0 : Option Addr) (n0 : Nat) (c0 : Nat) (a1 : Option Addr) (n1 : Nat) (c1 : Nat)  (x0 : List TProc) (x1 : List TWire) (m : Int) (w : World) (hz0 : x0.length = n0) (hs0 : n0 ≤ 1048576) (hz1 : x1.length = n1) (hs1 : n1 ≤ 1048576) (hd1 : ∀ (i : Nat) (x : TWire), x1[i]? = some x → costWire x ≤ 1048576) (hc1 : csumWire x1 n1 ≤ 1048576) (h0 : 0 ≤ m) (h1 : m ≤ 16777216) (ho : RSnap.At w [.slice a0 n0 c0, .slice a1 n1 c1] (mkSnap m (x0, x1))) :
    Calls Try.prog 16 #[.agg #[.slice a0 n0 c0, .slice a1 n1 c1], .int .i64 m] w fun e w' => e = .returned (.int .i64 (m + (mknSnap (x0, x1) : Nat))) ∧ Below w.heap.size w w' := by
  obtain ⟨V0, hV0⟩ : ∃ V : Nat, msumProc x0 n0 = V := ⟨_, rfl⟩
  have hV0' : V0 ≤ 4194304 := by rw [← hV0, msumProc_eq x0 n0 (by omega)]; omega
  obtain ⟨V1, hV1⟩ : ∃ V : Nat, msumWire x1 n1 = V := ⟨_, rfl⟩
  have hV1' : V1 ≤ 4194304 := by have q := hc1; rw [← hV1, msumWire_eq x1 n1 (by omega)]; omega
  have hv : mknSnap (x0, x1) = V0 + V1 := by unfold mknSnap; simp only; rw [hz0, hz1, hV0, hV1]
  rw [hv]
  have hf := RSnap.at_iff ho
  clear ho
  have A0 : Hid (AtSl RProc w a0 (mkProcs (m) x0)) := Hid.mk (by
    have h9 := hf.1.2.2.1
    exact h9)
  have A1 : Hid (AtSl RWire w a1 (mkWires (m + (V0 : Int)) x1)) := Hid.mk (by
    have h9 := hf.2.2.2.1
    simp only [hz0, hV0] at h9
    exact h9)
  clear hf hv
  obtain ⟨W, hW⟩ : ∃ W, W = w.alloc (.cells #[.slice a0 n0 c0, .slice a1 n1 c1] 26) := ⟨_, rfl⟩
  have B0 : Below w.heap.size w W := by rw [hW]; exact (Below.refl _ _).alloc (Nat.le_refl _) _
  have p1 : W.cell? ⟨w.heap.size, 1, none⟩ = some (.slice a1 n1 c1) := by rw [hW]; simp
  have HZ0 := Hid.mk hz0
  clear hz0
  have HV0 := Hid.mk hV0
  clear hV0
  have HZ1 := Hid.mk hz1
  clear hz1
  have HD1 := Hid.mk hd1
  clear hd1
  have HV1 := Hid.mk hV1
  clear hV1
  go_enter Try.func16, Try.ntmps16
  have y0 : ¬ m + (V0 : Int) < 0 := by omega
  go_wp2_with fail
  rw [← hW]
  clear hW
  refine (heldProcS_rep a0 n0 c0 x0 (m) W HZ0.out hs0 (by rw [HV0.out]; exact hV0') (by omega) (by omega) (AtSl.below A0.out B0)).mono ?_
  rintro e w0 ⟨rfl, hb0⟩
  rw [HV0.out]
  have B1 := B0.trans (hb0.mono B0.size)
  have p1 := cell_later hb0 p1
  have y1 : ¬ m + (V0 : Int) + (V1 : Int) < 0 := by omega
  go_wp2_with fail
  refine (heldWireS_rep a1 n1 c1 x1 (m + (V0 : Int)) w0 HZ1.out hs1 HD1.out (by rw [HV1.out]; exact hV1') (by omega) (by omega) (AtSl.below A1.out B1)).mono ?_
  rintro e w1 ⟨rfl, hb1⟩
  rw [HV1.out]
  have B2 := B1.trans (hb1.mono B1.size)
  go_wp2
  go_ret
  exact ⟨ret_int (by push_cast; omega), B2⟩

end Go.Proofs.Ythfndafgllcelaa
