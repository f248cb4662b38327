/- Contracts of the laws' mark of Snap over things that are owned. -/
import Derived.Test.YthfndafgllcelaaSnpE
import Derived.Test.YthfndafgllcelaaIntM
import Derived.Test.YthfndafgllcelaaPrM
import Derived.Test.YthfndafgllcelaaWiM
namespace Go.Proofs.Ythfndafgllcelaa
open Go.RowKit

set_option maxRecDepth 100000 in
set_option maxHeartbeats 8000000 in
theorem markSnap_rep (F : Nat → Prop) (a0 : Option Addr) (n0 : Nat) (c0 : Nat) (a1 : Option Addr) (n1 : Nat) (c1 : Nat)  (x0 : List TProc) (x1 : List TWire) (M : Int) (w : World) (hz0 : x0.length = n0) (hs0 : n0 ≤ 1048576) (hz1 : x1.length = n1) (hs1 : n1 ≤ 1048576) (hd1 : ∀ (i : Nat) (x : TWire), x1[i]? = some x → costWire x ≤ 1048576) (hc1 : csumWire x1 n1 ≤ 1048576) (hM0 : 0 ≤ M) (hM1 : M ≤ 16777216) (hF : ∀ b, F b → b < w.heap.size) (ho : RSnap.Own w F [.slice a0 n0 c0, .slice a1 n1 c1] (x0, x1)) :
    Calls Try.prog 15 #[.agg #[.slice a0 n0 c0, .slice a1 n1 c1], .int .i64 M] w fun e w' => e = .returned (.int .i64 (M + (mknSnap (x0, x1) : Nat))) ∧ RSnap.Own w' F [.slice a0 n0 c0, .slice a1 n1 c1] (mkSnap M (x0, x1)) ∧ Off F w w' := by
  obtain ⟨F0, F1, r0, r1, f0, f1, d01⟩ := RSnap.own_iff ho
  clear ho
  have hv : mknSnap (x0, x1) = msumProc x0 n0 + msumWire x1 n1 := by unfold mknSnap; simp only; rw [hz0, hz1]
  rw [hv]
  have HMK : Hid (mkSnap M (x0, x1) = (mkProcs (M) x0, mkWires (M + (msumProc x0 n0 : Int)) x1)) := Hid.mk (by unfold mkSnap; simp only [hz0])
  obtain ⟨V0, hV0⟩ : ∃ V : Nat, msumProc x0 n0 = V := ⟨_, rfl⟩
  have hV0' : V0 ≤ 4194304 := by rw [← hV0, msumProc_eq x0 n0 (by omega)]; omega
  obtain ⟨V1, hV1⟩ : ∃ V : Nat, msumWire x1 n1 = V := ⟨_, rfl⟩
  have hV1' : V1 ≤ 4194304 := by have q := hc1; rw [← hV1, msumWire_eq x1 n1 (by omega)]; omega
  obtain ⟨W, hW⟩ : ∃ W, W = w.alloc (.cells #[.slice a0 n0 c0, .slice a1 n1 c1] 26) := ⟨_, rfl⟩
  have B0 : Below w.heap.size w W := by rw [hW]; exact (Below.refl _ _).alloc (Nat.le_refl _) _
  have p1 : W.cell? ⟨w.heap.size, 1, none⟩ = some (.slice a1 n1 c1) := by rw [hW]; simp
  have R0 := Hid.mk (RProcs.ownBelow r0 B0)
  have HG0 : Hid (¬ F0 w.heap.size) := Hid.mk (fun h => by have := hF _ (f0 _ h); omega)
  have HF0 := Hid.mk f0
  have HZ0 := Hid.mk hz0
  have R1 := Hid.mk (RWires.ownBelow r1 B0)
  have HG1 : Hid (¬ F1 w.heap.size) := Hid.mk (fun h => by have := hF _ (f1 _ h); omega)
  have HF1 := Hid.mk f1
  have HZ1 := Hid.mk hz1
  have HDD1 := Hid.mk hd1
  clear hd1
  have HD01 := Hid.mk d01
  clear d01
  have HO : Hid (Off F w W) := Hid.mk (Off.below B0)
  clear r0 f0 hz0 r1 f1 hz1 hv B0 hF hc1
  have HV0 := Hid.mk hV0
  clear hV0
  have HV1 := Hid.mk hV1
  clear hV1
  go_enter Try.func15, Try.ntmps15
  go_wp2_with fail
  rw [← hW]
  clear hW
  refine (markProcS_rep F0 a0 n0 c0 x0 (M) W hs0 (by rw [HV0.out]; exact hV0') (by omega) (by omega) R0.out).mono ?_
  rintro e w0 ⟨rfl, o0, g0⟩
  rw [HV0.out]
  have p1 := g0.cell p1 HG0.out
  have R1_0 := Hid.mk (RWires.ownOff R1.out g0 (fun b hb h => HD01.out b h hb))
  clear R1
  have R0_0 := Hid.mk o0
  have HO' := Hid.mk (HO.out.trans (g0.mono HF0.out))
  clear R0 o0 g0 HO
  have HO := HO'
  clear HO'
  go_wp2_with fail
  refine (markWireS_rep F1 a1 n1 c1 x1 (M + (V0 : Int)) w0 hs1 HDD1.out (by rw [HV1.out]; exact hV1') (by omega) (by omega) R1_0.out).mono ?_
  rintro e w1 ⟨rfl, o1, g1⟩
  rw [HV1.out]
  have R0_1 := Hid.mk (RProcs.ownOff R0_0.out g1 (fun b hb h => HD01.out b hb h))
  clear R0_0
  have R1_1 := Hid.mk o1
  have HO' := Hid.mk (HO.out.trans (g1.mono HF1.out))
  clear R1_0 o1 g1 HO
  have HO := HO'
  clear HO'
  have HR : Hid (RSnap.Own w1 F [.slice a0 n0 c0, .slice a1 n1 c1] (mkSnap M (x0, x1))) := Hid.mk (by
    rw [HMK.out, HV0.out]
    exact RSnap.own_mk R0_1.out R1_1.out HF0.out HF1.out HD01.out)
  clear R0_1 R1_1 HMK
  go_wp2
  go_ret
  exact ⟨ret_int (by rw [HV0.out]; rw [HV1.out]; push_cast; omega), HR.out, HO.out⟩


end Go.Proofs.Ythfndafgllcelaa
