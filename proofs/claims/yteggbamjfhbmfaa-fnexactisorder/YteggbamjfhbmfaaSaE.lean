/- Contract of the laws' eqStats, of equal ones. -/
import Derived.Test.YteggbamjfhbmfaaSaT
import Derived.Test.YteggbamjfhbmfaaIntE
namespace Go.Proofs.Yteggbamjfhbmfaa
open Go.RowKit

set_option maxRecDepth 100000 in
set_option maxHeartbeats 2000000 in
theorem eqStats_same (sa sa' : Option Addr) (sn sc sc' : Nat) (pa pa' : Option Addr) (pn pc pc' : Nat) (ss : List Int) (xs : List (List Int)) (w : World) (hsz : ss.length = sn) (hz : xs.length = pn) (hsn : sn ≤ 1048576) (hpn : pn ≤ 1048576) (hsm : ∀ i, i < xs.length → (xs.getD i []).length ≤ 1048576) (hsa : At w sa ss) (ha : AtS w pa xs) (hsa' : At w sa' ss) (ha' : AtS w pa' xs) :
    Calls Try.prog 29 #[.agg #[.slice sa sn sc, .slice pa pn pc], .agg #[.slice sa' sn sc', .slice pa' pn pc']] w fun e w' => e = .returned (.bool true) ∧ Below w.heap.size w w' := by
  obtain ⟨W, hW⟩ : ∃ W, W = ((w.alloc (.cells #[.slice sa sn sc, .slice pa pn pc] 53)).alloc (.cells #[.slice sa' sn sc', .slice pa' pn pc'] 53)) := ⟨_, rfl⟩
  have B0 : Below w.heap.size w W := by rw [hW]; exact (((Below.refl _ _).alloc (Nat.le_refl _) _).alloc (by simp) _)
  have q0 : W.cell? ⟨w.heap.size, 1, none⟩ = some (.slice pa pn pc) := by rw [hW]; simp
  have q1 : W.cell? ⟨w.heap.size + 1, 1, none⟩ = some (.slice pa' pn pc') := by rw [hW]; simp
  have U3 := Hid.mk (And.intro hsa hsa')
  have V3 := Hid.mk (And.intro ha ha')
  have HU1 := Hid.mk hsz
  have HSM := Hid.mk hsm
  have HV1 := Hid.mk hz
  clear hsa ha hsa' ha' hsz hz hsm
  go_enter Try.func29, Try.ntmps29
  go_wp2_with fail
  rw [← hW]
  clear hW
  refine (eqIntS_same sa sa' sn sc sc' ss W HU1.out hsn (At.below U3.out.1 B0) (At.below U3.out.2 B0)).mono ?_
  rintro e w1 ⟨rfl, hb1⟩
  have B1 := B0.trans (hb1.mono B0.size)
  have q0 := cell_later hb1 q0
  have q1 := cell_later hb1 q1
  clear hb1 B0
  go_wp2_with fail
  refine (eqIntSS_same pa pa' pn pc pc' xs w1 HV1.out hpn HSM.out (AtS.below V3.out.1 B1) (AtS.below V3.out.2 B1)).mono ?_
  rintro e w2 ⟨rfl, hb2⟩
  go_wp2
  go_ret
  exact ⟨rfl, B1.trans (hb2.mono B1.size)⟩

end Go.Proofs.Yteggbamjfhbmfaa
