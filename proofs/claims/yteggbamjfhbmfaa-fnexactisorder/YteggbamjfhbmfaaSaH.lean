/- Contract of the laws' szStats. -/
import Derived.Test.YteggbamjfhbmfaaSaG
namespace Go.Proofs.Yteggbamjfhbmfaa
open Go.RowKit

/-- What the laws count for statistics. -/
def scost (x : Sta) : Nat := x.1.length + (x.2.length + tot x.2 x.2.length)

set_option maxRecDepth 100000 in
set_option maxHeartbeats 1000000 in
theorem szStats_any (sa : Option Addr) (sn sc : Nat) (pa : Option Addr) (pn pc : Nat) (ss : List Int) (xs : List (List Int)) (l : Int) (w : World) (hs : ss.length = sn) (hsn : sn ≤ 9223372036854775807) (hz : xs.length = pn) (hn : pn ≤ 9223372036854775807) (h0 : 0 ≤ l) (h1 : l ≤ 1048576) (ha : AtS w pa xs) :
    Calls Try.prog 25 #[.agg #[.slice sa sn sc, .slice pa pn pc], .int .i64 l] w fun e w' => e = .returned (.int .i64 (leftOf l (scost (ss, xs)))) ∧ Below w.heap.size w w' := by
  obtain ⟨C, hC⟩ : ∃ C, pn + tot xs pn = C := ⟨_, rfl⟩
  have hv : scost (ss, xs) = sn + C := by unfold scost; simp only; rw [hs, hz, hC]
  rw [hv]
  clear hv
  have HC := Hid.mk hC
  clear hC
  obtain ⟨W, hW⟩ : ∃ W, W = w.alloc (.cells #[.slice sa sn sc, .slice pa pn pc] 50) := ⟨_, rfl⟩
  have B0 : Below w.heap.size w W := by rw [hW]; exact (Below.refl _ _).alloc (Nat.le_refl _) _
  have q1 : W.cell? ⟨w.heap.size, 1, none⟩ = some (.slice pa pn pc) := by rw [hW]; simp
  have HZ := Hid.mk hz
  have HA := Hid.mk (AtS.below ha B0)
  clear hz hs ha
  by_cases c1 : l < sn
  · go_enter Try.func25, Try.ntmps25
    go_wp2_with fail
    rw [← hW]
    clear hW
    refine (szIntS_any sa sn sc l W hsn h0 h1).mono ?_
    rintro e w2 ⟨rfl, rfl⟩
    rw [if_pos c1]
    go_wp2
    go_ret
    exact ⟨ret_int (leftOf_no (by omega)).symm, B0⟩
  by_cases c2 : l - sn < (C : Int)
  · go_enter Try.func25, Try.ntmps25
    have d1 : ¬ l - (sn : Int) < 0 := by omega
    go_wp2_with fail
    rw [← hW]
    clear hW
    refine (szIntS_any sa sn sc l W hsn h0 h1).mono ?_
    rintro e w2 ⟨rfl, h9⟩
    obtain rfl := h9.symm
    rw [if_neg (by omega)]
    go_wp2_with fail
    refine (szPairs_nat pa pn pc xs (l - sn) _ HZ.out hn (by omega) (by omega) HA.out).mono ?_
    rintro e w3 ⟨rfl, hb⟩
    rw [HC.out, leftOf_no c2]
    go_wp2
    go_ret
    exact ⟨ret_int (leftOf_no (by omega)).symm, B0.trans (hb.mono B0.size)⟩
  · go_enter Try.func25, Try.ntmps25
    have d1 : ¬ l - (sn : Int) < 0 := by omega
    have d2 : ¬ l - (sn : Int) - (C : Int) < 0 := by omega
    go_wp2_with fail
    rw [← hW]
    clear hW
    refine (szIntS_any sa sn sc l W hsn h0 h1).mono ?_
    rintro e w2 ⟨rfl, h9⟩
    obtain rfl := h9.symm
    rw [if_neg (by omega)]
    go_wp2_with fail
    refine (szPairs_nat pa pn pc xs (l - sn) _ HZ.out hn (by omega) (by omega) HA.out).mono ?_
    rintro e w3 ⟨rfl, hb⟩
    rw [HC.out, leftOf_yes (by omega)]
    go_wp2
    go_ret
    exact ⟨ret_int (by rw [leftOf_yes (by omega)]; omega), B0.trans (hb.mono B0.size)⟩

end Go.Proofs.Yteggbamjfhbmfaa
