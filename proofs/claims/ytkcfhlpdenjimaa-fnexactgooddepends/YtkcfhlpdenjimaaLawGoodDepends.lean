/- The law FnExactGoodDepends returns true at every input, and writes nothing that was there. -/
import Derived.Test.YtkcfhlpdenjimaaLawD
import Derived.Test.YtkcfhlpdenjimaaDepI
namespace Go.Proofs.Ytkcfhlpdenjimaa
open Go.RowKit

set_option maxHeartbeats 2000000 in
theorem lawGoodDepends (a0 : Option Addr) (n0 c0 : Nat) (z0 : List Dep) (a1 : Int) (w : World) (hz : z0.length = n0) (hn : n0 ≤ 9223372036854775807) (ha : AtD w a0 z0) (_w1 : (Lit.int .i64 a1).wf = true) :
    Calls Try.prog 3 #[.slice a0 n0 c0, .int .i64 a1] w fun e w' => e = .returned (.bool true) ∧ Below w.heap.size w w' := by
  have HA := Hid.mk ha
  clear ha
  by_cases hbig : (1048576 : Int) < (n0 + dsum z0 n0 : Nat)
  · go_enter Try.func3, Try.ntmps3
    go_wp2_with fail
    refine (szDependS_any _ _ _ z0 _ _ hz hn (by omega) (by omega) HA.out).mono ?_
    rintro e w1 ⟨rfl, hb1⟩
    rw [leftOf_no hbig]
    go_wp2
    go_ret
    exact ⟨rfl, hb1⟩
  · have hs : SmD z0 n0 := ⟨hz, by omega⟩
    have HS := Hid.mk hs
    have hsn := hs.n
    obtain ⟨T, hT⟩ : ∃ T : Nat, n0 + dsum z0 n0 = T := ⟨_, rfl⟩
    have hl : ¬ (1048576 : Int) - (T : Int) < 0 := by omega
    have HT := Hid.mk hT
    rw [hT] at hbig
    have HZ := Hid.mk hz
    clear hs hT hz
    go_enter Try.func3, Try.ntmps3
    go_wp2_with fail
    refine (szDependS_any _ _ _ z0 _ _ HZ.out hn (by omega) (by omega) HA.out).mono ?_
    rintro e w1 ⟨rfl, B1⟩
    rw [HT.out, leftOf_yes (by omega)]
    go_wp2_with fail
    refine (toDependSG _ _ _ z0 _ HS.out (HA.out.below B1)).mono ?_
    rintro e w2 ⟨g2, rfl, ho2, hb2⟩
    have B2 : Below w.heap.size w w2 := B1.trans (hb2.mono B1.size)
    have HO2 := Hid.mk ho2
    clear hb2 B1 ho2
    go_wp2_with fail
    refine (specGoodDepends _ _ _ z0 a1 _ HZ.out hn HO2.out.atD0).mono ?_
    rintro e w3 ⟨rfl, hb3⟩
    have B3 : Below w.heap.size w w3 := B2.trans (hb3.mono B2.size)
    clear hb3 B2 HO2
    go_wp2_with fail
    refine (toDependSG _ _ _ z0 _ HS.out (HA.out.below B3)).mono ?_
    rintro e w4 ⟨g4, rfl, ho4, hb4⟩
    have B4 : Below w.heap.size w w4 := B3.trans (hb4.mono B3.size)
    have HO4 := Hid.mk ho4
    clear hb4 B3 ho4
    go_wp2_with fail
    refine (implGoodDepends _ _ _ z0 a1 _ HZ.out hn HO4.out.atD0).mono ?_
    rintro e w5 ⟨rfl, hb5⟩
    have B5 : Below w.heap.size w w5 := B4.trans (hb5.mono B4.size)
    have HO5 := Hid.mk (HO4.out.below hb5)
    clear hb5 B4 HO4
    go_wp2_with fail
    refine (toDependSG _ _ _ z0 _ HS.out (HA.out.below B5)).mono ?_
    rintro e w6 ⟨g6, rfl, ho6, hb6⟩
    have B6 : Below w.heap.size w w6 := B5.trans (hb6.mono B5.size)
    have HO6 := Hid.mk (HO5.out.below hb6)
    have HO7 := Hid.mk ho6
    clear hb6 B5 HO5 ho6
    go_wp2_with fail
    refine (eqDependSG _ _ _ _ _ z0 _ HS.out HO6.out.atD0 HO7.out.atD0).mono ?_
    rintro e w7 ⟨rfl, hb7⟩
    go_wp2
    go_ret
    exact ⟨rfl, B6.trans (hb7.mono B6.size)⟩

end Go.Proofs.Ytkcfhlpdenjimaa
