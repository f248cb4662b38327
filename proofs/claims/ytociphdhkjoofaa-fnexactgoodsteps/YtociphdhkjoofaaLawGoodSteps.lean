/- The law FnExactGoodSteps returns true at every input, and writes nothing that was there. -/
import Derived.Test.YtociphdhkjoofaaSrI
namespace Go.Proofs.Ytociphdhkjoofaa
open Go.RowKit

set_option maxRecDepth 100000 in
set_option maxHeartbeats 16000000 in
theorem lawGoodSteps (a0 : Option Addr) (n0 c0 : Nat) (z0 : List TStep) (w : World) (hz0 : z0.length = n0) (hn0 : n0 ≤ 9223372036854775807) (ha0 : At w a0 (flStep z0)) :
    Calls Try.prog 4 #[.slice a0 n0 c0] w fun e w' => e = .returned (.bool true) ∧ Below w.heap.size w w' := by
  have HA0 := Hid.mk ha0
  have HZ0 := Hid.mk hz0
  clear ha0 hz0
  have B0 : Below w.heap.size w w := Below.refl _ _
  obtain ⟨C0, hC0⟩ : ∃ C : Nat, costStep n0 = C := ⟨_, rfl⟩
  have HC0 := Hid.mk hC0
  clear hC0
  by_cases big0 : (1048576 : Int) < (C0 : Int)
  · go_enter Try.func4, Try.ntmps4
    go_wp2_with fail
    refine (szStepS_any a0 n0 c0 _ _ hn0 (by omega) (by omega)).mono ?_
    rintro e v0 ⟨rfl, hv0⟩
    rw [HC0.out, leftOf_no big0]
    have y0 := B0.trans (hv0.mono B0.size)
    go_wp2
    go_ret
    exact ⟨rfl, y0⟩
  have hl0 : ¬ (1048576 : Int) - (C0 : Int) < 0 := by omega
  have hsn0 : n0 ≤ 1048576 := by have q := HC0.out; unfold costStep at q; omega
  have HVB0 : n0 * 3 ≤ 3145728 := by omega
  obtain ⟨V0, hV0⟩ : ∃ V : Nat, n0 * 3 = V := ⟨_, rfl⟩
  rw [hV0] at HVB0
  have HV0 := Hid.mk hV0
  clear hV0
  obtain ⟨b1, HS, HI⟩ : ∃ (b1 : Bool), Hid (∀ (x0 : Nat) (w : World) (F0 : Nat → Prop), RSteps.Own w F0 [.slice (some ⟨x0, 0, none⟩) n0 n0] z0 → Calls Try.prog 17 #[.slice (some ⟨x0, 0, none⟩) n0 n0] w fun e w' => e = .returned (.bool b1) ∧ Below w.heap.size w w') ∧ Hid (∀ (x0 : Nat) (w : World) (F0 : Nat → Prop), RSteps.Own w F0 [.slice (some ⟨x0, 0, none⟩) n0 n0] z0 → Calls Try.prog 19 #[.slice (some ⟨x0, 0, none⟩) n0 n0] w fun e w' => e = .returned (.bool b1) ∧ Below w.heap.size w w') := ⟨gpB z0, fun x0 w F0 o0 => specGoodSteps (some ⟨x0, 0, none⟩) n0 n0 z0 w HZ0.out hn0 (RSteps.at o0), fun x0 w F0 o0 => implGoodSteps (some ⟨x0, 0, none⟩) n0 n0 z0 w HZ0.out hn0 (RSteps.at o0)⟩
  go_enter Try.func4, Try.ntmps4
  go_wp2_with fail
  refine (szStepS_any a0 n0 c0 _ _ hn0 (by omega) (by omega)).mono ?_
  rintro e w1 ⟨rfl, hb1⟩
  rw [HC0.out, leftOf_yes (by omega)]
  have B_1 := B0.trans (hb1.mono B0.size)
  have zz1 : w.heap.size ≤ w1.heap.size := hb1.size
  clear hb1
  go_wp2_with fail
  refine (toStepS_rep a0 n0 c0 z0 _ HZ0.out hsn0 (At.below HA0.out B_1)).mono ?_
  rintro e w2 ⟨g2, rfl, ho2, hb2⟩
  have ot0_2 := Hid.mk ho2
  clear ho2
  have B_2 := B_1.trans (hb2.mono B_1.size)
  have zz2 : w1.heap.size ≤ w2.heap.size := hb2.size
  clear B_1
  clear hb2
  go_wp2_with fail
  refine (HS.out _ _ _ ot0_2.out).mono ?_
  rintro e w3 ⟨rfl, hb3⟩
  clear ot0_2
  have B_3 := B_2.trans (hb3.mono B_2.size)
  have zz3 : w2.heap.size ≤ w3.heap.size := hb3.size
  clear B_2
  clear hb3
  go_wp2_with fail
  refine (toStepS_rep a0 n0 c0 z0 _ HZ0.out hsn0 (At.below HA0.out B_3)).mono ?_
  rintro e w4 ⟨g4, rfl, ho4, hb4⟩
  have ox0_4 := Hid.mk ho4
  clear ho4
  have B_4 := B_3.trans (hb4.mono B_3.size)
  have zz4 : w3.heap.size ≤ w4.heap.size := hb4.size
  clear B_3
  clear hb4
  go_wp2_with fail
  refine (HI.out _ _ _ ox0_4.out).mono ?_
  rintro e w5 ⟨rfl, hb5⟩
  have ox0_5 := Hid.mk (RSteps.ownBelow ox0_4.out hb5)
  have B_5 := B_4.trans (hb5.mono B_4.size)
  have zz5 : w4.heap.size ≤ w5.heap.size := hb5.size
  clear ox0_4 B_4
  clear hb5
  go_wp2_with fail
  refine (toStepS_rep a0 n0 c0 z0 _ HZ0.out hsn0 (At.below HA0.out B_5)).mono ?_
  rintro e w6 ⟨g6, rfl, ho6, hb6⟩
  have oy_6 := Hid.mk ho6
  clear ho6
  have ox0_6 := Hid.mk (RSteps.ownBelow ox0_5.out hb6)
  have B_6 := B_5.trans (hb6.mono B_5.size)
  have zz6 : w5.heap.size ≤ w6.heap.size := hb6.size
  clear ox0_5 B_5
  clear hb6
  go_wp2_with fail
  refine (eqStepS_same _ _ n0 _ _ z0 _ HZ0.out hsn0 (RSteps.at ox0_6.out) (RSteps.at oy_6.out)).mono ?_
  rintro e w7 ⟨rfl, hb7⟩
  clear oy_6
  have ox0_7 := Hid.mk (RSteps.ownBelow ox0_6.out hb7)
  have B_7 := B_6.trans (hb7.mono B_6.size)
  have zz7 : w6.heap.size ≤ w7.heap.size := hb7.size
  clear ox0_6 B_6
  clear hb7
  go_wp2
  go_ret
  exact ⟨rfl, B_7⟩

end Go.Proofs.Ytociphdhkjoofaa
