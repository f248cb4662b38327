/- Several texts of one proof, in build order: LawSerialRun, Open, OpenP, OpStep. -/
import Derived.Test.YtociphdhkjoofaaDoorM12
import Derived.Test.YtociphdhkjoofaaDoorM14
import Derived.Test.YtociphdhkjoofaaDoorM10
import Derived.Test.YtociphdhkjoofaaDoorM0
import Derived.ProofKit
import Derived.OpenShut
import Derived.ShutString
import Derived.ChangeOld
import Derived.Lib.SmallJoins
import Derived.Test.YtociphdhkjoofaaDoorM1
import Derived.Test.YtociphdhkjoofaaDoorM4

/- The law FnExactSerialRun returns true at every input, and writes nothing that was there. -/
namespace Go.Proofs.YtociphdhkjoofaaDoor
open Go.RowKit

set_option maxRecDepth 100000 in
set_option maxHeartbeats 16000000 in
theorem lawSerialRun (a0 : Option Addr) (n0 c0 : Nat) (z0 : List TStep) (a1 : Option Addr) (n1 c1 : Nat) (z1 : List Int) (w : World) (hz0 : z0.length = n0) (hn0 : n0 ≤ 9223372036854775807) (ha0 : At w a0 (flStep z0)) (hz1 : z1.length = n1) (hn1 : n1 ≤ 9223372036854775807) (ha1 : At w a1 z1) (htab : TabB w) :
    Calls Tryd.prog 5 #[.slice a0 n0 c0, .slice a1 n1 c1] w fun e w' => e = .returned (.bool true) ∧ Below w.heap.size w w' := by
  have HA0 := Hid.mk ha0
  have HZ0 := Hid.mk hz0
  clear ha0 hz0
  have HA1 := Hid.mk ha1
  have HZ1 := Hid.mk hz1
  clear ha1 hz1
  have HTAB := Hid.mk htab
  clear htab
  have B0 : Below w.heap.size w w := Below.refl _ _
  by_cases big1 : 1048576 < n1
  · have big1' : (1048576 : Int) < (n1 : Int) := by omega
    go_enter Tryd.func5, Tryd.ntmps5
    go_wp2
    go_ret
    exact ⟨rfl, B0⟩
  have hb1' : ¬ (1048576 : Int) < (n1 : Int) := by omega
  have hsn1 : n1 ≤ 1048576 := by omega
  have HVB1 := hsn1
  obtain ⟨C0, hC0⟩ : ∃ C : Nat, costStep n0 = C := ⟨_, rfl⟩
  have HC0 := Hid.mk hC0
  clear hC0
  by_cases big0 : (1048576 : Int) < (C0 : Int)
  · go_enter Tryd.func5, Tryd.ntmps5
    go_wp2_with fail
    refine (szStepS_any a0 n0 c0 _ _ hn0 (by omega) (by omega)).mono ?_
    rintro e v0 ⟨rfl, hv0⟩
    rw [HC0.out, leftOf_no big0]
    have y0 := B0.trans (hv0.mono B0.size)
    go_wp2
    go_ret
    exact ⟨rfl, y0⟩
  have hl0 : ¬ (1048576 : Int) - (C0 : Int) < 0 := by omega
  have hsn0 : n0 ≤ 1048576 := by have q := HC0.out; unfold costStep at q; omega
  have HVB0 : n0 * 3 ≤ 3145728 := by omega
  obtain ⟨V0, hV0⟩ : ∃ V : Nat, n0 * 3 = V := ⟨_, rfl⟩
  rw [hV0] at HVB0
  have HV0 := Hid.mk hV0
  clear hV0
  obtain ⟨v0, ta, hta, HS, HI⟩ : ∃ (v0 : Bool) (ta : List TStep), ta.length ≤ 40 ∧ Hid (∀ (x0 : Nat) (x1 : Nat) (w : World) (F0 F1 : Nat → Prop), RSteps.Own w F0 [.slice (some ⟨x0, 0, none⟩) n0 n0] z0 → RInts.Own w F1 [.slice (some ⟨x1, 0, none⟩) n1 n1] z1 → Calls Tryd.prog 20 #[.slice (some ⟨x0, 0, none⟩) n0 n0, .slice (some ⟨x1, 0, none⟩) n1 n1] w fun e w' => StepsRet e w' w.heap.size v0 ta ∧ Below w.heap.size w w') ∧ Hid (∀ (x0 : Nat) (x1 : Nat) (w : World) (F0 F1 : Nat → Prop), RSteps.Own w F0 [.slice (some ⟨x0, 0, none⟩) n0 n0] z0 → RInts.Own w F1 [.slice (some ⟨x1, 0, none⟩) n1 n1] z1 → TabB w → Calls Tryd.prog 22 #[.slice (some ⟨x0, 0, none⟩) n0 n0, .slice (some ⟨x1, 0, none⟩) n1 n1] w fun e w' => StepsRet e w' w.heap.size v0 ta ∧ Below w.heap.size w w') := ⟨snB z0 z1, snL z0 z1, snL_len z0 z1, fun x0 x1 w F0 F1 o0 o1 => specSerialRun (some ⟨x0, 0, none⟩) n0 n0 z0 (some ⟨x1, 0, none⟩) n1 n1 z1 w HZ0.out hsn0 (RSteps.at o0) HZ1.out hsn1 (ints_at o1), fun x0 x1 w F0 F1 o0 o1 ht => implSerialRun (some ⟨x0, 0, none⟩) n0 n0 z0 (some ⟨x1, 0, none⟩) n1 n1 z1 w HZ0.out hsn0 (RSteps.at o0) HZ1.out hsn1 (ints_at o1) ht⟩
  obtain ⟨na, hna⟩ : ∃ na, ta.length = na := ⟨_, rfl⟩
  rw [hna] at hta
  have HNA := Hid.mk hna
  clear hna
  obtain ⟨VA, hVA⟩ : ∃ V : Nat, na * 3 = V := ⟨_, rfl⟩
  have hvA : VA ≤ 1048576 := by omega
  have HVA := Hid.mk hVA
  clear hVA
  go_enter Tryd.func5, Tryd.ntmps5
  go_wp2_with fail
  refine (szStepS_any a0 n0 c0 _ _ hn0 (by omega) (by omega)).mono ?_
  rintro e w1 ⟨rfl, hb1⟩
  rw [HC0.out, leftOf_yes (by omega)]
  have B_1 := B0.trans (hb1.mono B0.size)
  have zz1 : w.heap.size ≤ w1.heap.size := hb1.size
  clear hb1
  go_wp2_with fail
  refine (toStepS_rep a0 n0 c0 z0 _ HZ0.out hsn0 (At.below HA0.out B_1)).mono ?_
  rintro e w2 ⟨g2, rfl, ho2, hb2⟩
  have ot0_2 := Hid.mk ho2
  clear ho2
  have B_2 := B_1.trans (hb2.mono B_1.size)
  have zz2 : w1.heap.size ≤ w2.heap.size := hb2.size
  clear B_1
  clear hb2
  go_wp2_with fail
  refine (toInts_rep a1 n1 c1 z1 _ HZ1.out hsn1 (At.below HA1.out B_2)).mono ?_
  rintro e w3 ⟨g3, rfl, ho3, hb3⟩
  have ot1_3 := Hid.mk ho3
  clear ho3
  have ot0_3 := Hid.mk (RSteps.ownBelow ot0_2.out hb3)
  have B_3 := B_2.trans (hb3.mono B_2.size)
  have zz3 : w2.heap.size ≤ w3.heap.size := hb3.size
  clear ot0_2 B_2
  clear hb3
  go_wp2_with fail
  refine (HS.out _ _ _ _ _ ot0_3.out ot1_3.out).mono ?_
  rintro e w4 ⟨⟨r4, m4, d4, rfl, hm4, ho4⟩, hb4⟩
  clear ot0_3
  clear ot1_3
  obtain rfl : na = m4 := HNA.out.symm.trans hm4
  have oo_4 := Hid.mk (RSteps.of_owns HNA.out (by omega) ho4)
  clear ho4 hm4
  have B_4 := B_3.trans (hb4.mono B_3.size)
  have zz4 : w3.heap.size ≤ w4.heap.size := hb4.size
  clear B_3
  clear hb4
  go_wp2_with fail
  refine (toStepS_rep a0 n0 c0 z0 _ HZ0.out hsn0 (At.below HA0.out B_4)).mono ?_
  rintro e w5 ⟨g5, rfl, ho5, hb5⟩
  have ox0_5 := Hid.mk ho5
  clear ho5
  have oo_5 := Hid.mk (RSteps.ownBelow oo_4.out hb5)
  have B_5 := B_4.trans (hb5.mono B_4.size)
  have zz5 : w4.heap.size ≤ w5.heap.size := hb5.size
  clear oo_4 B_4
  clear hb5
  go_wp2_with fail
  refine (toInts_rep a1 n1 c1 z1 _ HZ1.out hsn1 (At.below HA1.out B_5)).mono ?_
  rintro e w6 ⟨g6, rfl, ho6, hb6⟩
  have ox1_6 := Hid.mk ho6
  clear ho6
  have oo_6 := Hid.mk (RSteps.ownBelow oo_5.out hb6)
  have ox0_6 := Hid.mk (RSteps.ownBelow ox0_5.out hb6)
  have B_6 := B_5.trans (hb6.mono B_5.size)
  have zz6 : w5.heap.size ≤ w6.heap.size := hb6.size
  clear oo_5 ox0_5 B_5
  clear hb6
  go_wp2_with fail
  refine (HI.out _ _ _ _ _ ox0_6.out ox1_6.out (TabIs.below HTAB.out B_6)).mono ?_
  rintro e w7 ⟨⟨r7, m7, d7, rfl, hm7, ho7⟩, hb7⟩
  obtain rfl : na = m7 := HNA.out.symm.trans hm7
  have og_7 := Hid.mk (RSteps.of_owns HNA.out (by omega) ho7)
  clear ho7 hm7
  have oo_7 := Hid.mk (RSteps.ownBelow oo_6.out hb7)
  have ox0_7 := Hid.mk (RSteps.ownBelow ox0_6.out hb7)
  have ox1_7 := Hid.mk (RInts.ownBelow ox1_6.out hb7)
  have B_7 := B_6.trans (hb7.mono B_6.size)
  have zz7 : w6.heap.size ≤ w7.heap.size := hb7.size
  clear oo_6 ox0_6 ox1_6 B_6
  clear hb7
  go_wp2_with fail
  refine (eqStepS_same _ _ na _ _ ta _ HNA.out (by omega) (RSteps.at og_7.out) (RSteps.at oo_7.out)).mono ?_
  rintro e w8 ⟨rfl, hb8⟩
  have oo_8 := Hid.mk (RSteps.ownBelow oo_7.out hb8)
  have ox0_8 := Hid.mk (RSteps.ownBelow ox0_7.out hb8)
  have ox1_8 := Hid.mk (RInts.ownBelow ox1_7.out hb8)
  have og_8 := Hid.mk (RSteps.ownBelow og_7.out hb8)
  have B_8 := B_7.trans (hb8.mono B_7.size)
  have zz8 : w7.heap.size ≤ w8.heap.size := hb8.size
  clear oo_7 ox0_7 ox1_7 og_7 B_7
  clear hb8
  go_wp2_with fail
  refine (toStepS_rep a0 n0 c0 z0 _ HZ0.out hsn0 (At.below HA0.out B_8)).mono ?_
  rintro e w9 ⟨g9, rfl, ho9, hb9⟩
  have oy_9 := Hid.mk ho9
  clear ho9
  have oo_9 := Hid.mk (RSteps.ownBelow oo_8.out hb9)
  have ox0_9 := Hid.mk (RSteps.ownBelow ox0_8.out hb9)
  have ox1_9 := Hid.mk (RInts.ownBelow ox1_8.out hb9)
  have og_9 := Hid.mk (RSteps.ownBelow og_8.out hb9)
  have B_9 := B_8.trans (hb9.mono B_8.size)
  have zz9 : w8.heap.size ≤ w9.heap.size := hb9.size
  clear oo_8 ox0_8 ox1_8 og_8 B_8
  clear hb9
  go_wp2_with fail
  refine (eqStepS_same _ _ n0 _ _ z0 _ HZ0.out hsn0 (RSteps.at ox0_9.out) (RSteps.at oy_9.out)).mono ?_
  rintro e w10 ⟨rfl, hb10⟩
  clear oy_9
  have oo_10 := Hid.mk (RSteps.ownBelow oo_9.out hb10)
  have ox0_10 := Hid.mk (RSteps.ownBelow ox0_9.out hb10)
  have ox1_10 := Hid.mk (RInts.ownBelow ox1_9.out hb10)
  have og_10 := Hid.mk (RSteps.ownBelow og_9.out hb10)
  have B_10 := B_9.trans (hb10.mono B_9.size)
  have zz10 : w9.heap.size ≤ w10.heap.size := hb10.size
  clear oo_9 ox0_9 ox1_9 og_9 B_9
  clear hb10
  go_wp2_with fail
  refine (toInts_rep a1 n1 c1 z1 _ HZ1.out hsn1 (At.below HA1.out B_10)).mono ?_
  rintro e w11 ⟨g11, rfl, ho11, hb11⟩
  have oy_11 := Hid.mk ho11
  clear ho11
  have oo_11 := Hid.mk (RSteps.ownBelow oo_10.out hb11)
  have ox0_11 := Hid.mk (RSteps.ownBelow ox0_10.out hb11)
  have ox1_11 := Hid.mk (RInts.ownBelow ox1_10.out hb11)
  have og_11 := Hid.mk (RSteps.ownBelow og_10.out hb11)
  have B_11 := B_10.trans (hb11.mono B_10.size)
  have zz11 : w10.heap.size ≤ w11.heap.size := hb11.size
  clear oo_10 ox0_10 ox1_10 og_10 B_10
  clear hb11
  go_wp2_with fail
  refine (eqIntS_same _ _ n1 _ _ z1 _ HZ1.out hsn1 (ints_at ox1_11.out) (ints_at oy_11.out)).mono ?_
  rintro e w12 ⟨rfl, hb12⟩
  clear oy_11
  have oo_12 := Hid.mk (RSteps.ownBelow oo_11.out hb12)
  have ox0_12 := Hid.mk (RSteps.ownBelow ox0_11.out hb12)
  have ox1_12 := Hid.mk (RInts.ownBelow ox1_11.out hb12)
  have og_12 := Hid.mk (RSteps.ownBelow og_11.out hb12)
  have B_12 := B_11.trans (hb12.mono B_11.size)
  have zz12 : w11.heap.size ≤ w12.heap.size := hb12.size
  clear oo_11 ox0_11 ox1_11 og_11 B_11
  clear hb12
  go_wp2_with fail
  refine (markStepS_rep (From (w4.heap.size) (w5.heap.size)) _ n0 _ z0 _ _ hsn0 (by omega) (by omega) ox0_12.out).mono ?_
  rintro e w13 ⟨rfl, ho13, hg13⟩
  rw [HV0.out]
  have ox0_13 := Hid.mk ho13
  clear ho13
  have oo_13 := Hid.mk (RSteps.ownOff oo_12.out hg13 (fun b h1 h2 => by have h3 := h1.1; have h4 := h1.2; have h5 := h2.1; have h6 := h2.2; omega))
  have ox1_13 := Hid.mk (RInts.ownOff ox1_12.out hg13 (fun b h1 h2 => by have h3 := h1.1; have h4 := h1.2; have h5 := h2.1; have h6 := h2.2; omega))
  have og_13 := Hid.mk (RSteps.ownOff og_12.out hg13 (fun b h1 h2 => by have h3 := h1.1; have h4 := h1.2; have h5 := h2.1; have h6 := h2.2; omega))
  have B_13 := B_12.trans (hg13.toBelow (by omega) B_12.size)
  have zz13 : w12.heap.size ≤ w13.heap.size := hg13.size
  clear oo_12 ox0_12 ox1_12 og_12 B_12
  clear hg13
  go_wp2_with fail
  refine (markInts_rep (From (w5.heap.size) (w6.heap.size)) _ n1 _ z1 _ _ hsn1 (by omega) (by omega) ox1_13.out).mono ?_
  rintro e w14 ⟨rfl, ho14, hg14⟩
  have ox1_14 := Hid.mk ho14
  clear ho14
  have oo_14 := Hid.mk (RSteps.ownOff oo_13.out hg14 (fun b h1 h2 => by have h3 := h1.1; have h4 := h1.2; have h5 := h2.1; have h6 := h2.2; omega))
  have ox0_14 := Hid.mk (RSteps.ownOff ox0_13.out hg14 (fun b h1 h2 => by have h3 := h1.1; have h4 := h1.2; have h5 := h2.1; have h6 := h2.2; omega))
  have og_14 := Hid.mk (RSteps.ownOff og_13.out hg14 (fun b h1 h2 => by have h3 := h1.1; have h4 := h1.2; have h5 := h2.1; have h6 := h2.2; omega))
  have B_14 := B_13.trans (hg14.toBelow (by omega) B_13.size)
  have zz14 : w13.heap.size ≤ w14.heap.size := hg14.size
  clear oo_13 ox0_13 ox1_13 og_13 B_13
  clear hg14
  have kpos : ¬ (1 : Int) + (V0 : Int) + (n1 : Int) < 0 := by omega
  go_wp2_with fail
  refine (eqStepS_same _ _ na _ _ ta _ HNA.out (by omega) (RSteps.at og_14.out) (RSteps.at oo_14.out)).mono ?_
  rintro e w15 ⟨rfl, hb15⟩
  have oo_15 := Hid.mk (RSteps.ownBelow oo_14.out hb15)
  have ox0_15 := Hid.mk (RSteps.ownBelow ox0_14.out hb15)
  have ox1_15 := Hid.mk (RInts.ownBelow ox1_14.out hb15)
  have og_15 := Hid.mk (RSteps.ownBelow og_14.out hb15)
  have B_15 := B_14.trans (hb15.mono B_14.size)
  have zz15 : w14.heap.size ≤ w15.heap.size := hb15.size
  clear oo_14 ox0_14 ox1_14 og_14 B_14
  clear hb15
  clear ox0_15
  clear ox1_15
  go_wp2_with fail
  refine (markStepS_rep (From (w6.heap.size) (w7.heap.size)) _ na _ ta 1 _ (by omega) (by omega) (by omega) og_15.out).mono ?_
  rintro e w16 ⟨rfl, ho16, hg16⟩
  rw [HVA.out]
  have og_16 := Hid.mk ho16
  clear ho16
  have oo_16 := Hid.mk (RSteps.ownOff oo_15.out hg16 (fun b h1 h2 => by have h3 := h1.1; have h4 := h1.2; have h5 := h2.1; have h6 := h2.2; omega))
  have B_16 := B_15.trans (hg16.toBelow (by omega) B_15.size)
  have zz16 : w15.heap.size ≤ w16.heap.size := hg16.size
  clear oo_15 og_15 B_15
  clear hg16
  have gpos : ¬ (1 : Int) + (VA : Int) < 0 := by omega
  go_wp2_with fail
  refine (heldStepS_rep _ na _ ta 1 _ HNA.out (by omega) (by omega) (by omega) (RSteps.at og_16.out)).mono ?_
  rintro e w17 ⟨rfl, hb17⟩
  rw [HVA.out]
  have oo_17 := Hid.mk (RSteps.ownBelow oo_16.out hb17)
  have og_17 := Hid.mk (RSteps.ownBelow og_16.out hb17)
  have B_17 := B_16.trans (hb17.mono B_16.size)
  have zz17 : w16.heap.size ≤ w17.heap.size := hb17.size
  clear oo_16 og_16 B_16
  clear hb17
  go_wp2_with fail
  refine (toStepS_rep a0 n0 c0 z0 _ HZ0.out hsn0 (At.below HA0.out B_17)).mono ?_
  rintro e w18 ⟨g18, rfl, ho18, hb18⟩
  have oh0_18 := Hid.mk ho18
  clear ho18
  have oo_18 := Hid.mk (RSteps.ownBelow oo_17.out hb18)
  have og_18 := Hid.mk (RSteps.ownBelow og_17.out hb18)
  have B_18 := B_17.trans (hb18.mono B_17.size)
  have zz18 : w17.heap.size ≤ w18.heap.size := hb18.size
  clear oo_17 og_17 B_17
  clear hb18
  go_wp2_with fail
  refine (toInts_rep a1 n1 c1 z1 _ HZ1.out hsn1 (At.below HA1.out B_18)).mono ?_
  rintro e w19 ⟨g19, rfl, ho19, hb19⟩
  have oh1_19 := Hid.mk ho19
  clear ho19
  have oo_19 := Hid.mk (RSteps.ownBelow oo_18.out hb19)
  have og_19 := Hid.mk (RSteps.ownBelow og_18.out hb19)
  have oh0_19 := Hid.mk (RSteps.ownBelow oh0_18.out hb19)
  have B_19 := B_18.trans (hb19.mono B_18.size)
  have zz19 : w18.heap.size ≤ w19.heap.size := hb19.size
  clear oo_18 og_18 oh0_18 B_18
  clear hb19
  go_wp2_with fail
  refine (HI.out _ _ _ _ _ oh0_19.out oh1_19.out (TabIs.below HTAB.out B_19)).mono ?_
  rintro e w20 ⟨⟨r20, m20, d20, rfl, hm20, ho20⟩, hb20⟩
  clear oh0_19
  clear oh1_19
  obtain rfl : na = m20 := HNA.out.symm.trans hm20
  have ohg_20 := Hid.mk (RSteps.of_owns HNA.out (by omega) ho20)
  clear ho20 hm20
  have oo_20 := Hid.mk (RSteps.ownBelow oo_19.out hb20)
  have og_20 := Hid.mk (RSteps.ownBelow og_19.out hb20)
  have B_20 := B_19.trans (hb20.mono B_19.size)
  have zz20 : w19.heap.size ≤ w20.heap.size := hb20.size
  clear oo_19 og_19 B_19
  clear hb20
  go_wp2_with fail
  refine (eqStepS_same _ _ na _ _ ta _ HNA.out (by omega) (RSteps.at ohg_20.out) (RSteps.at oo_20.out)).mono ?_
  rintro e w21 ⟨rfl, hb21⟩
  have oo_21 := Hid.mk (RSteps.ownBelow oo_20.out hb21)
  have og_21 := Hid.mk (RSteps.ownBelow og_20.out hb21)
  have ohg_21 := Hid.mk (RSteps.ownBelow ohg_20.out hb21)
  have B_21 := B_20.trans (hb21.mono B_20.size)
  have zz21 : w20.heap.size ≤ w21.heap.size := hb21.size
  clear oo_20 og_20 ohg_20 B_20
  clear hb21
  go_wp2_with fail
  refine (heldStepS_rep _ na _ ta 1 _ HNA.out (by omega) (by omega) (by omega) (RSteps.at og_21.out)).mono ?_
  rintro e w22 ⟨rfl, hb22⟩
  rw [HVA.out]
  have oo_22 := Hid.mk (RSteps.ownBelow oo_21.out hb22)
  have og_22 := Hid.mk (RSteps.ownBelow og_21.out hb22)
  have ohg_22 := Hid.mk (RSteps.ownBelow ohg_21.out hb22)
  have B_22 := B_21.trans (hb22.mono B_21.size)
  have zz22 : w21.heap.size ≤ w22.heap.size := hb22.size
  clear oo_21 og_21 ohg_21 B_21
  clear hb22
  go_wp2
  go_ret
  exact ⟨rfl, B_22⟩

end Go.Proofs.YtociphdhkjoofaaDoor

/- Opening the laws' arguments: rows, slices of ints; plain facts on readings. -/
namespace Go.Proofs.YtociphdhkjoofaaDoor
open Go.ChangeShapes Go.WideShapes Go.ChangeAt Go.RowKit Go.Joins Go.Deep

section
variable {H : Type} {enc : TypeId × Value → H} {P : Program} {w : World} {base : Nat} {spare : Nat → Bool} {held : Bool}

theorem array1 {α : Type} {cs : Array α} (h : cs.size = 1) : ∃ c0, cs = #[c0] := by
  obtain ⟨l⟩ := cs
  match l, h with
  | [c0], _ => exact ⟨c0, rfl⟩

theorem open_agg1 {r : Reach} {b0 : Nat} {t : TypeId} {f0 : Field} {v : Value} {d : DataW H} {p : List MemPlace} (hs : P.underlying t = some (.struct #[f0])) (hone : oneCellFields P #[f0] = true) (hC : P.cellsOf t = 1)
    (hv : Value.okWide P w r b0 t v) (h : DataW.Trod enc P w base spare held t v d p) :
    ∃ (v0 : Value) (y0 : DataW H × List MemPlace) (n : Nat), v = .agg #[v0] ∧ d = .agg [y0.1] ∧ p = y0.2 ∧ DataW.trod enc P w base spare held n f0.type [v0] = some y0 := by
  obtain ⟨cs, rfl, hsz⟩ := okWide_struct hs hv
  obtain ⟨c0, rfl⟩ := array1 (hsz.trans hC)
  obtain ⟨fuel, hf⟩ := h
  obtain ⟨y0, n, hx, _, h0⟩ := trod_struct1 hs hf
  obtain ⟨o0, k0⟩ := hone_of hone 0 f0 rfl
  simp only [Prod.mk.injEq] at hx
  exact ⟨c0, y0, n, rfl, hx.1, hx.2, by simpa [Value.cells, o0, k0] using h0⟩

/-- A slice of ints that reads: its numbers. -/
theorem open_at {t e : TypeId} {fuel n c : Nat} {a : Option Addr} {x : DataW H × List MemPlace} (ht : P.underlying t = some (.slice e)) (he : P.underlying e = some (.int .i64)) (hC : P.cellsOf e = 1)
    (h : DataW.trod enc P w base spare held fuel t [.slice a n c] = some x) : ∃ zs : List Int, zs.length = n ∧ n ≤ 9223372036854775807 ∧ At w a zs := by
  rcases open_ints ht he hC h with ⟨hcs, _⟩ | ⟨ad, l, c', zs, hcs, _, hl, hm, hz, _, hcell, _⟩
  · simp at hcs
    obtain ⟨rfl, rfl, rfl⟩ := hcs
    exact ⟨[], rfl, by omega, At.nil _ _⟩
  · simp at hcs
    obtain ⟨rfl, rfl, rfl⟩ := hcs
    unfold maxLen at hm
    have hz' : n ≤ zs.length := by split at hz <;> omega
    refine ⟨zs.take n, by simp; omega, by omega, ?_⟩
    by_cases h0 : n = 0
    · left; simp [h0]
    · right
      obtain ⟨b, off, spot⟩ := ad
      have hc := hcell 0 (by omega)
      have hspot : spot = none := by simpa [Addr.add] using World.cell?_spot hc
      subst hspot
      refine ⟨b, off, rfl, fun i hi => ?_⟩
      have hin : i < n := by simp at hi; omega
      have := hcell i (by omega)
      rw [show (zs.take n).getD i 0 = zs.getD i 0 by simp [List.getD, hin]]
      rw [Addr.add_lit] at this
      exact this

/-- A struct of one slice of ints, by value. -/
theorem open_row {r : Reach} {b0 : Nat} {t ts e : TypeId} {f0 : Field} {v : Value} {d : DataW H} {p : List MemPlace} (hs : P.underlying t = some (.struct #[f0])) (hf0 : f0.type = ts) (hone : oneCellFields P #[f0] = true) (hC : P.cellsOf t = 1)
    (ht : P.underlying ts = some (.slice e)) (he : P.underlying e = some (.int .i64)) (hCe : P.cellsOf e = 1)
    (hv : Value.okWide P w r b0 t v) (h : DataW.Trod enc P w base spare held t v d p) : ∃ a n c, v = .agg #[.slice a n c] ∧ ∃ zs : List Int, zs.length = n ∧ n ≤ 9223372036854775807 ∧ At w a zs := by
  obtain ⟨v0, y0, m, rfl, _, _, h0⟩ := open_agg1 hs hone hC hv h
  subst hf0
  obtain ⟨a, n, c, hcs⟩ := slice_form ht h0
  obtain rfl : v0 = .slice a n c := by simpa using hcs
  exact ⟨a, n, c, rfl, open_at ht he hCe h0⟩
end

end Go.Proofs.YtociphdhkjoofaaDoor

/- Opening things in memory among the laws' arguments, by their shape. -/
namespace Go.Proofs.YtociphdhkjoofaaDoor
open Go.ChangeShapes Go.WideShapes Go.ChangeAt Go.RowKit Go.Joins Go.Deep

section
variable {H : Type} (enc : TypeId × Value → H) (P : Program) (w : World) (base : Nat) (held : Bool)
/-- Whatever reads as a value of type t is such a thing. -/
def Opens {α : Type} (t : TypeId) (A : Rep α) : Prop := ∀ fuel cs x, DataW.trod enc P w base (fun _ => true) held fuel t cs = some x → ∃ y, A.At w cs y
variable {enc P w base held}

theorem Opens.int {t : TypeId} (ht : P.underlying t = some (.int .i64)) : Opens enc P w base held t Rep.int := fun fuel cs x h => by
  obtain ⟨z, hz, _, _⟩ := DataW.trod_int ht h
  exact ⟨z, hz⟩

theorem Opens.slice {α : Type} [Inhabited α] {A : Rep α} {t e e' : TypeId} (ht : P.underlying t = some (.slice e)) (ce : P.cellsOf e = A.k) (hA : Opens enc P w base held e A) (hk : 0 < A.k) : Opens enc P w base held t (Rep.slice e' A) := fun fuel cs x h => by
  rcases open_slice ht h with ⟨rfl, _⟩ | ⟨ad, len, cap, m, k, D, Pl, rfl, _, hl, hm, hmm, _, hx⟩
  · exact ⟨[], none, 0, 0, rfl, rfl, by omega, .inl rfl, fun _ => rfl⟩
  · simp only [if_true] at hmm
    subst hmm
    unfold maxLen at hm
    have each : ∀ i, i < len → ∃ y : α × List Value, (∀ j v, y.2[j]? = some v → w.cell? (ad.add (i * A.k + j)) = some v) ∧ A.At w y.2 y.1 ∧ y.2.length = A.k := by
      intro i hi
      obtain ⟨cs', h1, h2⟩ := hx i (by omega)
      rw [ce] at h1
      obtain ⟨_, hlen, hcell⟩ := World.cells?_some h1
      obtain ⟨y, hy⟩ := hA _ _ _ h2
      refine ⟨(y, cs'), fun j v hv => ?_, hy, by simpa using hlen⟩
      have hj := (List.getElem?_eq_some_iff.1 hv).1
      have := hcell j (by have h5 : cs'.length = A.k := hlen; have h6 : j < cs'.length := hj; omega)
      rw [add_add] at this
      rw [this]
      simpa using hv
    obtain ⟨y, hy⟩ := choose_lt each
    refine ⟨(List.range len).map fun i => (y i).1, some ad, len, _, rfl, by simp, by omega, ?_, fun h => by cases h⟩
    by_cases h0 : len = 0
    · left; simp [h0]
    · right
      obtain ⟨b, off, spot⟩ := ad
      obtain ⟨e1, _, e3⟩ := hy 0 (by omega)
      obtain ⟨v0, hv0⟩ : ∃ v0, (y 0).2[0]? = some v0 := ⟨_, List.getElem?_eq_getElem (by omega)⟩
      have hc0 := e1 0 v0 hv0
      have hspot : spot = none := by simpa [Addr.add] using World.cell?_spot hc0
      subst hspot
      refine ⟨b, off, rfl, fun i x hx' => ?_⟩
      have hi : i < len := by have := (List.getElem?_eq_some_iff.1 hx').1; simpa using this
      obtain ⟨k1, k2, _⟩ := hy i hi
      have hxe : (y i).1 = x := by simpa [hi] using hx'
      refine ⟨(y i).2, fun j v hv => ?_, hxe ▸ k2⟩
      have := k1 j v hv
      rw [Addr.add_lit] at this
      rw [Nat.add_assoc]; exact this

theorem take_one {cs : List Value} {v : Value} (i : Nat) (h : cs[i]? = some v) : (cs.drop i).take 1 = [v] := by
  obtain ⟨hi, rfl⟩ := List.getElem?_eq_some_iff.1 h
  rw [List.drop_eq_getElem_cons hi]; rfl

theorem Opens.struct2 {α β : Type} {A : Rep α} {B : Rep β} {t : TypeId} {f0 f1 : Field} (ht : P.underlying t = some (.struct #[f0, f1])) (hC : P.cellsOf t = 2) (o0 : f0.offset = 0) (o1 : f1.offset = 1)
    (c0 : P.cellsOf f0.type = 1) (c1 : P.cellsOf f1.type = 1) (h0 : Opens enc P w base held f0.type A) (h1 : Opens enc P w base held f1.type B) : Opens enc P w base held t (Rep.pair A B) := fun fuel cs x h => by
  obtain ⟨xs, n, _, rfl, hl, hlen, hf⟩ := DataW.trod_struct ht h
  match xs, hlen, cs, hl.trans hC with
  | [y0, y1], _, [v0, v1], _ =>
    have g0 := hf 0 f0 rfl
    have g1 := hf 1 f1 rfl
    simp [o0, o1, c0, c1] at g0 g1
    obtain ⟨x0, q0⟩ := h0 _ _ _ g0
    obtain ⟨x1, q1⟩ := h1 _ _ _ g1
    exact ⟨(x0, x1), [v0], [v1], rfl, q0, q1⟩

theorem Opens.struct3 {α β γ : Type} {A : Rep α} {B : Rep β} {C : Rep γ} {t : TypeId} {f0 f1 f2 : Field} (ht : P.underlying t = some (.struct #[f0, f1, f2])) (hC : P.cellsOf t = 3) (o0 : f0.offset = 0) (o1 : f1.offset = 1) (o2 : f2.offset = 2)
    (c0 : P.cellsOf f0.type = 1) (c1 : P.cellsOf f1.type = 1) (c2 : P.cellsOf f2.type = 1) (h0 : Opens enc P w base held f0.type A) (h1 : Opens enc P w base held f1.type B) (h2 : Opens enc P w base held f2.type C) : Opens enc P w base held t (Rep.pair A (Rep.pair B C)) := fun fuel cs x h => by
  obtain ⟨xs, n, _, rfl, hl, hlen, hf⟩ := DataW.trod_struct ht h
  match xs, hlen, cs, hl.trans hC with
  | [y0, y1, y2], _, [v0, v1, v2], _ =>
    have g0 := hf 0 f0 rfl
    have g1 := hf 1 f1 rfl
    have g2 := hf 2 f2 rfl
    simp [o0, o1, o2, c0, c1, c2] at g0 g1 g2
    obtain ⟨x0, q0⟩ := h0 _ _ _ g0
    obtain ⟨x1, q1⟩ := h1 _ _ _ g1
    obtain ⟨x2, q2⟩ := h2 _ _ _ g2
    exact ⟨(x0, x1, x2), [v0], _, rfl, q0, [v1], [v2], rfl, q1, q2⟩

theorem Opens.struct6 {α β γ δ ε ζ : Type} {A : Rep α} {B : Rep β} {C : Rep γ} {D : Rep δ} {E : Rep ε} {Z : Rep ζ} {t : TypeId} {f0 f1 f2 f3 f4 f5 : Field} (ht : P.underlying t = some (.struct #[f0, f1, f2, f3, f4, f5])) (hC : P.cellsOf t = 6)
    (o0 : f0.offset = 0) (o1 : f1.offset = 1) (o2 : f2.offset = 2) (o3 : f3.offset = 3) (o4 : f4.offset = 4) (o5 : f5.offset = 5)
    (c0 : P.cellsOf f0.type = 1) (c1 : P.cellsOf f1.type = 1) (c2 : P.cellsOf f2.type = 1) (c3 : P.cellsOf f3.type = 1) (c4 : P.cellsOf f4.type = 1) (c5 : P.cellsOf f5.type = 1)
    (h0 : Opens enc P w base held f0.type A) (h1 : Opens enc P w base held f1.type B) (h2 : Opens enc P w base held f2.type C) (h3 : Opens enc P w base held f3.type D) (h4 : Opens enc P w base held f4.type E) (h5 : Opens enc P w base held f5.type Z) :
    Opens enc P w base held t (Rep.pair A (Rep.pair B (Rep.pair C (Rep.pair D (Rep.pair E Z))))) := fun fuel cs x h => by
  obtain ⟨xs, n, _, rfl, hl, hlen, hf⟩ := DataW.trod_struct ht h
  match xs, hlen, cs, hl.trans hC with
  | [y0, y1, y2, y3, y4, y5], _, [v0, v1, v2, v3, v4, v5], _ =>
    have g0 := hf 0 f0 rfl
    have g1 := hf 1 f1 rfl
    have g2 := hf 2 f2 rfl
    have g3 := hf 3 f3 rfl
    have g4 := hf 4 f4 rfl
    have g5 := hf 5 f5 rfl
    simp [o0, o1, o2, o3, o4, o5, c0, c1, c2, c3, c4, c5] at g0 g1 g2 g3 g4 g5
    obtain ⟨x0, q0⟩ := h0 _ _ _ g0
    obtain ⟨x1, q1⟩ := h1 _ _ _ g1
    obtain ⟨x2, q2⟩ := h2 _ _ _ g2
    obtain ⟨x3, q3⟩ := h3 _ _ _ g3
    obtain ⟨x4, q4⟩ := h4 _ _ _ g4
    obtain ⟨x5, q5⟩ := h5 _ _ _ g5
    exact ⟨(x0, x1, x2, x3, x4, x5), [v0], _, rfl, q0, [v1], _, rfl, q1, [v2], _, rfl, q2, [v3], _, rfl, q3, [v4], [v5], rfl, q4, q5⟩

/-- A struct by value. -/
theorem open_struct {α : Type} {A : Rep α} {r : Reach} {b0 : Nat} {t : TypeId} {fs : Array Field} {v : Value} {d : DataW H} {p : List MemPlace} (hs : P.underlying t = some (.struct fs)) (hA : Opens enc P w base held t A) (hv : Value.okWide P w r b0 t v)
    (h : DataW.Trod enc P w base (fun _ => true) held t v d p) : ∃ cs x, v = .agg cs.toArray ∧ A.At w cs x := by
  obtain ⟨cs, rfl, _⟩ := okWide_struct hs hv
  obtain ⟨fuel, hf⟩ := h
  obtain ⟨x, hx⟩ := hA _ _ _ hf
  exact ⟨_, x, by simp [Value.cells], hx⟩
end

end Go.Proofs.YtociphdhkjoofaaDoor

/- Opening slices of Step among the laws' arguments. -/
namespace Go.Proofs.YtociphdhkjoofaaDoor
open Go.ChangeShapes Go.WideShapes Go.ChangeAt Go.RowKit Go.Joins Go.Deep

section
variable {H : Type} {enc : TypeId × Value → H} {w : World} {base : Nat} {held : Bool}
set_option maxRecDepth 100000 in
theorem opens_Step : Opens enc Tryd.prog w base held 48 RStep := fun fuel cs x h => by
  have oi : Opens enc Tryd.prog w base held 3 Rep.int := Opens.int Tryd.underlying3
  obtain ⟨y, c1, c0, rfl, h1, c2, c3, rfl, h2, h3⟩ := (Opens.struct3 Tryd.underlying48 (by kernel_rfl) rfl rfl rfl (by kernel_rfl) (by kernel_rfl) (by kernel_rfl) oi oi oi) fuel cs x h
  refine ⟨y, ?_⟩
  have e1 : c1 = [.int .i64 y.1] := h1
  subst e1
  have e2 : c2 = [.int .i64 y.2.1] := h2
  subst e2
  have e3 : c3 = [.int .i64 y.2.2] := h3
  subst e3
  rfl

set_option maxRecDepth 100000 in
theorem open_Steps {fuel n c : Nat} {a : Option Addr} {x : DataW H × List MemPlace} (h : DataW.trod enc Tryd.prog w base (fun _ => true) held fuel 22 [.slice a n c] = some x) : ∃ zs : List TStep, zs.length = n ∧ n ≤ 9223372036854775807 ∧ At w a (flStep zs) := by
  have od : Opens enc Tryd.prog w base held 22 RSteps := Opens.slice Tryd.underlying22 (by kernel_rfl) opens_Step (by decide)
  obtain ⟨y, a', n', c', e, h1, h2, h3, _⟩ := od _ _ _ h
  simp only [List.cons.injEq, Value.slice.injEq, and_true] at e
  obtain ⟨rfl, rfl, rfl⟩ := e
  exact ⟨y, h1, h2, flat_atSl (by omega) h3⟩
end

end Go.Proofs.YtociphdhkjoofaaDoor
