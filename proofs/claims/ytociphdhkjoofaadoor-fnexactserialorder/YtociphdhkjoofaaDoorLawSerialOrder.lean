/- The law FnExactSerialOrder returns true at every input, and writes nothing that was there. -/
import Derived.Test.YtociphdhkjoofaaDoorSoI
import Derived.Test.YtociphdhkjoofaaDoorSoM
import Derived.Test.YtociphdhkjoofaaDoorIntsR
import Derived.Test.YtociphdhkjoofaaDoorIntE
import Derived.Test.YtociphdhkjoofaaDoorIntM
namespace Go.Proofs.YtociphdhkjoofaaDoor
open Go.RowKit

set_option maxRecDepth 100000 in
set_option maxHeartbeats 16000000 in
theorem lawSerialOrder (a0 : Option Addr) (n0 c0 : Nat) (z0 : List TStep) (w : World) (hz0 : z0.length = n0) (hn0 : n0 ≤ 9223372036854775807) (ha0 : At w a0 (flStep z0)) (htab : TabB w) :
    Calls Tryd.prog 4 #[.slice a0 n0 c0] w fun e w' => e = .returned (.bool true) ∧ Below w.heap.size w w' := by
  have HA0 := Hid.mk ha0
  have HZ0 := Hid.mk hz0
  clear ha0 hz0
  have HTAB := Hid.mk htab
  clear htab
  have B0 : Below w.heap.size w w := Below.refl _ _
  obtain ⟨C0, hC0⟩ : ∃ C : Nat, costStep n0 = C := ⟨_, rfl⟩
  have HC0 := Hid.mk hC0
  clear hC0
  by_cases big0 : (1048576 : Int) < (C0 : Int)
  · go_enter Tryd.func4, Tryd.ntmps4
    go_wp2_with fail
    refine (szStepS_any a0 n0 c0 _ _ hn0 (by omega) (by omega)).mono ?_
    rintro e v0 ⟨rfl, hv0⟩
    rw [HC0.out, leftOf_no big0]
    have y0 := B0.trans (hv0.mono B0.size)
    go_wp2
    go_ret
    exact ⟨rfl, y0⟩
  have hl0 : ¬ (1048576 : Int) - (C0 : Int) < 0 := by omega
  have hsn0 : n0 ≤ 1048576 := by have q := HC0.out; unfold costStep at q; omega
  have HVB0 : n0 * 3 ≤ 3145728 := by omega
  obtain ⟨V0, hV0⟩ : ∃ V : Nat, n0 * 3 = V := ⟨_, rfl⟩
  rw [hV0] at HVB0
  have HV0 := Hid.mk hV0
  clear hV0
  obtain ⟨vv, ok, ta, hta, HS, HI⟩ : ∃ (vv ok : Bool) (ta : List Int), ta.length ≤ 6 ∧ Hid (∀ (x0 : Nat) (w : World) (F0 : Nat → Prop), RSteps.Own w F0 [.slice (some ⟨x0, 0, none⟩) n0 n0] z0 → Calls Tryd.prog 15 #[.slice (some ⟨x0, 0, none⟩) n0 n0] w fun e w' => SoRet e w' w.heap.size vv ok ta ∧ Below w.heap.size w w') ∧ Hid (∀ (x0 : Nat) (w : World) (F0 : Nat → Prop), RSteps.Own w F0 [.slice (some ⟨x0, 0, none⟩) n0 n0] z0 → TabB w → Calls Tryd.prog 16 #[.slice (some ⟨x0, 0, none⟩) n0 n0] w fun e w' => SoRet e w' w.heap.size vv ok ta ∧ Below w.heap.size w w') := ⟨soV z0, gpB z0, soL z0, soL_len z0, fun x0 w F0 o0 => specSerialOrder (some ⟨x0, 0, none⟩) n0 n0 z0 w HZ0.out hsn0 (Nat.le_refl _) (RSteps.at o0), fun x0 w F0 o0 ht => implSerialOrder (some ⟨x0, 0, none⟩) n0 n0 z0 w HZ0.out hsn0 (Nat.le_refl _) (RSteps.at o0) ht⟩
  obtain ⟨na, hna⟩ : ∃ na, ta.length = na := ⟨_, rfl⟩
  rw [hna] at hta
  have HNA := Hid.mk hna
  clear hna
  go_enter Tryd.func4, Tryd.ntmps4
  go_wp2_with fail
  refine (szStepS_any a0 n0 c0 _ _ hn0 (by omega) (by omega)).mono ?_
  rintro e w1 ⟨rfl, hb1⟩
  rw [HC0.out, leftOf_yes (by omega)]
  have B_1 := B0.trans (hb1.mono B0.size)
  have zz1 : w.heap.size ≤ w1.heap.size := hb1.size
  clear hb1
  go_wp2_with fail
  refine (toStepS_rep a0 n0 c0 z0 _ HZ0.out hsn0 (At.below HA0.out B_1)).mono ?_
  rintro e w2 ⟨g2, rfl, ho2, hb2⟩
  have ot0_2 := Hid.mk ho2
  clear ho2
  have B_2 := B_1.trans (hb2.mono B_1.size)
  have zz2 : w1.heap.size ≤ w2.heap.size := hb2.size
  clear B_1
  clear hb2
  go_wp2_with fail
  refine (HS.out _ _ _ ot0_2.out).mono ?_
  rintro e w3 ⟨⟨r3, m3, d3, rfl, hm3, ho3⟩, hb3⟩
  clear ot0_2
  obtain rfl : na = m3 := HNA.out.symm.trans hm3
  have oo_3 := Hid.mk (RInts.of_owns HNA.out (by omega) ho3)
  clear ho3 hm3
  have B_3 := B_2.trans (hb3.mono B_2.size)
  have zz3 : w2.heap.size ≤ w3.heap.size := hb3.size
  clear B_2
  clear hb3
  go_wp2_with fail
  refine (toStepS_rep a0 n0 c0 z0 _ HZ0.out hsn0 (At.below HA0.out B_3)).mono ?_
  rintro e w4 ⟨g4, rfl, ho4, hb4⟩
  have ox0_4 := Hid.mk ho4
  clear ho4
  have oo_4 := Hid.mk (RInts.ownBelow oo_3.out hb4)
  have B_4 := B_3.trans (hb4.mono B_3.size)
  have zz4 : w3.heap.size ≤ w4.heap.size := hb4.size
  clear oo_3 B_3
  clear hb4
  go_wp2_with fail
  refine (HI.out _ _ _ ox0_4.out (TabIs.below HTAB.out B_4)).mono ?_
  rintro e w5 ⟨⟨r5, m5, d5, rfl, hm5, ho5⟩, hb5⟩
  obtain rfl : na = m5 := HNA.out.symm.trans hm5
  have og_5 := Hid.mk (RInts.of_owns HNA.out (by omega) ho5)
  clear ho5 hm5
  have oo_5 := Hid.mk (RInts.ownBelow oo_4.out hb5)
  have ox0_5 := Hid.mk (RSteps.ownBelow ox0_4.out hb5)
  have B_5 := B_4.trans (hb5.mono B_4.size)
  have zz5 : w4.heap.size ≤ w5.heap.size := hb5.size
  clear oo_4 ox0_4 B_4
  clear hb5
  go_wp2_with fail
  refine (eqIntS_same _ _ na _ _ ta _ HNA.out (by omega) (ints_at og_5.out) (ints_at oo_5.out)).mono ?_
  rintro e w6 ⟨rfl, hb6⟩
  have oo_6 := Hid.mk (RInts.ownBelow oo_5.out hb6)
  have ox0_6 := Hid.mk (RSteps.ownBelow ox0_5.out hb6)
  have og_6 := Hid.mk (RInts.ownBelow og_5.out hb6)
  have B_6 := B_5.trans (hb6.mono B_5.size)
  have zz6 : w5.heap.size ≤ w6.heap.size := hb6.size
  clear oo_5 ox0_5 og_5 B_5
  clear hb6
  go_wp2_with fail
  refine (toStepS_rep a0 n0 c0 z0 _ HZ0.out hsn0 (At.below HA0.out B_6)).mono ?_
  rintro e w7 ⟨g7, rfl, ho7, hb7⟩
  have oy_7 := Hid.mk ho7
  clear ho7
  have oo_7 := Hid.mk (RInts.ownBelow oo_6.out hb7)
  have ox0_7 := Hid.mk (RSteps.ownBelow ox0_6.out hb7)
  have og_7 := Hid.mk (RInts.ownBelow og_6.out hb7)
  have B_7 := B_6.trans (hb7.mono B_6.size)
  have zz7 : w6.heap.size ≤ w7.heap.size := hb7.size
  clear oo_6 ox0_6 og_6 B_6
  clear hb7
  go_wp2_with fail
  refine (eqStepS_same _ _ n0 _ _ z0 _ HZ0.out hsn0 (RSteps.at ox0_7.out) (RSteps.at oy_7.out)).mono ?_
  rintro e w8 ⟨rfl, hb8⟩
  clear oy_7
  have oo_8 := Hid.mk (RInts.ownBelow oo_7.out hb8)
  have ox0_8 := Hid.mk (RSteps.ownBelow ox0_7.out hb8)
  have og_8 := Hid.mk (RInts.ownBelow og_7.out hb8)
  have B_8 := B_7.trans (hb8.mono B_7.size)
  have zz8 : w7.heap.size ≤ w8.heap.size := hb8.size
  clear oo_7 ox0_7 og_7 B_7
  clear hb8
  go_wp2_with fail
  refine (markStepS_rep (From (w3.heap.size) (w4.heap.size)) _ n0 _ z0 _ _ hsn0 (by omega) (by omega) ox0_8.out).mono ?_
  rintro e w9 ⟨rfl, ho9, hg9⟩
  rw [HV0.out]
  have ox0_9 := Hid.mk ho9
  clear ho9
  have oo_9 := Hid.mk (RInts.ownOff oo_8.out hg9 (fun b h1 h2 => by have h3 := h1.1; have h4 := h1.2; have h5 := h2.1; have h6 := h2.2; omega))
  have og_9 := Hid.mk (RInts.ownOff og_8.out hg9 (fun b h1 h2 => by have h3 := h1.1; have h4 := h1.2; have h5 := h2.1; have h6 := h2.2; omega))
  have B_9 := B_8.trans (hg9.toBelow (by omega) B_8.size)
  have zz9 : w8.heap.size ≤ w9.heap.size := hg9.size
  clear oo_8 ox0_8 og_8 B_8
  clear hg9
  have kpos : ¬ (1 : Int) + (V0 : Int) < 0 := by omega
  go_wp2_with fail
  refine (eqIntS_same _ _ na _ _ ta _ HNA.out (by omega) (ints_at og_9.out) (ints_at oo_9.out)).mono ?_
  rintro e w10 ⟨rfl, hb10⟩
  have oo_10 := Hid.mk (RInts.ownBelow oo_9.out hb10)
  have ox0_10 := Hid.mk (RSteps.ownBelow ox0_9.out hb10)
  have og_10 := Hid.mk (RInts.ownBelow og_9.out hb10)
  have B_10 := B_9.trans (hb10.mono B_9.size)
  have zz10 : w9.heap.size ≤ w10.heap.size := hb10.size
  clear oo_9 ox0_9 og_9 B_9
  clear hb10
  clear ox0_10
  go_wp2_with fail
  refine (markInts_rep (From (w4.heap.size) (w5.heap.size)) _ na _ ta 1 _ (by omega) (by omega) (by omega) og_10.out).mono ?_
  rintro e w11 ⟨rfl, ho11, hg11⟩
  have og_11 := Hid.mk ho11
  clear ho11
  have oo_11 := Hid.mk (RInts.ownOff oo_10.out hg11 (fun b h1 h2 => by have h3 := h1.1; have h4 := h1.2; have h5 := h2.1; have h6 := h2.2; omega))
  have B_11 := B_10.trans (hg11.toBelow (by omega) B_10.size)
  have zz11 : w10.heap.size ≤ w11.heap.size := hg11.size
  clear oo_10 og_10 B_10
  clear hg11
  have gpos : ¬ (1 : Int) + (na : Int) < 0 := by omega
  go_wp2_with fail
  refine (heldInts_rep _ na _ ta 1 _ HNA.out (by omega) (by omega) (by omega) (ints_at og_11.out)).mono ?_
  rintro e w12 ⟨rfl, hb12⟩
  have oo_12 := Hid.mk (RInts.ownBelow oo_11.out hb12)
  have og_12 := Hid.mk (RInts.ownBelow og_11.out hb12)
  have B_12 := B_11.trans (hb12.mono B_11.size)
  have zz12 : w11.heap.size ≤ w12.heap.size := hb12.size
  clear oo_11 og_11 B_11
  clear hb12
  go_wp2_with fail
  refine (toStepS_rep a0 n0 c0 z0 _ HZ0.out hsn0 (At.below HA0.out B_12)).mono ?_
  rintro e w13 ⟨g13, rfl, ho13, hb13⟩
  have oh0_13 := Hid.mk ho13
  clear ho13
  have oo_13 := Hid.mk (RInts.ownBelow oo_12.out hb13)
  have og_13 := Hid.mk (RInts.ownBelow og_12.out hb13)
  have B_13 := B_12.trans (hb13.mono B_12.size)
  have zz13 : w12.heap.size ≤ w13.heap.size := hb13.size
  clear oo_12 og_12 B_12
  clear hb13
  go_wp2_with fail
  refine (HI.out _ _ _ oh0_13.out (TabIs.below HTAB.out B_13)).mono ?_
  rintro e w14 ⟨⟨r14, m14, d14, rfl, hm14, ho14⟩, hb14⟩
  clear oh0_13
  obtain rfl : na = m14 := HNA.out.symm.trans hm14
  have ohg_14 := Hid.mk (RInts.of_owns HNA.out (by omega) ho14)
  clear ho14 hm14
  have oo_14 := Hid.mk (RInts.ownBelow oo_13.out hb14)
  have og_14 := Hid.mk (RInts.ownBelow og_13.out hb14)
  have B_14 := B_13.trans (hb14.mono B_13.size)
  have zz14 : w13.heap.size ≤ w14.heap.size := hb14.size
  clear oo_13 og_13 B_13
  clear hb14
  go_wp2_with fail
  refine (eqIntS_same _ _ na _ _ ta _ HNA.out (by omega) (ints_at ohg_14.out) (ints_at oo_14.out)).mono ?_
  rintro e w15 ⟨rfl, hb15⟩
  have oo_15 := Hid.mk (RInts.ownBelow oo_14.out hb15)
  have og_15 := Hid.mk (RInts.ownBelow og_14.out hb15)
  have ohg_15 := Hid.mk (RInts.ownBelow ohg_14.out hb15)
  have B_15 := B_14.trans (hb15.mono B_14.size)
  have zz15 : w14.heap.size ≤ w15.heap.size := hb15.size
  clear oo_14 og_14 ohg_14 B_14
  clear hb15
  go_wp2_with fail
  refine (heldInts_rep _ na _ ta 1 _ HNA.out (by omega) (by omega) (by omega) (ints_at og_15.out)).mono ?_
  rintro e w16 ⟨rfl, hb16⟩
  have oo_16 := Hid.mk (RInts.ownBelow oo_15.out hb16)
  have og_16 := Hid.mk (RInts.ownBelow og_15.out hb16)
  have ohg_16 := Hid.mk (RInts.ownBelow ohg_15.out hb16)
  have B_16 := B_15.trans (hb16.mono B_15.size)
  have zz16 : w15.heap.size ≤ w16.heap.size := hb16.size
  clear oo_15 og_15 ohg_15 B_15
  clear hb16
  go_wp2
  go_ret
  exact ⟨rfl, B_16⟩

end Go.Proofs.YtociphdhkjoofaaDoor
