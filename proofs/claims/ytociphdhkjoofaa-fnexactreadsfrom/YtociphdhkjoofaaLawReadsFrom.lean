/- The law FnExactReadsFrom returns true at every input, and writes nothing that was there. -/
import Derived.Test.YtociphdhkjoofaaRfI
import Derived.Test.YtociphdhkjoofaaRfS
import Derived.Test.YtociphdhkjoofaaIntE
import Derived.Test.YtociphdhkjoofaaIntM
namespace Go.Proofs.Ytociphdhkjoofaa
open Go.RowKit

set_option maxRecDepth 100000 in
set_option maxHeartbeats 16000000 in
theorem lawReadsFrom (a0 : Option Addr) (n0 c0 : Nat) (z0 : List TStep) (w : World) (hz0 : z0.length = n0) (hn0 : n0 ≤ 9223372036854775807) (ha0 : At w a0 (flStep z0)) :
    Calls Try.prog 5 #[.slice a0 n0 c0] w fun e w' => e = .returned (.bool true) ∧ Below w.heap.size w w' := by
  have HA0 := Hid.mk ha0
  have HZ0 := Hid.mk hz0
  clear ha0 hz0
  have B0 : Below w.heap.size w w := Below.refl _ _
  obtain ⟨C0, hC0⟩ : ∃ C : Nat, costStep n0 = C := ⟨_, rfl⟩
  have HC0 := Hid.mk hC0
  clear hC0
  by_cases big0 : (1048576 : Int) < (C0 : Int)
  · go_enter Try.func5, Try.ntmps5
    go_wp2_with fail
    refine (szStepS_any a0 n0 c0 _ _ hn0 (by omega) (by omega)).mono ?_
    rintro e v0 ⟨rfl, hv0⟩
    rw [HC0.out, leftOf_no big0]
    have y0 := B0.trans (hv0.mono B0.size)
    go_wp2
    go_ret
    exact ⟨rfl, y0⟩
  have hl0 : ¬ (1048576 : Int) - (C0 : Int) < 0 := by omega
  have hsn0 : n0 ≤ 1048576 := by have q := HC0.out; unfold costStep at q; omega
  have HVB0 : n0 * 3 ≤ 3145728 := by omega
  obtain ⟨V0, hV0⟩ : ∃ V : Nat, n0 * 3 = V := ⟨_, rfl⟩
  rw [hV0] at HVB0
  have HV0 := Hid.mk hV0
  clear hV0
  obtain ⟨ok, ta, tb, hta, htb, HS, HI⟩ : ∃ (ok : Bool) (ta : List TSource) (tb : List Int), ta.length ≤ 40 ∧ tb.length ≤ 40 ∧ Hid (∀ (x0 : Nat) (w : World) (F0 : Nat → Prop), RSteps.Own w F0 [.slice (some ⟨x0, 0, none⟩) n0 n0] z0 → Calls Try.prog 21 #[.slice (some ⟨x0, 0, none⟩) n0 n0] w fun e w' => RfRet e w' w.heap.size ok ta tb ∧ Below w.heap.size w w') ∧ Hid (∀ (x0 : Nat) (w : World) (F0 : Nat → Prop), RSteps.Own w F0 [.slice (some ⟨x0, 0, none⟩) n0 n0] z0 → Calls Try.prog 22 #[.slice (some ⟨x0, 0, none⟩) n0 n0] w fun e w' => RfRet e w' w.heap.size ok ta tb ∧ Below w.heap.size w w') := ⟨gpB z0, rfA z0, rfB z0, rfA_len z0, rfB_len z0, fun x0 w F0 o0 => specReadsFrom (some ⟨x0, 0, none⟩) n0 n0 z0 w HZ0.out hsn0 (RSteps.at o0), fun x0 w F0 o0 => implReadsFrom (some ⟨x0, 0, none⟩) n0 n0 z0 w HZ0.out hsn0 (RSteps.at o0)⟩
  obtain ⟨na, hna⟩ : ∃ na, ta.length = na := ⟨_, rfl⟩
  rw [hna] at hta
  have HNA := Hid.mk hna
  clear hna
  obtain ⟨nb, hnb⟩ : ∃ nb, tb.length = nb := ⟨_, rfl⟩
  rw [hnb] at htb
  have HNB := Hid.mk hnb
  clear hnb
  obtain ⟨VA, hVA⟩ : ∃ V : Nat, na * 2 = V := ⟨_, rfl⟩
  have hvA : VA ≤ 1048576 := by omega
  have HVA := Hid.mk hVA
  clear hVA
  go_enter Try.func5, Try.ntmps5
  go_wp2_with fail
  refine (szStepS_any a0 n0 c0 _ _ hn0 (by omega) (by omega)).mono ?_
  rintro e w1 ⟨rfl, hb1⟩
  rw [HC0.out, leftOf_yes (by omega)]
  have B_1 := B0.trans (hb1.mono B0.size)
  have zz1 : w.heap.size ≤ w1.heap.size := hb1.size
  clear hb1
  go_wp2_with fail
  refine (toStepS_rep a0 n0 c0 z0 _ HZ0.out hsn0 (At.below HA0.out B_1)).mono ?_
  rintro e w2 ⟨g2, rfl, ho2, hb2⟩
  have ot0_2 := Hid.mk ho2
  clear ho2
  have B_2 := B_1.trans (hb2.mono B_1.size)
  have zz2 : w1.heap.size ≤ w2.heap.size := hb2.size
  clear B_1
  clear hb2
  go_wp2_with fail
  refine (HS.out _ _ _ ot0_2.out).mono ?_
  rintro e w3 ⟨⟨rA3, mA3, dA3, rB3, mB3, dB3, lA3, hA3, lB3, hB3, rfl, hm3, hk3, ho3, hp3, ba3, bb3, bc3, bd3, be3, bf3, bg3⟩, hb3⟩
  clear ot0_2
  obtain rfl : na = mA3 := HNA.out.symm.trans hm3
  obtain rfl : nb = mB3 := HNB.out.symm.trans hk3
  have oo_3 := Hid.mk ho3
  have ou_3 := Hid.mk hp3
  clear ho3 hm3 hp3 hk3
  have B_3 := B_2.trans (hb3.mono B_2.size)
  have zz3 : w2.heap.size ≤ w3.heap.size := hb3.size
  clear B_2
  clear hb3
  go_wp2_with fail
  refine (toStepS_rep a0 n0 c0 z0 _ HZ0.out hsn0 (At.below HA0.out B_3)).mono ?_
  rintro e w4 ⟨g4, rfl, ho4, hb4⟩
  have ox0_4 := Hid.mk ho4
  clear ho4
  have oo_4 := Hid.mk (RSources.ownBelow oo_3.out hb4)
  have ou_4 := Hid.mk (RInts.ownBelow ou_3.out hb4)
  have B_4 := B_3.trans (hb4.mono B_3.size)
  have zz4 : w3.heap.size ≤ w4.heap.size := hb4.size
  clear oo_3 ou_3 B_3
  clear hb4
  go_wp2_with fail
  refine (HI.out _ _ _ ox0_4.out).mono ?_
  rintro e w5 ⟨⟨rA5, mA5, dA5, rB5, mB5, dB5, lA5, hA5, lB5, hB5, rfl, hm5, hk5, ho5, hp5, ba5, bb5, bc5, bd5, be5, bf5, bg5⟩, hb5⟩
  obtain rfl : na = mA5 := HNA.out.symm.trans hm5
  obtain rfl : nb = mB5 := HNB.out.symm.trans hk5
  have og_5 := Hid.mk ho5
  have ov_5 := Hid.mk hp5
  clear ho5 hm5 hp5 hk5
  have oo_5 := Hid.mk (RSources.ownBelow oo_4.out hb5)
  have ou_5 := Hid.mk (RInts.ownBelow ou_4.out hb5)
  have ox0_5 := Hid.mk (RSteps.ownBelow ox0_4.out hb5)
  have B_5 := B_4.trans (hb5.mono B_4.size)
  have zz5 : w4.heap.size ≤ w5.heap.size := hb5.size
  clear oo_4 ou_4 ox0_4 B_4
  clear hb5
  go_wp2_with fail
  refine (eqSourceS_same _ _ na _ _ ta _ HNA.out (by omega) (RSources.at og_5.out) (RSources.at oo_5.out)).mono ?_
  rintro e w6 ⟨rfl, hb6⟩
  have oo_6 := Hid.mk (RSources.ownBelow oo_5.out hb6)
  have ou_6 := Hid.mk (RInts.ownBelow ou_5.out hb6)
  have ox0_6 := Hid.mk (RSteps.ownBelow ox0_5.out hb6)
  have og_6 := Hid.mk (RSources.ownBelow og_5.out hb6)
  have ov_6 := Hid.mk (RInts.ownBelow ov_5.out hb6)
  have B_6 := B_5.trans (hb6.mono B_5.size)
  have zz6 : w5.heap.size ≤ w6.heap.size := hb6.size
  clear oo_5 ou_5 ox0_5 og_5 ov_5 B_5
  clear hb6
  go_wp2_with fail
  refine (eqIntS_same _ _ nb _ _ tb _ HNB.out (by omega) (ints_at ov_6.out) (ints_at ou_6.out)).mono ?_
  rintro e w7 ⟨rfl, hb7⟩
  have oo_7 := Hid.mk (RSources.ownBelow oo_6.out hb7)
  have ou_7 := Hid.mk (RInts.ownBelow ou_6.out hb7)
  have ox0_7 := Hid.mk (RSteps.ownBelow ox0_6.out hb7)
  have og_7 := Hid.mk (RSources.ownBelow og_6.out hb7)
  have ov_7 := Hid.mk (RInts.ownBelow ov_6.out hb7)
  have B_7 := B_6.trans (hb7.mono B_6.size)
  have zz7 : w6.heap.size ≤ w7.heap.size := hb7.size
  clear oo_6 ou_6 ox0_6 og_6 ov_6 B_6
  clear hb7
  go_wp2_with fail
  refine (toStepS_rep a0 n0 c0 z0 _ HZ0.out hsn0 (At.below HA0.out B_7)).mono ?_
  rintro e w8 ⟨g8, rfl, ho8, hb8⟩
  have oy_8 := Hid.mk ho8
  clear ho8
  have oo_8 := Hid.mk (RSources.ownBelow oo_7.out hb8)
  have ou_8 := Hid.mk (RInts.ownBelow ou_7.out hb8)
  have ox0_8 := Hid.mk (RSteps.ownBelow ox0_7.out hb8)
  have og_8 := Hid.mk (RSources.ownBelow og_7.out hb8)
  have ov_8 := Hid.mk (RInts.ownBelow ov_7.out hb8)
  have B_8 := B_7.trans (hb8.mono B_7.size)
  have zz8 : w7.heap.size ≤ w8.heap.size := hb8.size
  clear oo_7 ou_7 ox0_7 og_7 ov_7 B_7
  clear hb8
  go_wp2_with fail
  refine (eqStepS_same _ _ n0 _ _ z0 _ HZ0.out hsn0 (RSteps.at ox0_8.out) (RSteps.at oy_8.out)).mono ?_
  rintro e w9 ⟨rfl, hb9⟩
  clear oy_8
  have oo_9 := Hid.mk (RSources.ownBelow oo_8.out hb9)
  have ou_9 := Hid.mk (RInts.ownBelow ou_8.out hb9)
  have ox0_9 := Hid.mk (RSteps.ownBelow ox0_8.out hb9)
  have og_9 := Hid.mk (RSources.ownBelow og_8.out hb9)
  have ov_9 := Hid.mk (RInts.ownBelow ov_8.out hb9)
  have B_9 := B_8.trans (hb9.mono B_8.size)
  have zz9 : w8.heap.size ≤ w9.heap.size := hb9.size
  clear oo_8 ou_8 ox0_8 og_8 ov_8 B_8
  clear hb9
  go_wp2_with fail
  refine (markStepS_rep (From (w3.heap.size) (w4.heap.size)) _ n0 _ z0 _ _ hsn0 (by omega) (by omega) ox0_9.out).mono ?_
  rintro e w10 ⟨rfl, ho10, hg10⟩
  rw [HV0.out]
  have ox0_10 := Hid.mk ho10
  clear ho10
  have oo_10 := Hid.mk (RSources.ownOff oo_9.out hg10 (fun b h1 h2 => by have h3 := h1.1; have h4 := h1.2; have h5 := h2.1; have h6 := h2.2; omega))
  have ou_10 := Hid.mk (RInts.ownOff ou_9.out hg10 (fun b h1 h2 => by have h3 := h1.1; have h4 := h1.2; have h5 := h2.1; have h6 := h2.2; omega))
  have og_10 := Hid.mk (RSources.ownOff og_9.out hg10 (fun b h1 h2 => by have h3 := h1.1; have h4 := h1.2; have h5 := h2.1; have h6 := h2.2; omega))
  have ov_10 := Hid.mk (RInts.ownOff ov_9.out hg10 (fun b h1 h2 => by have h3 := h1.1; have h4 := h1.2; have h5 := h2.1; have h6 := h2.2; omega))
  have B_10 := B_9.trans (hg10.toBelow (by omega) B_9.size)
  have zz10 : w9.heap.size ≤ w10.heap.size := hg10.size
  clear oo_9 ou_9 ox0_9 og_9 ov_9 B_9
  clear hg10
  have kpos : ¬ (1 : Int) + (V0 : Int) < 0 := by omega
  go_wp2_with fail
  refine (eqSourceS_same _ _ na _ _ ta _ HNA.out (by omega) (RSources.at og_10.out) (RSources.at oo_10.out)).mono ?_
  rintro e w11 ⟨rfl, hb11⟩
  have oo_11 := Hid.mk (RSources.ownBelow oo_10.out hb11)
  have ou_11 := Hid.mk (RInts.ownBelow ou_10.out hb11)
  have ox0_11 := Hid.mk (RSteps.ownBelow ox0_10.out hb11)
  have og_11 := Hid.mk (RSources.ownBelow og_10.out hb11)
  have ov_11 := Hid.mk (RInts.ownBelow ov_10.out hb11)
  have B_11 := B_10.trans (hb11.mono B_10.size)
  have zz11 : w10.heap.size ≤ w11.heap.size := hb11.size
  clear oo_10 ou_10 ox0_10 og_10 ov_10 B_10
  clear hb11
  go_wp2_with fail
  refine (eqIntS_same _ _ nb _ _ tb _ HNB.out (by omega) (ints_at ov_11.out) (ints_at ou_11.out)).mono ?_
  rintro e w12 ⟨rfl, hb12⟩
  have oo_12 := Hid.mk (RSources.ownBelow oo_11.out hb12)
  have ou_12 := Hid.mk (RInts.ownBelow ou_11.out hb12)
  have ox0_12 := Hid.mk (RSteps.ownBelow ox0_11.out hb12)
  have og_12 := Hid.mk (RSources.ownBelow og_11.out hb12)
  have ov_12 := Hid.mk (RInts.ownBelow ov_11.out hb12)
  have B_12 := B_11.trans (hb12.mono B_11.size)
  have zz12 : w11.heap.size ≤ w12.heap.size := hb12.size
  clear oo_11 ou_11 ox0_11 og_11 ov_11 B_11
  clear hb12
  clear ox0_12
  go_wp2_with fail
  refine (markSourceS_rep (From (lA5) (hA5)) _ na _ ta 1 _ (by omega) (by omega) (by omega) og_12.out).mono ?_
  rintro e w13 ⟨rfl, ho13, hg13⟩
  rw [HVA.out]
  have og_13 := Hid.mk ho13
  clear ho13
  have oo_13 := Hid.mk (RSources.ownOff oo_12.out hg13 (fun b h1 h2 => by have h3 := h1.1; have h4 := h1.2; have h5 := h2.1; have h6 := h2.2; omega))
  have ou_13 := Hid.mk (RInts.ownOff ou_12.out hg13 (fun b h1 h2 => by have h3 := h1.1; have h4 := h1.2; have h5 := h2.1; have h6 := h2.2; omega))
  have ov_13 := Hid.mk (RInts.ownOff ov_12.out hg13 (fun b h1 h2 => by have h3 := h1.1; have h4 := h1.2; have h5 := h2.1; have h6 := h2.2; omega))
  have B_13 := B_12.trans (hg13.toBelow (by omega) B_12.size)
  have zz13 : w12.heap.size ≤ w13.heap.size := hg13.size
  clear oo_12 ou_12 og_12 ov_12 B_12
  clear hg13
  go_wp2_with fail
  refine (markInts_rep (From (lB5) (hB5)) _ nb _ tb ((1 : Int) + (VA : Int)) _ (by omega) (by omega) (by omega) ov_13.out).mono ?_
  rintro e w14 ⟨rfl, ho14, hg14⟩
  have ov_14 := Hid.mk ho14
  clear ho14
  have oo_14 := Hid.mk (RSources.ownOff oo_13.out hg14 (fun b h1 h2 => by have h3 := h1.1; have h4 := h1.2; have h5 := h2.1; have h6 := h2.2; omega))
  have ou_14 := Hid.mk (RInts.ownOff ou_13.out hg14 (fun b h1 h2 => by have h3 := h1.1; have h4 := h1.2; have h5 := h2.1; have h6 := h2.2; omega))
  have og_14 := Hid.mk (RSources.ownOff og_13.out hg14 (fun b h1 h2 => by have h3 := h1.1; have h4 := h1.2; have h5 := h2.1; have h6 := h2.2; omega))
  have B_14 := B_13.trans (hg14.toBelow (by omega) B_13.size)
  have zz14 : w13.heap.size ≤ w14.heap.size := hg14.size
  clear oo_13 ou_13 og_13 ov_13 B_13
  clear hg14
  have gpos : ¬ (1 : Int) + (VA : Int) < 0 := by omega
  have gpos2 : ¬ (1 : Int) + (VA : Int) + (nb : Int) < 0 := by omega
  go_wp2_with fail
  refine (heldSourceS_rep _ na _ ta 1 _ HNA.out (by omega) (by omega) (by omega) (RSources.at og_14.out)).mono ?_
  rintro e w15 ⟨rfl, hb15⟩
  rw [HVA.out]
  have oo_15 := Hid.mk (RSources.ownBelow oo_14.out hb15)
  have ou_15 := Hid.mk (RInts.ownBelow ou_14.out hb15)
  have og_15 := Hid.mk (RSources.ownBelow og_14.out hb15)
  have ov_15 := Hid.mk (RInts.ownBelow ov_14.out hb15)
  have B_15 := B_14.trans (hb15.mono B_14.size)
  have zz15 : w14.heap.size ≤ w15.heap.size := hb15.size
  clear oo_14 ou_14 og_14 ov_14 B_14
  clear hb15
  go_wp2_with fail
  refine (heldInts_rep _ nb _ tb ((1 : Int) + (VA : Int)) _ HNB.out (by omega) (by omega) (by omega) (ints_at ov_15.out)).mono ?_
  rintro e w16 ⟨rfl, hb16⟩
  have oo_16 := Hid.mk (RSources.ownBelow oo_15.out hb16)
  have ou_16 := Hid.mk (RInts.ownBelow ou_15.out hb16)
  have og_16 := Hid.mk (RSources.ownBelow og_15.out hb16)
  have ov_16 := Hid.mk (RInts.ownBelow ov_15.out hb16)
  have B_16 := B_15.trans (hb16.mono B_15.size)
  have zz16 : w15.heap.size ≤ w16.heap.size := hb16.size
  clear oo_15 ou_15 og_15 ov_15 B_15
  clear hb16
  go_wp2_with fail
  refine (toStepS_rep a0 n0 c0 z0 _ HZ0.out hsn0 (At.below HA0.out B_16)).mono ?_
  rintro e w17 ⟨g17, rfl, ho17, hb17⟩
  have oh0_17 := Hid.mk ho17
  clear ho17
  have oo_17 := Hid.mk (RSources.ownBelow oo_16.out hb17)
  have ou_17 := Hid.mk (RInts.ownBelow ou_16.out hb17)
  have og_17 := Hid.mk (RSources.ownBelow og_16.out hb17)
  have ov_17 := Hid.mk (RInts.ownBelow ov_16.out hb17)
  have B_17 := B_16.trans (hb17.mono B_16.size)
  have zz17 : w16.heap.size ≤ w17.heap.size := hb17.size
  clear oo_16 ou_16 og_16 ov_16 B_16
  clear hb17
  go_wp2_with fail
  refine (HI.out _ _ _ oh0_17.out).mono ?_
  rintro e w18 ⟨⟨rA18, mA18, dA18, rB18, mB18, dB18, lA18, hA18, lB18, hB18, rfl, hm18, hk18, ho18, hp18, ba18, bb18, bc18, bd18, be18, bf18, bg18⟩, hb18⟩
  clear oh0_17
  obtain rfl : na = mA18 := HNA.out.symm.trans hm18
  obtain rfl : nb = mB18 := HNB.out.symm.trans hk18
  have ohg_18 := Hid.mk ho18
  have ohv_18 := Hid.mk hp18
  clear ho18 hm18 hp18 hk18
  have oo_18 := Hid.mk (RSources.ownBelow oo_17.out hb18)
  have ou_18 := Hid.mk (RInts.ownBelow ou_17.out hb18)
  have og_18 := Hid.mk (RSources.ownBelow og_17.out hb18)
  have ov_18 := Hid.mk (RInts.ownBelow ov_17.out hb18)
  have B_18 := B_17.trans (hb18.mono B_17.size)
  have zz18 : w17.heap.size ≤ w18.heap.size := hb18.size
  clear oo_17 ou_17 og_17 ov_17 B_17
  clear hb18
  go_wp2_with fail
  refine (eqSourceS_same _ _ na _ _ ta _ HNA.out (by omega) (RSources.at ohg_18.out) (RSources.at oo_18.out)).mono ?_
  rintro e w19 ⟨rfl, hb19⟩
  have oo_19 := Hid.mk (RSources.ownBelow oo_18.out hb19)
  have ou_19 := Hid.mk (RInts.ownBelow ou_18.out hb19)
  have og_19 := Hid.mk (RSources.ownBelow og_18.out hb19)
  have ov_19 := Hid.mk (RInts.ownBelow ov_18.out hb19)
  have ohg_19 := Hid.mk (RSources.ownBelow ohg_18.out hb19)
  have ohv_19 := Hid.mk (RInts.ownBelow ohv_18.out hb19)
  have B_19 := B_18.trans (hb19.mono B_18.size)
  have zz19 : w18.heap.size ≤ w19.heap.size := hb19.size
  clear oo_18 ou_18 og_18 ov_18 ohg_18 ohv_18 B_18
  clear hb19
  go_wp2_with fail
  refine (eqIntS_same _ _ nb _ _ tb _ HNB.out (by omega) (ints_at ohv_19.out) (ints_at ou_19.out)).mono ?_
  rintro e w20 ⟨rfl, hb20⟩
  have oo_20 := Hid.mk (RSources.ownBelow oo_19.out hb20)
  have ou_20 := Hid.mk (RInts.ownBelow ou_19.out hb20)
  have og_20 := Hid.mk (RSources.ownBelow og_19.out hb20)
  have ov_20 := Hid.mk (RInts.ownBelow ov_19.out hb20)
  have ohg_20 := Hid.mk (RSources.ownBelow ohg_19.out hb20)
  have ohv_20 := Hid.mk (RInts.ownBelow ohv_19.out hb20)
  have B_20 := B_19.trans (hb20.mono B_19.size)
  have zz20 : w19.heap.size ≤ w20.heap.size := hb20.size
  clear oo_19 ou_19 og_19 ov_19 ohg_19 ohv_19 B_19
  clear hb20
  go_wp2_with fail
  refine (heldSourceS_rep _ na _ ta 1 _ HNA.out (by omega) (by omega) (by omega) (RSources.at og_20.out)).mono ?_
  rintro e w21 ⟨rfl, hb21⟩
  rw [HVA.out]
  have oo_21 := Hid.mk (RSources.ownBelow oo_20.out hb21)
  have ou_21 := Hid.mk (RInts.ownBelow ou_20.out hb21)
  have og_21 := Hid.mk (RSources.ownBelow og_20.out hb21)
  have ov_21 := Hid.mk (RInts.ownBelow ov_20.out hb21)
  have ohg_21 := Hid.mk (RSources.ownBelow ohg_20.out hb21)
  have ohv_21 := Hid.mk (RInts.ownBelow ohv_20.out hb21)
  have B_21 := B_20.trans (hb21.mono B_20.size)
  have zz21 : w20.heap.size ≤ w21.heap.size := hb21.size
  clear oo_20 ou_20 og_20 ov_20 ohg_20 ohv_20 B_20
  clear hb21
  go_wp2_with fail
  refine (heldInts_rep _ nb _ tb ((1 : Int) + (VA : Int)) _ HNB.out (by omega) (by omega) (by omega) (ints_at ov_21.out)).mono ?_
  rintro e w22 ⟨rfl, hb22⟩
  have oo_22 := Hid.mk (RSources.ownBelow oo_21.out hb22)
  have ou_22 := Hid.mk (RInts.ownBelow ou_21.out hb22)
  have og_22 := Hid.mk (RSources.ownBelow og_21.out hb22)
  have ov_22 := Hid.mk (RInts.ownBelow ov_21.out hb22)
  have ohg_22 := Hid.mk (RSources.ownBelow ohg_21.out hb22)
  have ohv_22 := Hid.mk (RInts.ownBelow ohv_21.out hb22)
  have B_22 := B_21.trans (hb22.mono B_21.size)
  have zz22 : w21.heap.size ≤ w22.heap.size := hb22.size
  clear oo_21 ou_21 og_21 ov_21 ohg_21 ohv_21 B_21
  clear hb22
  go_wp2
  go_ret
  exact ⟨rfl, B_22⟩

end Go.Proofs.Ytociphdhkjoofaa
