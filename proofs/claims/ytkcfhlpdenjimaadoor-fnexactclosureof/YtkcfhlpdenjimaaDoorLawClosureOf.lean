/- The law FnExactClosureOf returns true at every input, and writes nothing that was there. -/
import Derived.Test.YtkcfhlpdenjimaaDoorClO
import Derived.Test.YtkcfhlpdenjimaaDoorLawD6
namespace Go.Proofs.YtkcfhlpdenjimaaDoor
open Go.RowKit

set_option maxRecDepth 100000 in
set_option maxHeartbeats 16000000 in
theorem lawClosureOf (a0 : Option Addr) (n0 c0 : Nat) (z0 : List Dep) (a1 : Int) (a2 : Option Addr) (n2 c2 : Nat) (z2 : List Int) (w : World) (hz0 : z0.length = n0) (hn0 : n0 ≤ 9223372036854775807) (ha0 : AtD w a0 z0) (_w1 : (Lit.int .i64 a1).wf = true) (hz2 : z2.length = n2) (hn2 : n2 ≤ 9223372036854775807) (ha2 : At w a2 z2) (htab : TabB w) :
    Calls Tryd.prog 3 #[.slice a0 n0 c0, .int .i64 a1, .slice a2 n2 c2] w fun e w' => e = .returned (.bool true) ∧ Below w.heap.size w w' := by
  have HA0 := Hid.mk ha0
  have HZ0 := Hid.mk hz0
  clear ha0 hz0
  have HA2 := Hid.mk ha2
  have HZ2 := Hid.mk hz2
  clear ha2 hz2
  have HTAB := Hid.mk htab
  clear htab
  have B0 : Below w.heap.size w w := Below.refl _ _
  by_cases big2 : 1048576 < n2
  · have big2' : (1048576 : Int) < (n2 : Int) := by omega
    go_enter Tryd.func3, Tryd.ntmps3
    go_wp2
    go_ret
    exact ⟨rfl, B0⟩
  have hb2' : ¬ (1048576 : Int) < (n2 : Int) := by omega
  have hsn2 : n2 ≤ 1048576 := by omega
  have HVB2 := hsn2
  obtain ⟨C0, hC0⟩ : ∃ C : Nat, n0 + dsum z0 n0 = C := ⟨_, rfl⟩
  have HC0 := Hid.mk hC0
  clear hC0
  by_cases big0 : (1048576 : Int) < (C0 : Int)
  · go_enter Tryd.func3, Tryd.ntmps3
    go_wp2_with fail
    refine (szDependS_any a0 n0 c0 z0 _ _ HZ0.out hn0 (by omega) (by omega) (AtSl.below HA0.out B0)).mono ?_
    rintro e v0 ⟨rfl, hv0⟩
    rw [HC0.out, leftOf_no big0]
    have y0 := B0.trans (hv0.mono B0.size)
    go_wp2
    go_ret
    exact ⟨rfl, y0⟩
  have hl0 : ¬ (1048576 : Int) - (C0 : Int) < 0 := by omega
  have HSM0 : Hid (SmD z0 n0) := ⟨HZ0.out, by have := HC0.out; omega⟩
  have hsn0 : n0 ≤ 1048576 := HSM0.out.n
  have HVB0 := HSM0.out.sum
  obtain ⟨V0, hV0⟩ : ∃ V : Nat, dsum z0 n0 = V := ⟨_, rfl⟩
  rw [hV0] at HVB0
  have HV0 := Hid.mk hV0
  clear hV0
  obtain ⟨ok, ta, hta, HS, HI⟩ : ∃ (ok : Bool) (ta : List Int), ta.length ≤ 6 ∧ Hid (∀ (x0 : Nat) (x2 : Nat) (w : World) (F0 F2 : Nat → Prop), RDeps.Own w F0 [.slice (some ⟨x0, 0, none⟩) n0 n0] z0 → RInts.Own w F2 [.slice (some ⟨x2, 0, none⟩) n2 n2] z2 → Calls Tryd.prog 8 #[.slice (some ⟨x0, 0, none⟩) n0 n0, .int .i64 a1, .slice (some ⟨x2, 0, none⟩) n2 n2] w fun e w' => IntsRet e w' w.heap.size ok ta ∧ Below w.heap.size w w') ∧ Hid (∀ (x0 : Nat) (x2 : Nat) (w : World) (F0 F2 : Nat → Prop), RDeps.Own w F0 [.slice (some ⟨x0, 0, none⟩) n0 n0] z0 → RInts.Own w F2 [.slice (some ⟨x2, 0, none⟩) n2 n2] z2 → TabB w → Calls Tryd.prog 11 #[.slice (some ⟨x0, 0, none⟩) n0 n0, .int .i64 a1, .slice (some ⟨x2, 0, none⟩) n2 n2] w fun e w' => IntsRet e w' w.heap.size ok ta ∧ Below w.heap.size w w') := ⟨clB z0 a1 z2, clL z0 a1 z2, clL_len z0 a1 z2, fun x0 x2 w F0 F2 o0 o2 => specClosureOf (some ⟨x0, 0, none⟩) n0 n0 z0 a1 (some ⟨x2, 0, none⟩) n2 n2 z2 w HZ0.out hsn0 (deps_at o0) HZ2.out hsn2 (ints_at o2) (fun h => by cases h), fun x0 x2 w F0 F2 o0 o2 ht => implClosureOf (some ⟨x0, 0, none⟩) n0 n0 z0 a1 (some ⟨x2, 0, none⟩) n2 n2 z2 w HZ0.out hsn0 (deps_at o0) HZ2.out hsn2 (ints_at o2) ht⟩
  obtain ⟨na, hna⟩ : ∃ na, ta.length = na := ⟨_, rfl⟩
  rw [hna] at hta
  have HNA := Hid.mk hna
  clear hna
  go_enter Tryd.func3, Tryd.ntmps3
  go_wp2_with fail
  refine (szDependS_any a0 n0 c0 z0 _ _ HZ0.out hn0 (by omega) (by omega) (AtSl.below HA0.out B0)).mono ?_
  rintro e w1 ⟨rfl, hb1⟩
  rw [HC0.out, leftOf_yes (by omega)]
  have B_1 := B0.trans (hb1.mono B0.size)
  have zz1 : w.heap.size ≤ w1.heap.size := hb1.size
  clear hb1
  go_wp2_with fail
  refine (toDependSG a0 n0 c0 z0 _ HSM0.out (AtSl.below HA0.out B_1)).mono ?_
  rintro e w2 ⟨g2, rfl, ho2, hb2⟩
  have ot0_2 := Hid.mk ho2
  clear ho2
  have B_2 := B_1.trans (hb2.mono B_1.size)
  have zz2 : w1.heap.size ≤ w2.heap.size := hb2.size
  clear B_1
  clear hb2
  go_wp2_with fail
  refine (toInts_rep a2 n2 c2 z2 _ HZ2.out hsn2 (At.below HA2.out B_2)).mono ?_
  rintro e w3 ⟨g3, rfl, ho3, hb3⟩
  have ot2_3 := Hid.mk ho3
  clear ho3
  have ot0_3 := Hid.mk (RDeps.ownBelow ot0_2.out hb3)
  have B_3 := B_2.trans (hb3.mono B_2.size)
  have zz3 : w2.heap.size ≤ w3.heap.size := hb3.size
  clear ot0_2 B_2
  clear hb3
  go_wp2_with fail
  refine (HS.out _ _ _ _ _ ot0_3.out ot2_3.out).mono ?_
  rintro e w4 ⟨⟨r4, m4, d4, rfl, hm4, ho4⟩, hb4⟩
  clear ot0_3
  clear ot2_3
  obtain rfl : na = m4 := HNA.out.symm.trans hm4
  have oo_4 := Hid.mk (RInts.of_owns HNA.out (by omega) ho4)
  clear ho4 hm4
  have B_4 := B_3.trans (hb4.mono B_3.size)
  have zz4 : w3.heap.size ≤ w4.heap.size := hb4.size
  clear B_3
  clear hb4
  go_wp2_with fail
  refine (toDependSG a0 n0 c0 z0 _ HSM0.out (AtSl.below HA0.out B_4)).mono ?_
  rintro e w5 ⟨g5, rfl, ho5, hb5⟩
  have ox0_5 := Hid.mk ho5
  clear ho5
  have oo_5 := Hid.mk (RInts.ownBelow oo_4.out hb5)
  have B_5 := B_4.trans (hb5.mono B_4.size)
  have zz5 : w4.heap.size ≤ w5.heap.size := hb5.size
  clear oo_4 B_4
  clear hb5
  go_wp2_with fail
  refine (toInts_rep a2 n2 c2 z2 _ HZ2.out hsn2 (At.below HA2.out B_5)).mono ?_
  rintro e w6 ⟨g6, rfl, ho6, hb6⟩
  have ox2_6 := Hid.mk ho6
  clear ho6
  have oo_6 := Hid.mk (RInts.ownBelow oo_5.out hb6)
  have ox0_6 := Hid.mk (RDeps.ownBelow ox0_5.out hb6)
  have B_6 := B_5.trans (hb6.mono B_5.size)
  have zz6 : w5.heap.size ≤ w6.heap.size := hb6.size
  clear oo_5 ox0_5 B_5
  clear hb6
  go_wp2_with fail
  refine (HI.out _ _ _ _ _ ox0_6.out ox2_6.out (TabIs.below HTAB.out B_6)).mono ?_
  rintro e w7 ⟨⟨r7, m7, d7, rfl, hm7, ho7⟩, hb7⟩
  obtain rfl : na = m7 := HNA.out.symm.trans hm7
  have og_7 := Hid.mk (RInts.of_owns HNA.out (by omega) ho7)
  clear ho7 hm7
  have oo_7 := Hid.mk (RInts.ownBelow oo_6.out hb7)
  have ox0_7 := Hid.mk (RDeps.ownBelow ox0_6.out hb7)
  have ox2_7 := Hid.mk (RInts.ownBelow ox2_6.out hb7)
  have B_7 := B_6.trans (hb7.mono B_6.size)
  have zz7 : w6.heap.size ≤ w7.heap.size := hb7.size
  clear oo_6 ox0_6 ox2_6 B_6
  clear hb7
  go_wp2_with fail
  refine (eqIntS_same _ _ na _ _ ta _ HNA.out (by omega) (ints_at og_7.out) (ints_at oo_7.out)).mono ?_
  rintro e w8 ⟨rfl, hb8⟩
  have oo_8 := Hid.mk (RInts.ownBelow oo_7.out hb8)
  have ox0_8 := Hid.mk (RDeps.ownBelow ox0_7.out hb8)
  have ox2_8 := Hid.mk (RInts.ownBelow ox2_7.out hb8)
  have og_8 := Hid.mk (RInts.ownBelow og_7.out hb8)
  have B_8 := B_7.trans (hb8.mono B_7.size)
  have zz8 : w7.heap.size ≤ w8.heap.size := hb8.size
  clear oo_7 ox0_7 ox2_7 og_7 B_7
  clear hb8
  go_wp2_with fail
  refine (toDependSG a0 n0 c0 z0 _ HSM0.out (AtSl.below HA0.out B_8)).mono ?_
  rintro e w9 ⟨g9, rfl, ho9, hb9⟩
  have oy_9 := Hid.mk ho9
  clear ho9
  have oo_9 := Hid.mk (RInts.ownBelow oo_8.out hb9)
  have ox0_9 := Hid.mk (RDeps.ownBelow ox0_8.out hb9)
  have ox2_9 := Hid.mk (RInts.ownBelow ox2_8.out hb9)
  have og_9 := Hid.mk (RInts.ownBelow og_8.out hb9)
  have B_9 := B_8.trans (hb9.mono B_8.size)
  have zz9 : w8.heap.size ≤ w9.heap.size := hb9.size
  clear oo_8 ox0_8 ox2_8 og_8 B_8
  clear hb9
  go_wp2_with fail
  refine (eqDependSG _ _ n0 _ _ z0 _ HSM0.out (OwnD.atD0 ox0_9.out) (OwnD.atD0 oy_9.out)).mono ?_
  rintro e w10 ⟨rfl, hb10⟩
  clear oy_9
  have oo_10 := Hid.mk (RInts.ownBelow oo_9.out hb10)
  have ox0_10 := Hid.mk (RDeps.ownBelow ox0_9.out hb10)
  have ox2_10 := Hid.mk (RInts.ownBelow ox2_9.out hb10)
  have og_10 := Hid.mk (RInts.ownBelow og_9.out hb10)
  have B_10 := B_9.trans (hb10.mono B_9.size)
  have zz10 : w9.heap.size ≤ w10.heap.size := hb10.size
  clear oo_9 ox0_9 ox2_9 og_9 B_9
  clear hb10
  go_wp2_with fail
  refine (toInts_rep a2 n2 c2 z2 _ HZ2.out hsn2 (At.below HA2.out B_10)).mono ?_
  rintro e w11 ⟨g11, rfl, ho11, hb11⟩
  have oy_11 := Hid.mk ho11
  clear ho11
  have oo_11 := Hid.mk (RInts.ownBelow oo_10.out hb11)
  have ox0_11 := Hid.mk (RDeps.ownBelow ox0_10.out hb11)
  have ox2_11 := Hid.mk (RInts.ownBelow ox2_10.out hb11)
  have og_11 := Hid.mk (RInts.ownBelow og_10.out hb11)
  have B_11 := B_10.trans (hb11.mono B_10.size)
  have zz11 : w10.heap.size ≤ w11.heap.size := hb11.size
  clear oo_10 ox0_10 ox2_10 og_10 B_10
  clear hb11
  go_wp2_with fail
  refine (eqIntS_same _ _ n2 _ _ z2 _ HZ2.out hsn2 (ints_at ox2_11.out) (ints_at oy_11.out)).mono ?_
  rintro e w12 ⟨rfl, hb12⟩
  clear oy_11
  have oo_12 := Hid.mk (RInts.ownBelow oo_11.out hb12)
  have ox0_12 := Hid.mk (RDeps.ownBelow ox0_11.out hb12)
  have ox2_12 := Hid.mk (RInts.ownBelow ox2_11.out hb12)
  have og_12 := Hid.mk (RInts.ownBelow og_11.out hb12)
  have B_12 := B_11.trans (hb12.mono B_11.size)
  have zz12 : w11.heap.size ≤ w12.heap.size := hb12.size
  clear oo_11 ox0_11 ox2_11 og_11 B_11
  clear hb12
  go_wp2_with fail
  refine (markDependS_rep (From (w4.heap.size) (w5.heap.size)) _ n0 _ z0 _ _ hsn0 HSM0.out.sum (by omega) (by omega) ox0_12.out).mono ?_
  rintro e w13 ⟨rfl, ho13, hg13⟩
  rw [HV0.out]
  have ox0_13 := Hid.mk ho13
  clear ho13
  have oo_13 := Hid.mk (RInts.ownOff oo_12.out hg13 (fun b h1 h2 => by have h3 := h1.1; have h4 := h1.2; have h5 := h2.1; have h6 := h2.2; omega))
  have ox2_13 := Hid.mk (RInts.ownOff ox2_12.out hg13 (fun b h1 h2 => by have h3 := h1.1; have h4 := h1.2; have h5 := h2.1; have h6 := h2.2; omega))
  have og_13 := Hid.mk (RInts.ownOff og_12.out hg13 (fun b h1 h2 => by have h3 := h1.1; have h4 := h1.2; have h5 := h2.1; have h6 := h2.2; omega))
  have B_13 := B_12.trans (hg13.toBelow (by omega) B_12.size)
  have zz13 : w12.heap.size ≤ w13.heap.size := hg13.size
  clear oo_12 ox0_12 ox2_12 og_12 B_12
  clear hg13
  go_wp2_with fail
  refine (markInts_rep (From (w5.heap.size) (w6.heap.size)) _ n2 _ z2 _ _ hsn2 (by omega) (by omega) ox2_13.out).mono ?_
  rintro e w14 ⟨rfl, ho14, hg14⟩
  have ox2_14 := Hid.mk ho14
  clear ho14
  have oo_14 := Hid.mk (RInts.ownOff oo_13.out hg14 (fun b h1 h2 => by have h3 := h1.1; have h4 := h1.2; have h5 := h2.1; have h6 := h2.2; omega))
  have ox0_14 := Hid.mk (RDeps.ownOff ox0_13.out hg14 (fun b h1 h2 => by have h3 := h1.1; have h4 := h1.2; have h5 := h2.1; have h6 := h2.2; omega))
  have og_14 := Hid.mk (RInts.ownOff og_13.out hg14 (fun b h1 h2 => by have h3 := h1.1; have h4 := h1.2; have h5 := h2.1; have h6 := h2.2; omega))
  have B_14 := B_13.trans (hg14.toBelow (by omega) B_13.size)
  have zz14 : w13.heap.size ≤ w14.heap.size := hg14.size
  clear oo_13 ox0_13 ox2_13 og_13 B_13
  clear hg14
  have kpos : ¬ (1 : Int) + (V0 : Int) + (n2 : Int) < 0 := by omega
  go_wp2_with fail
  refine (eqIntS_same _ _ na _ _ ta _ HNA.out (by omega) (ints_at og_14.out) (ints_at oo_14.out)).mono ?_
  rintro e w15 ⟨rfl, hb15⟩
  have oo_15 := Hid.mk (RInts.ownBelow oo_14.out hb15)
  have ox0_15 := Hid.mk (RDeps.ownBelow ox0_14.out hb15)
  have ox2_15 := Hid.mk (RInts.ownBelow ox2_14.out hb15)
  have og_15 := Hid.mk (RInts.ownBelow og_14.out hb15)
  have B_15 := B_14.trans (hb15.mono B_14.size)
  have zz15 : w14.heap.size ≤ w15.heap.size := hb15.size
  clear oo_14 ox0_14 ox2_14 og_14 B_14
  clear hb15
  clear ox0_15
  clear ox2_15
  go_wp2_with fail
  refine (markInts_rep (From (w6.heap.size) (w7.heap.size)) _ na _ ta 1 _ (by omega) (by omega) (by omega) og_15.out).mono ?_
  rintro e w16 ⟨rfl, ho16, hg16⟩
  have og_16 := Hid.mk ho16
  clear ho16
  have oo_16 := Hid.mk (RInts.ownOff oo_15.out hg16 (fun b h1 h2 => by have h3 := h1.1; have h4 := h1.2; have h5 := h2.1; have h6 := h2.2; omega))
  have B_16 := B_15.trans (hg16.toBelow (by omega) B_15.size)
  have zz16 : w15.heap.size ≤ w16.heap.size := hg16.size
  clear oo_15 og_15 B_15
  clear hg16
  have gpos : ¬ (1 : Int) + (na : Int) < 0 := by omega
  go_wp2_with fail
  refine (heldInts_rep _ na _ ta 1 _ HNA.out (by omega) (by omega) (by omega) (ints_at og_16.out)).mono ?_
  rintro e w17 ⟨rfl, hb17⟩
  have oo_17 := Hid.mk (RInts.ownBelow oo_16.out hb17)
  have og_17 := Hid.mk (RInts.ownBelow og_16.out hb17)
  have B_17 := B_16.trans (hb17.mono B_16.size)
  have zz17 : w16.heap.size ≤ w17.heap.size := hb17.size
  clear oo_16 og_16 B_16
  clear hb17
  go_wp2_with fail
  refine (toDependSG a0 n0 c0 z0 _ HSM0.out (AtSl.below HA0.out B_17)).mono ?_
  rintro e w18 ⟨g18, rfl, ho18, hb18⟩
  have oh0_18 := Hid.mk ho18
  clear ho18
  have oo_18 := Hid.mk (RInts.ownBelow oo_17.out hb18)
  have og_18 := Hid.mk (RInts.ownBelow og_17.out hb18)
  have B_18 := B_17.trans (hb18.mono B_17.size)
  have zz18 : w17.heap.size ≤ w18.heap.size := hb18.size
  clear oo_17 og_17 B_17
  clear hb18
  go_wp2_with fail
  refine (toInts_rep a2 n2 c2 z2 _ HZ2.out hsn2 (At.below HA2.out B_18)).mono ?_
  rintro e w19 ⟨g19, rfl, ho19, hb19⟩
  have oh2_19 := Hid.mk ho19
  clear ho19
  have oo_19 := Hid.mk (RInts.ownBelow oo_18.out hb19)
  have og_19 := Hid.mk (RInts.ownBelow og_18.out hb19)
  have oh0_19 := Hid.mk (RDeps.ownBelow oh0_18.out hb19)
  have B_19 := B_18.trans (hb19.mono B_18.size)
  have zz19 : w18.heap.size ≤ w19.heap.size := hb19.size
  clear oo_18 og_18 oh0_18 B_18
  clear hb19
  go_wp2_with fail
  refine (HI.out _ _ _ _ _ oh0_19.out oh2_19.out (TabIs.below HTAB.out B_19)).mono ?_
  rintro e w20 ⟨⟨r20, m20, d20, rfl, hm20, ho20⟩, hb20⟩
  clear oh0_19
  clear oh2_19
  obtain rfl : na = m20 := HNA.out.symm.trans hm20
  have ohg_20 := Hid.mk (RInts.of_owns HNA.out (by omega) ho20)
  clear ho20 hm20
  have oo_20 := Hid.mk (RInts.ownBelow oo_19.out hb20)
  have og_20 := Hid.mk (RInts.ownBelow og_19.out hb20)
  have B_20 := B_19.trans (hb20.mono B_19.size)
  have zz20 : w19.heap.size ≤ w20.heap.size := hb20.size
  clear oo_19 og_19 B_19
  clear hb20
  go_wp2_with fail
  refine (eqIntS_same _ _ na _ _ ta _ HNA.out (by omega) (ints_at ohg_20.out) (ints_at oo_20.out)).mono ?_
  rintro e w21 ⟨rfl, hb21⟩
  have oo_21 := Hid.mk (RInts.ownBelow oo_20.out hb21)
  have og_21 := Hid.mk (RInts.ownBelow og_20.out hb21)
  have ohg_21 := Hid.mk (RInts.ownBelow ohg_20.out hb21)
  have B_21 := B_20.trans (hb21.mono B_20.size)
  have zz21 : w20.heap.size ≤ w21.heap.size := hb21.size
  clear oo_20 og_20 ohg_20 B_20
  clear hb21
  go_wp2_with fail
  refine (heldInts_rep _ na _ ta 1 _ HNA.out (by omega) (by omega) (by omega) (ints_at og_21.out)).mono ?_
  rintro e w22 ⟨rfl, hb22⟩
  have oo_22 := Hid.mk (RInts.ownBelow oo_21.out hb22)
  have og_22 := Hid.mk (RInts.ownBelow og_21.out hb22)
  have ohg_22 := Hid.mk (RInts.ownBelow ohg_21.out hb22)
  have B_22 := B_21.trans (hb22.mono B_21.size)
  have zz22 : w21.heap.size ≤ w22.heap.size := hb22.size
  clear oo_21 og_21 ohg_21 B_21
  clear hb22
  go_wp2
  go_ret
  exact ⟨rfl, B_22⟩

end Go.Proofs.YtkcfhlpdenjimaaDoor
