/- The law FnExactSplitBy returns true at every input, and writes nothing that was there. -/
import Derived.Test.YtpnaoahlfhbbmaaDoorSplB
import Derived.Test.YtpnaoahlfhbbmaaDoorLawD6
namespace Go.Proofs.YtpnaoahlfhbbmaaDoor
open Go.RowKit

set_option maxRecDepth 100000 in
set_option maxHeartbeats 16000000 in
theorem lawSplitBy (a0 : Option Addr) (n0 c0 : Nat) (z0 : List Dep) (a1 : Int) (a2 : Option Addr) (n2 c2 : Nat) (z2 : List Int) (a3 : Option Addr) (n3 c3 : Nat) (z3 : List Int) (w : World) (hz0 : z0.length = n0) (hn0 : n0 ≤ 9223372036854775807) (ha0 : AtD w a0 z0) (_w1 : (Lit.int .i64 a1).wf = true) (hz2 : z2.length = n2) (hn2 : n2 ≤ 9223372036854775807) (ha2 : At w a2 z2) (hz3 : z3.length = n3) (hn3 : n3 ≤ 9223372036854775807) (ha3 : At w a3 z3) (htab : TabB w) :
    Calls Tryd.prog 5 #[.slice a0 n0 c0, .int .i64 a1, .slice a2 n2 c2, .slice a3 n3 c3] w fun e w' => e = .returned (.bool true) ∧ Below w.heap.size w w' := by
  have HA0 := Hid.mk ha0
  have HZ0 := Hid.mk hz0
  clear ha0 hz0
  have HA2 := Hid.mk ha2
  have HZ2 := Hid.mk hz2
  clear ha2 hz2
  have HA3 := Hid.mk ha3
  have HZ3 := Hid.mk hz3
  clear ha3 hz3
  have HTAB := Hid.mk htab
  clear htab
  have B0 : Below w.heap.size w w := Below.refl _ _
  by_cases big2 : 1048576 < n2
  · have big2' : (1048576 : Int) < (n2 : Int) := by omega
    go_enter Tryd.func5, Tryd.ntmps5
    go_wp2
    go_ret
    exact ⟨rfl, B0⟩
  have hb2' : ¬ (1048576 : Int) < (n2 : Int) := by omega
  have hsn2 : n2 ≤ 1048576 := by omega
  have HVB2 := hsn2
  by_cases big3 : 1048576 < n3
  · have big3' : (1048576 : Int) < (n3 : Int) := by omega
    go_enter Tryd.func5, Tryd.ntmps5
    go_wp2
    go_ret
    exact ⟨rfl, B0⟩
  have hb3' : ¬ (1048576 : Int) < (n3 : Int) := by omega
  have hsn3 : n3 ≤ 1048576 := by omega
  have HVB3 := hsn3
  obtain ⟨C0, hC0⟩ : ∃ C : Nat, n0 + dsum z0 n0 = C := ⟨_, rfl⟩
  have HC0 := Hid.mk hC0
  clear hC0
  by_cases big0 : (1048576 : Int) < (C0 : Int)
  · go_enter Tryd.func5, Tryd.ntmps5
    go_wp2_with fail
    refine (szDependS_any a0 n0 c0 z0 _ _ HZ0.out hn0 (by omega) (by omega) (AtSl.below HA0.out B0)).mono ?_
    rintro e v0 ⟨rfl, hv0⟩
    rw [HC0.out, leftOf_no big0]
    have y0 := B0.trans (hv0.mono B0.size)
    go_wp2
    go_ret
    exact ⟨rfl, y0⟩
  have hl0 : ¬ (1048576 : Int) - (C0 : Int) < 0 := by omega
  have HSM0 : Hid (SmD z0 n0) := ⟨HZ0.out, by have := HC0.out; omega⟩
  have hsn0 : n0 ≤ 1048576 := HSM0.out.n
  have HVB0 := HSM0.out.sum
  obtain ⟨V0, hV0⟩ : ∃ V : Nat, dsum z0 n0 = V := ⟨_, rfl⟩
  rw [hV0] at HVB0
  have HV0 := Hid.mk hV0
  clear hV0
  obtain ⟨ok, ta, tb, hta, htb, HS, HI⟩ : ∃ (ok : Bool) (ta tb : List Int), ta.length ≤ 6 ∧ tb.length ≤ 6 ∧ Hid (∀ (x0 : Nat) (x2 : Nat) (x3 : Nat) (w : World) (F0 F2 F3 : Nat → Prop), RDeps.Own w F0 [.slice (some ⟨x0, 0, none⟩) n0 n0] z0 → RInts.Own w F2 [.slice (some ⟨x2, 0, none⟩) n2 n2] z2 → RInts.Own w F3 [.slice (some ⟨x3, 0, none⟩) n3 n3] z3 → Calls Tryd.prog 19 #[.slice (some ⟨x0, 0, none⟩) n0 n0, .int .i64 a1, .slice (some ⟨x2, 0, none⟩) n2 n2, .slice (some ⟨x3, 0, none⟩) n3 n3] w fun e w' => Ints2Ret e w' w.heap.size ok ta tb ∧ Below w.heap.size w w') ∧ Hid (∀ (x0 : Nat) (x2 : Nat) (x3 : Nat) (w : World) (F0 F2 F3 : Nat → Prop), RDeps.Own w F0 [.slice (some ⟨x0, 0, none⟩) n0 n0] z0 → RInts.Own w F2 [.slice (some ⟨x2, 0, none⟩) n2 n2] z2 → RInts.Own w F3 [.slice (some ⟨x3, 0, none⟩) n3 n3] z3 → TabB w → Calls Tryd.prog 20 #[.slice (some ⟨x0, 0, none⟩) n0 n0, .int .i64 a1, .slice (some ⟨x2, 0, none⟩) n2 n2, .slice (some ⟨x3, 0, none⟩) n3 n3] w fun e w' => Ints2Ret e w' w.heap.size ok ta tb ∧ Below w.heap.size w w') := ⟨splB z0 a1 z2 z3, splL z0 a1 z2 z3, splR z0 a1 z2 z3, splL_len z0 a1 z2 z3, splR_len z0 a1 z2 z3, fun x0 x2 x3 w F0 F2 F3 o0 o2 o3 => specSplitBy (some ⟨x0, 0, none⟩) n0 n0 z0 a1 (some ⟨x2, 0, none⟩) n2 n2 z2 (some ⟨x3, 0, none⟩) n3 n3 z3 w HZ0.out hsn0 (deps_at o0) HZ2.out hsn2 (ints_at o2) HZ3.out hsn3 (ints_at o3) (fun h => by cases h), fun x0 x2 x3 w F0 F2 F3 o0 o2 o3 ht => implSplitBy (some ⟨x0, 0, none⟩) n0 n0 z0 a1 (some ⟨x2, 0, none⟩) n2 n2 z2 (some ⟨x3, 0, none⟩) n3 n3 z3 w HZ0.out hsn0 (deps_at o0) HZ2.out hsn2 (ints_at o2) HZ3.out hsn3 (ints_at o3) ht⟩
  obtain ⟨na, hna⟩ : ∃ na, ta.length = na := ⟨_, rfl⟩
  rw [hna] at hta
  have HNA := Hid.mk hna
  clear hna
  obtain ⟨nb, hnb⟩ : ∃ nb, tb.length = nb := ⟨_, rfl⟩
  rw [hnb] at htb
  have HNB := Hid.mk hnb
  clear hnb
  go_enter Tryd.func5, Tryd.ntmps5
  go_wp2_with fail
  refine (szDependS_any a0 n0 c0 z0 _ _ HZ0.out hn0 (by omega) (by omega) (AtSl.below HA0.out B0)).mono ?_
  rintro e w1 ⟨rfl, hb1⟩
  rw [HC0.out, leftOf_yes (by omega)]
  have B_1 := B0.trans (hb1.mono B0.size)
  have zz1 : w.heap.size ≤ w1.heap.size := hb1.size
  clear hb1
  go_wp2_with fail
  refine (toDependSG a0 n0 c0 z0 _ HSM0.out (AtSl.below HA0.out B_1)).mono ?_
  rintro e w2 ⟨g2, rfl, ho2, hb2⟩
  have ot0_2 := Hid.mk ho2
  clear ho2
  have B_2 := B_1.trans (hb2.mono B_1.size)
  have zz2 : w1.heap.size ≤ w2.heap.size := hb2.size
  clear B_1
  clear hb2
  go_wp2_with fail
  refine (toInts_rep a2 n2 c2 z2 _ HZ2.out hsn2 (At.below HA2.out B_2)).mono ?_
  rintro e w3 ⟨g3, rfl, ho3, hb3⟩
  have ot2_3 := Hid.mk ho3
  clear ho3
  have ot0_3 := Hid.mk (RDeps.ownBelow ot0_2.out hb3)
  have B_3 := B_2.trans (hb3.mono B_2.size)
  have zz3 : w2.heap.size ≤ w3.heap.size := hb3.size
  clear ot0_2 B_2
  clear hb3
  go_wp2_with fail
  refine (toInts_rep a3 n3 c3 z3 _ HZ3.out hsn3 (At.below HA3.out B_3)).mono ?_
  rintro e w4 ⟨g4, rfl, ho4, hb4⟩
  have ot3_4 := Hid.mk ho4
  clear ho4
  have ot0_4 := Hid.mk (RDeps.ownBelow ot0_3.out hb4)
  have ot2_4 := Hid.mk (RInts.ownBelow ot2_3.out hb4)
  have B_4 := B_3.trans (hb4.mono B_3.size)
  have zz4 : w3.heap.size ≤ w4.heap.size := hb4.size
  clear ot0_3 ot2_3 B_3
  clear hb4
  go_wp2_with fail
  refine (HS.out _ _ _ _ _ _ _ ot0_4.out ot2_4.out ot3_4.out).mono ?_
  rintro e w5 ⟨⟨rA5, mA5, dA5, rB5, mB5, dB5, lA5, hA5, lB5, hB5, rfl, hm5, hk5, ho5, hp5, ba5, bb5, bc5, bd5, be5, bf5, bg5⟩, hb5⟩
  clear ot0_4
  clear ot2_4
  clear ot3_4
  obtain rfl : na = mA5 := HNA.out.symm.trans hm5
  obtain rfl : nb = mB5 := HNB.out.symm.trans hk5
  have oo_5 := Hid.mk ho5
  have ou_5 := Hid.mk hp5
  clear ho5 hm5 hp5 hk5
  have B_5 := B_4.trans (hb5.mono B_4.size)
  have zz5 : w4.heap.size ≤ w5.heap.size := hb5.size
  clear B_4
  clear hb5
  go_wp2_with fail
  refine (toDependSG a0 n0 c0 z0 _ HSM0.out (AtSl.below HA0.out B_5)).mono ?_
  rintro e w6 ⟨g6, rfl, ho6, hb6⟩
  have ox0_6 := Hid.mk ho6
  clear ho6
  have oo_6 := Hid.mk (RInts.ownBelow oo_5.out hb6)
  have ou_6 := Hid.mk (RInts.ownBelow ou_5.out hb6)
  have B_6 := B_5.trans (hb6.mono B_5.size)
  have zz6 : w5.heap.size ≤ w6.heap.size := hb6.size
  clear oo_5 ou_5 B_5
  clear hb6
  go_wp2_with fail
  refine (toInts_rep a2 n2 c2 z2 _ HZ2.out hsn2 (At.below HA2.out B_6)).mono ?_
  rintro e w7 ⟨g7, rfl, ho7, hb7⟩
  have ox2_7 := Hid.mk ho7
  clear ho7
  have oo_7 := Hid.mk (RInts.ownBelow oo_6.out hb7)
  have ou_7 := Hid.mk (RInts.ownBelow ou_6.out hb7)
  have ox0_7 := Hid.mk (RDeps.ownBelow ox0_6.out hb7)
  have B_7 := B_6.trans (hb7.mono B_6.size)
  have zz7 : w6.heap.size ≤ w7.heap.size := hb7.size
  clear oo_6 ou_6 ox0_6 B_6
  clear hb7
  go_wp2_with fail
  refine (toInts_rep a3 n3 c3 z3 _ HZ3.out hsn3 (At.below HA3.out B_7)).mono ?_
  rintro e w8 ⟨g8, rfl, ho8, hb8⟩
  have ox3_8 := Hid.mk ho8
  clear ho8
  have oo_8 := Hid.mk (RInts.ownBelow oo_7.out hb8)
  have ou_8 := Hid.mk (RInts.ownBelow ou_7.out hb8)
  have ox0_8 := Hid.mk (RDeps.ownBelow ox0_7.out hb8)
  have ox2_8 := Hid.mk (RInts.ownBelow ox2_7.out hb8)
  have B_8 := B_7.trans (hb8.mono B_7.size)
  have zz8 : w7.heap.size ≤ w8.heap.size := hb8.size
  clear oo_7 ou_7 ox0_7 ox2_7 B_7
  clear hb8
  go_wp2_with fail
  refine (HI.out _ _ _ _ _ _ _ ox0_8.out ox2_8.out ox3_8.out (TabIs.below HTAB.out B_8)).mono ?_
  rintro e w9 ⟨⟨rA9, mA9, dA9, rB9, mB9, dB9, lA9, hA9, lB9, hB9, rfl, hm9, hk9, ho9, hp9, ba9, bb9, bc9, bd9, be9, bf9, bg9⟩, hb9⟩
  obtain rfl : na = mA9 := HNA.out.symm.trans hm9
  obtain rfl : nb = mB9 := HNB.out.symm.trans hk9
  have og_9 := Hid.mk ho9
  have ov_9 := Hid.mk hp9
  clear ho9 hm9 hp9 hk9
  have oo_9 := Hid.mk (RInts.ownBelow oo_8.out hb9)
  have ou_9 := Hid.mk (RInts.ownBelow ou_8.out hb9)
  have ox0_9 := Hid.mk (RDeps.ownBelow ox0_8.out hb9)
  have ox2_9 := Hid.mk (RInts.ownBelow ox2_8.out hb9)
  have ox3_9 := Hid.mk (RInts.ownBelow ox3_8.out hb9)
  have B_9 := B_8.trans (hb9.mono B_8.size)
  have zz9 : w8.heap.size ≤ w9.heap.size := hb9.size
  clear oo_8 ou_8 ox0_8 ox2_8 ox3_8 B_8
  clear hb9
  go_wp2_with fail
  refine (eqIntS_same _ _ na _ _ ta _ HNA.out (by omega) (ints_at og_9.out) (ints_at oo_9.out)).mono ?_
  rintro e w10 ⟨rfl, hb10⟩
  have oo_10 := Hid.mk (RInts.ownBelow oo_9.out hb10)
  have ou_10 := Hid.mk (RInts.ownBelow ou_9.out hb10)
  have ox0_10 := Hid.mk (RDeps.ownBelow ox0_9.out hb10)
  have ox2_10 := Hid.mk (RInts.ownBelow ox2_9.out hb10)
  have ox3_10 := Hid.mk (RInts.ownBelow ox3_9.out hb10)
  have og_10 := Hid.mk (RInts.ownBelow og_9.out hb10)
  have ov_10 := Hid.mk (RInts.ownBelow ov_9.out hb10)
  have B_10 := B_9.trans (hb10.mono B_9.size)
  have zz10 : w9.heap.size ≤ w10.heap.size := hb10.size
  clear oo_9 ou_9 ox0_9 ox2_9 ox3_9 og_9 ov_9 B_9
  clear hb10
  go_wp2_with fail
  refine (eqIntS_same _ _ nb _ _ tb _ HNB.out (by omega) (ints_at ov_10.out) (ints_at ou_10.out)).mono ?_
  rintro e w11 ⟨rfl, hb11⟩
  have oo_11 := Hid.mk (RInts.ownBelow oo_10.out hb11)
  have ou_11 := Hid.mk (RInts.ownBelow ou_10.out hb11)
  have ox0_11 := Hid.mk (RDeps.ownBelow ox0_10.out hb11)
  have ox2_11 := Hid.mk (RInts.ownBelow ox2_10.out hb11)
  have ox3_11 := Hid.mk (RInts.ownBelow ox3_10.out hb11)
  have og_11 := Hid.mk (RInts.ownBelow og_10.out hb11)
  have ov_11 := Hid.mk (RInts.ownBelow ov_10.out hb11)
  have B_11 := B_10.trans (hb11.mono B_10.size)
  have zz11 : w10.heap.size ≤ w11.heap.size := hb11.size
  clear oo_10 ou_10 ox0_10 ox2_10 ox3_10 og_10 ov_10 B_10
  clear hb11
  go_wp2_with fail
  refine (toDependSG a0 n0 c0 z0 _ HSM0.out (AtSl.below HA0.out B_11)).mono ?_
  rintro e w12 ⟨g12, rfl, ho12, hb12⟩
  have oy_12 := Hid.mk ho12
  clear ho12
  have oo_12 := Hid.mk (RInts.ownBelow oo_11.out hb12)
  have ou_12 := Hid.mk (RInts.ownBelow ou_11.out hb12)
  have ox0_12 := Hid.mk (RDeps.ownBelow ox0_11.out hb12)
  have ox2_12 := Hid.mk (RInts.ownBelow ox2_11.out hb12)
  have ox3_12 := Hid.mk (RInts.ownBelow ox3_11.out hb12)
  have og_12 := Hid.mk (RInts.ownBelow og_11.out hb12)
  have ov_12 := Hid.mk (RInts.ownBelow ov_11.out hb12)
  have B_12 := B_11.trans (hb12.mono B_11.size)
  have zz12 : w11.heap.size ≤ w12.heap.size := hb12.size
  clear oo_11 ou_11 ox0_11 ox2_11 ox3_11 og_11 ov_11 B_11
  clear hb12
  go_wp2_with fail
  refine (eqDependSG _ _ n0 _ _ z0 _ HSM0.out (OwnD.atD0 ox0_12.out) (OwnD.atD0 oy_12.out)).mono ?_
  rintro e w13 ⟨rfl, hb13⟩
  clear oy_12
  have oo_13 := Hid.mk (RInts.ownBelow oo_12.out hb13)
  have ou_13 := Hid.mk (RInts.ownBelow ou_12.out hb13)
  have ox0_13 := Hid.mk (RDeps.ownBelow ox0_12.out hb13)
  have ox2_13 := Hid.mk (RInts.ownBelow ox2_12.out hb13)
  have ox3_13 := Hid.mk (RInts.ownBelow ox3_12.out hb13)
  have og_13 := Hid.mk (RInts.ownBelow og_12.out hb13)
  have ov_13 := Hid.mk (RInts.ownBelow ov_12.out hb13)
  have B_13 := B_12.trans (hb13.mono B_12.size)
  have zz13 : w12.heap.size ≤ w13.heap.size := hb13.size
  clear oo_12 ou_12 ox0_12 ox2_12 ox3_12 og_12 ov_12 B_12
  clear hb13
  go_wp2_with fail
  refine (toInts_rep a2 n2 c2 z2 _ HZ2.out hsn2 (At.below HA2.out B_13)).mono ?_
  rintro e w14 ⟨g14, rfl, ho14, hb14⟩
  have oy_14 := Hid.mk ho14
  clear ho14
  have oo_14 := Hid.mk (RInts.ownBelow oo_13.out hb14)
  have ou_14 := Hid.mk (RInts.ownBelow ou_13.out hb14)
  have ox0_14 := Hid.mk (RDeps.ownBelow ox0_13.out hb14)
  have ox2_14 := Hid.mk (RInts.ownBelow ox2_13.out hb14)
  have ox3_14 := Hid.mk (RInts.ownBelow ox3_13.out hb14)
  have og_14 := Hid.mk (RInts.ownBelow og_13.out hb14)
  have ov_14 := Hid.mk (RInts.ownBelow ov_13.out hb14)
  have B_14 := B_13.trans (hb14.mono B_13.size)
  have zz14 : w13.heap.size ≤ w14.heap.size := hb14.size
  clear oo_13 ou_13 ox0_13 ox2_13 ox3_13 og_13 ov_13 B_13
  clear hb14
  go_wp2_with fail
  refine (eqIntS_same _ _ n2 _ _ z2 _ HZ2.out hsn2 (ints_at ox2_14.out) (ints_at oy_14.out)).mono ?_
  rintro e w15 ⟨rfl, hb15⟩
  clear oy_14
  have oo_15 := Hid.mk (RInts.ownBelow oo_14.out hb15)
  have ou_15 := Hid.mk (RInts.ownBelow ou_14.out hb15)
  have ox0_15 := Hid.mk (RDeps.ownBelow ox0_14.out hb15)
  have ox2_15 := Hid.mk (RInts.ownBelow ox2_14.out hb15)
  have ox3_15 := Hid.mk (RInts.ownBelow ox3_14.out hb15)
  have og_15 := Hid.mk (RInts.ownBelow og_14.out hb15)
  have ov_15 := Hid.mk (RInts.ownBelow ov_14.out hb15)
  have B_15 := B_14.trans (hb15.mono B_14.size)
  have zz15 : w14.heap.size ≤ w15.heap.size := hb15.size
  clear oo_14 ou_14 ox0_14 ox2_14 ox3_14 og_14 ov_14 B_14
  clear hb15
  go_wp2_with fail
  refine (toInts_rep a3 n3 c3 z3 _ HZ3.out hsn3 (At.below HA3.out B_15)).mono ?_
  rintro e w16 ⟨g16, rfl, ho16, hb16⟩
  have oy_16 := Hid.mk ho16
  clear ho16
  have oo_16 := Hid.mk (RInts.ownBelow oo_15.out hb16)
  have ou_16 := Hid.mk (RInts.ownBelow ou_15.out hb16)
  have ox0_16 := Hid.mk (RDeps.ownBelow ox0_15.out hb16)
  have ox2_16 := Hid.mk (RInts.ownBelow ox2_15.out hb16)
  have ox3_16 := Hid.mk (RInts.ownBelow ox3_15.out hb16)
  have og_16 := Hid.mk (RInts.ownBelow og_15.out hb16)
  have ov_16 := Hid.mk (RInts.ownBelow ov_15.out hb16)
  have B_16 := B_15.trans (hb16.mono B_15.size)
  have zz16 : w15.heap.size ≤ w16.heap.size := hb16.size
  clear oo_15 ou_15 ox0_15 ox2_15 ox3_15 og_15 ov_15 B_15
  clear hb16
  go_wp2_with fail
  refine (eqIntS_same _ _ n3 _ _ z3 _ HZ3.out hsn3 (ints_at ox3_16.out) (ints_at oy_16.out)).mono ?_
  rintro e w17 ⟨rfl, hb17⟩
  clear oy_16
  have oo_17 := Hid.mk (RInts.ownBelow oo_16.out hb17)
  have ou_17 := Hid.mk (RInts.ownBelow ou_16.out hb17)
  have ox0_17 := Hid.mk (RDeps.ownBelow ox0_16.out hb17)
  have ox2_17 := Hid.mk (RInts.ownBelow ox2_16.out hb17)
  have ox3_17 := Hid.mk (RInts.ownBelow ox3_16.out hb17)
  have og_17 := Hid.mk (RInts.ownBelow og_16.out hb17)
  have ov_17 := Hid.mk (RInts.ownBelow ov_16.out hb17)
  have B_17 := B_16.trans (hb17.mono B_16.size)
  have zz17 : w16.heap.size ≤ w17.heap.size := hb17.size
  clear oo_16 ou_16 ox0_16 ox2_16 ox3_16 og_16 ov_16 B_16
  clear hb17
  go_wp2_with fail
  refine (markDependS_rep (From (w5.heap.size) (w6.heap.size)) _ n0 _ z0 _ _ hsn0 HSM0.out.sum (by omega) (by omega) ox0_17.out).mono ?_
  rintro e w18 ⟨rfl, ho18, hg18⟩
  rw [HV0.out]
  have ox0_18 := Hid.mk ho18
  clear ho18
  have oo_18 := Hid.mk (RInts.ownOff oo_17.out hg18 (fun b h1 h2 => by have h3 := h1.1; have h4 := h1.2; have h5 := h2.1; have h6 := h2.2; omega))
  have ou_18 := Hid.mk (RInts.ownOff ou_17.out hg18 (fun b h1 h2 => by have h3 := h1.1; have h4 := h1.2; have h5 := h2.1; have h6 := h2.2; omega))
  have ox2_18 := Hid.mk (RInts.ownOff ox2_17.out hg18 (fun b h1 h2 => by have h3 := h1.1; have h4 := h1.2; have h5 := h2.1; have h6 := h2.2; omega))
  have ox3_18 := Hid.mk (RInts.ownOff ox3_17.out hg18 (fun b h1 h2 => by have h3 := h1.1; have h4 := h1.2; have h5 := h2.1; have h6 := h2.2; omega))
  have og_18 := Hid.mk (RInts.ownOff og_17.out hg18 (fun b h1 h2 => by have h3 := h1.1; have h4 := h1.2; have h5 := h2.1; have h6 := h2.2; omega))
  have ov_18 := Hid.mk (RInts.ownOff ov_17.out hg18 (fun b h1 h2 => by have h3 := h1.1; have h4 := h1.2; have h5 := h2.1; have h6 := h2.2; omega))
  have B_18 := B_17.trans (hg18.toBelow (by omega) B_17.size)
  have zz18 : w17.heap.size ≤ w18.heap.size := hg18.size
  clear oo_17 ou_17 ox0_17 ox2_17 ox3_17 og_17 ov_17 B_17
  clear hg18
  go_wp2_with fail
  refine (markInts_rep (From (w6.heap.size) (w7.heap.size)) _ n2 _ z2 _ _ hsn2 (by omega) (by omega) ox2_18.out).mono ?_
  rintro e w19 ⟨rfl, ho19, hg19⟩
  have ox2_19 := Hid.mk ho19
  clear ho19
  have oo_19 := Hid.mk (RInts.ownOff oo_18.out hg19 (fun b h1 h2 => by have h3 := h1.1; have h4 := h1.2; have h5 := h2.1; have h6 := h2.2; omega))
  have ou_19 := Hid.mk (RInts.ownOff ou_18.out hg19 (fun b h1 h2 => by have h3 := h1.1; have h4 := h1.2; have h5 := h2.1; have h6 := h2.2; omega))
  have ox0_19 := Hid.mk (RDeps.ownOff ox0_18.out hg19 (fun b h1 h2 => by have h3 := h1.1; have h4 := h1.2; have h5 := h2.1; have h6 := h2.2; omega))
  have ox3_19 := Hid.mk (RInts.ownOff ox3_18.out hg19 (fun b h1 h2 => by have h3 := h1.1; have h4 := h1.2; have h5 := h2.1; have h6 := h2.2; omega))
  have og_19 := Hid.mk (RInts.ownOff og_18.out hg19 (fun b h1 h2 => by have h3 := h1.1; have h4 := h1.2; have h5 := h2.1; have h6 := h2.2; omega))
  have ov_19 := Hid.mk (RInts.ownOff ov_18.out hg19 (fun b h1 h2 => by have h3 := h1.1; have h4 := h1.2; have h5 := h2.1; have h6 := h2.2; omega))
  have B_19 := B_18.trans (hg19.toBelow (by omega) B_18.size)
  have zz19 : w18.heap.size ≤ w19.heap.size := hg19.size
  clear oo_18 ou_18 ox0_18 ox2_18 ox3_18 og_18 ov_18 B_18
  clear hg19
  go_wp2_with fail
  refine (markInts_rep (From (w7.heap.size) (w8.heap.size)) _ n3 _ z3 _ _ hsn3 (by omega) (by omega) ox3_19.out).mono ?_
  rintro e w20 ⟨rfl, ho20, hg20⟩
  have ox3_20 := Hid.mk ho20
  clear ho20
  have oo_20 := Hid.mk (RInts.ownOff oo_19.out hg20 (fun b h1 h2 => by have h3 := h1.1; have h4 := h1.2; have h5 := h2.1; have h6 := h2.2; omega))
  have ou_20 := Hid.mk (RInts.ownOff ou_19.out hg20 (fun b h1 h2 => by have h3 := h1.1; have h4 := h1.2; have h5 := h2.1; have h6 := h2.2; omega))
  have ox0_20 := Hid.mk (RDeps.ownOff ox0_19.out hg20 (fun b h1 h2 => by have h3 := h1.1; have h4 := h1.2; have h5 := h2.1; have h6 := h2.2; omega))
  have ox2_20 := Hid.mk (RInts.ownOff ox2_19.out hg20 (fun b h1 h2 => by have h3 := h1.1; have h4 := h1.2; have h5 := h2.1; have h6 := h2.2; omega))
  have og_20 := Hid.mk (RInts.ownOff og_19.out hg20 (fun b h1 h2 => by have h3 := h1.1; have h4 := h1.2; have h5 := h2.1; have h6 := h2.2; omega))
  have ov_20 := Hid.mk (RInts.ownOff ov_19.out hg20 (fun b h1 h2 => by have h3 := h1.1; have h4 := h1.2; have h5 := h2.1; have h6 := h2.2; omega))
  have B_20 := B_19.trans (hg20.toBelow (by omega) B_19.size)
  have zz20 : w19.heap.size ≤ w20.heap.size := hg20.size
  clear oo_19 ou_19 ox0_19 ox2_19 ox3_19 og_19 ov_19 B_19
  clear hg20
  have kpos : ¬ (1 : Int) + (V0 : Int) + (n2 : Int) + (n3 : Int) < 0 := by omega
  go_wp2_with fail
  refine (eqIntS_same _ _ na _ _ ta _ HNA.out (by omega) (ints_at og_20.out) (ints_at oo_20.out)).mono ?_
  rintro e w21 ⟨rfl, hb21⟩
  have oo_21 := Hid.mk (RInts.ownBelow oo_20.out hb21)
  have ou_21 := Hid.mk (RInts.ownBelow ou_20.out hb21)
  have ox0_21 := Hid.mk (RDeps.ownBelow ox0_20.out hb21)
  have ox2_21 := Hid.mk (RInts.ownBelow ox2_20.out hb21)
  have ox3_21 := Hid.mk (RInts.ownBelow ox3_20.out hb21)
  have og_21 := Hid.mk (RInts.ownBelow og_20.out hb21)
  have ov_21 := Hid.mk (RInts.ownBelow ov_20.out hb21)
  have B_21 := B_20.trans (hb21.mono B_20.size)
  have zz21 : w20.heap.size ≤ w21.heap.size := hb21.size
  clear oo_20 ou_20 ox0_20 ox2_20 ox3_20 og_20 ov_20 B_20
  clear hb21
  go_wp2_with fail
  refine (eqIntS_same _ _ nb _ _ tb _ HNB.out (by omega) (ints_at ov_21.out) (ints_at ou_21.out)).mono ?_
  rintro e w22 ⟨rfl, hb22⟩
  have oo_22 := Hid.mk (RInts.ownBelow oo_21.out hb22)
  have ou_22 := Hid.mk (RInts.ownBelow ou_21.out hb22)
  have ox0_22 := Hid.mk (RDeps.ownBelow ox0_21.out hb22)
  have ox2_22 := Hid.mk (RInts.ownBelow ox2_21.out hb22)
  have ox3_22 := Hid.mk (RInts.ownBelow ox3_21.out hb22)
  have og_22 := Hid.mk (RInts.ownBelow og_21.out hb22)
  have ov_22 := Hid.mk (RInts.ownBelow ov_21.out hb22)
  have B_22 := B_21.trans (hb22.mono B_21.size)
  have zz22 : w21.heap.size ≤ w22.heap.size := hb22.size
  clear oo_21 ou_21 ox0_21 ox2_21 ox3_21 og_21 ov_21 B_21
  clear hb22
  clear ox0_22
  clear ox2_22
  clear ox3_22
  go_wp2_with fail
  refine (markInts_rep (From (lA9) (hA9)) _ na _ ta 1 _ (by omega) (by omega) (by omega) og_22.out).mono ?_
  rintro e w23 ⟨rfl, ho23, hg23⟩
  have og_23 := Hid.mk ho23
  clear ho23
  have oo_23 := Hid.mk (RInts.ownOff oo_22.out hg23 (fun b h1 h2 => by have h3 := h1.1; have h4 := h1.2; have h5 := h2.1; have h6 := h2.2; omega))
  have ou_23 := Hid.mk (RInts.ownOff ou_22.out hg23 (fun b h1 h2 => by have h3 := h1.1; have h4 := h1.2; have h5 := h2.1; have h6 := h2.2; omega))
  have ov_23 := Hid.mk (RInts.ownOff ov_22.out hg23 (fun b h1 h2 => by have h3 := h1.1; have h4 := h1.2; have h5 := h2.1; have h6 := h2.2; omega))
  have B_23 := B_22.trans (hg23.toBelow (by omega) B_22.size)
  have zz23 : w22.heap.size ≤ w23.heap.size := hg23.size
  clear oo_22 ou_22 og_22 ov_22 B_22
  clear hg23
  go_wp2_with fail
  refine (markInts_rep (From (lB9) (hB9)) _ nb _ tb ((1 : Int) + (na : Int)) _ (by omega) (by omega) (by omega) ov_23.out).mono ?_
  rintro e w24 ⟨rfl, ho24, hg24⟩
  have ov_24 := Hid.mk ho24
  clear ho24
  have oo_24 := Hid.mk (RInts.ownOff oo_23.out hg24 (fun b h1 h2 => by have h3 := h1.1; have h4 := h1.2; have h5 := h2.1; have h6 := h2.2; omega))
  have ou_24 := Hid.mk (RInts.ownOff ou_23.out hg24 (fun b h1 h2 => by have h3 := h1.1; have h4 := h1.2; have h5 := h2.1; have h6 := h2.2; omega))
  have og_24 := Hid.mk (RInts.ownOff og_23.out hg24 (fun b h1 h2 => by have h3 := h1.1; have h4 := h1.2; have h5 := h2.1; have h6 := h2.2; omega))
  have B_24 := B_23.trans (hg24.toBelow (by omega) B_23.size)
  have zz24 : w23.heap.size ≤ w24.heap.size := hg24.size
  clear oo_23 ou_23 og_23 ov_23 B_23
  clear hg24
  have gpos : ¬ (1 : Int) + (na : Int) < 0 := by omega
  have gpos2 : ¬ (1 : Int) + (na : Int) + (nb : Int) < 0 := by omega
  go_wp2_with fail
  refine (heldInts_rep _ na _ ta 1 _ HNA.out (by omega) (by omega) (by omega) (ints_at og_24.out)).mono ?_
  rintro e w25 ⟨rfl, hb25⟩
  have oo_25 := Hid.mk (RInts.ownBelow oo_24.out hb25)
  have ou_25 := Hid.mk (RInts.ownBelow ou_24.out hb25)
  have og_25 := Hid.mk (RInts.ownBelow og_24.out hb25)
  have ov_25 := Hid.mk (RInts.ownBelow ov_24.out hb25)
  have B_25 := B_24.trans (hb25.mono B_24.size)
  have zz25 : w24.heap.size ≤ w25.heap.size := hb25.size
  clear oo_24 ou_24 og_24 ov_24 B_24
  clear hb25
  go_wp2_with fail
  refine (heldInts_rep _ nb _ tb ((1 : Int) + (na : Int)) _ HNB.out (by omega) (by omega) (by omega) (ints_at ov_25.out)).mono ?_
  rintro e w26 ⟨rfl, hb26⟩
  have oo_26 := Hid.mk (RInts.ownBelow oo_25.out hb26)
  have ou_26 := Hid.mk (RInts.ownBelow ou_25.out hb26)
  have og_26 := Hid.mk (RInts.ownBelow og_25.out hb26)
  have ov_26 := Hid.mk (RInts.ownBelow ov_25.out hb26)
  have B_26 := B_25.trans (hb26.mono B_25.size)
  have zz26 : w25.heap.size ≤ w26.heap.size := hb26.size
  clear oo_25 ou_25 og_25 ov_25 B_25
  clear hb26
  go_wp2_with fail
  refine (toDependSG a0 n0 c0 z0 _ HSM0.out (AtSl.below HA0.out B_26)).mono ?_
  rintro e w27 ⟨g27, rfl, ho27, hb27⟩
  have oh0_27 := Hid.mk ho27
  clear ho27
  have oo_27 := Hid.mk (RInts.ownBelow oo_26.out hb27)
  have ou_27 := Hid.mk (RInts.ownBelow ou_26.out hb27)
  have og_27 := Hid.mk (RInts.ownBelow og_26.out hb27)
  have ov_27 := Hid.mk (RInts.ownBelow ov_26.out hb27)
  have B_27 := B_26.trans (hb27.mono B_26.size)
  have zz27 : w26.heap.size ≤ w27.heap.size := hb27.size
  clear oo_26 ou_26 og_26 ov_26 B_26
  clear hb27
  go_wp2_with fail
  refine (toInts_rep a2 n2 c2 z2 _ HZ2.out hsn2 (At.below HA2.out B_27)).mono ?_
  rintro e w28 ⟨g28, rfl, ho28, hb28⟩
  have oh2_28 := Hid.mk ho28
  clear ho28
  have oo_28 := Hid.mk (RInts.ownBelow oo_27.out hb28)
  have ou_28 := Hid.mk (RInts.ownBelow ou_27.out hb28)
  have og_28 := Hid.mk (RInts.ownBelow og_27.out hb28)
  have ov_28 := Hid.mk (RInts.ownBelow ov_27.out hb28)
  have oh0_28 := Hid.mk (RDeps.ownBelow oh0_27.out hb28)
  have B_28 := B_27.trans (hb28.mono B_27.size)
  have zz28 : w27.heap.size ≤ w28.heap.size := hb28.size
  clear oo_27 ou_27 og_27 ov_27 oh0_27 B_27
  clear hb28
  go_wp2_with fail
  refine (toInts_rep a3 n3 c3 z3 _ HZ3.out hsn3 (At.below HA3.out B_28)).mono ?_
  rintro e w29 ⟨g29, rfl, ho29, hb29⟩
  have oh3_29 := Hid.mk ho29
  clear ho29
  have oo_29 := Hid.mk (RInts.ownBelow oo_28.out hb29)
  have ou_29 := Hid.mk (RInts.ownBelow ou_28.out hb29)
  have og_29 := Hid.mk (RInts.ownBelow og_28.out hb29)
  have ov_29 := Hid.mk (RInts.ownBelow ov_28.out hb29)
  have oh0_29 := Hid.mk (RDeps.ownBelow oh0_28.out hb29)
  have oh2_29 := Hid.mk (RInts.ownBelow oh2_28.out hb29)
  have B_29 := B_28.trans (hb29.mono B_28.size)
  have zz29 : w28.heap.size ≤ w29.heap.size := hb29.size
  clear oo_28 ou_28 og_28 ov_28 oh0_28 oh2_28 B_28
  clear hb29
  go_wp2_with fail
  refine (HI.out _ _ _ _ _ _ _ oh0_29.out oh2_29.out oh3_29.out (TabIs.below HTAB.out B_29)).mono ?_
  rintro e w30 ⟨⟨rA30, mA30, dA30, rB30, mB30, dB30, lA30, hA30, lB30, hB30, rfl, hm30, hk30, ho30, hp30, ba30, bb30, bc30, bd30, be30, bf30, bg30⟩, hb30⟩
  clear oh0_29
  clear oh2_29
  clear oh3_29
  obtain rfl : na = mA30 := HNA.out.symm.trans hm30
  obtain rfl : nb = mB30 := HNB.out.symm.trans hk30
  have ohg_30 := Hid.mk ho30
  have ohv_30 := Hid.mk hp30
  clear ho30 hm30 hp30 hk30
  have oo_30 := Hid.mk (RInts.ownBelow oo_29.out hb30)
  have ou_30 := Hid.mk (RInts.ownBelow ou_29.out hb30)
  have og_30 := Hid.mk (RInts.ownBelow og_29.out hb30)
  have ov_30 := Hid.mk (RInts.ownBelow ov_29.out hb30)
  have B_30 := B_29.trans (hb30.mono B_29.size)
  have zz30 : w29.heap.size ≤ w30.heap.size := hb30.size
  clear oo_29 ou_29 og_29 ov_29 B_29
  clear hb30
  go_wp2_with fail
  refine (eqIntS_same _ _ na _ _ ta _ HNA.out (by omega) (ints_at ohg_30.out) (ints_at oo_30.out)).mono ?_
  rintro e w31 ⟨rfl, hb31⟩
  have oo_31 := Hid.mk (RInts.ownBelow oo_30.out hb31)
  have ou_31 := Hid.mk (RInts.ownBelow ou_30.out hb31)
  have og_31 := Hid.mk (RInts.ownBelow og_30.out hb31)
  have ov_31 := Hid.mk (RInts.ownBelow ov_30.out hb31)
  have ohg_31 := Hid.mk (RInts.ownBelow ohg_30.out hb31)
  have ohv_31 := Hid.mk (RInts.ownBelow ohv_30.out hb31)
  have B_31 := B_30.trans (hb31.mono B_30.size)
  have zz31 : w30.heap.size ≤ w31.heap.size := hb31.size
  clear oo_30 ou_30 og_30 ov_30 ohg_30 ohv_30 B_30
  clear hb31
  go_wp2_with fail
  refine (eqIntS_same _ _ nb _ _ tb _ HNB.out (by omega) (ints_at ohv_31.out) (ints_at ou_31.out)).mono ?_
  rintro e w32 ⟨rfl, hb32⟩
  have oo_32 := Hid.mk (RInts.ownBelow oo_31.out hb32)
  have ou_32 := Hid.mk (RInts.ownBelow ou_31.out hb32)
  have og_32 := Hid.mk (RInts.ownBelow og_31.out hb32)
  have ov_32 := Hid.mk (RInts.ownBelow ov_31.out hb32)
  have ohg_32 := Hid.mk (RInts.ownBelow ohg_31.out hb32)
  have ohv_32 := Hid.mk (RInts.ownBelow ohv_31.out hb32)
  have B_32 := B_31.trans (hb32.mono B_31.size)
  have zz32 : w31.heap.size ≤ w32.heap.size := hb32.size
  clear oo_31 ou_31 og_31 ov_31 ohg_31 ohv_31 B_31
  clear hb32
  go_wp2_with fail
  refine (heldInts_rep _ na _ ta 1 _ HNA.out (by omega) (by omega) (by omega) (ints_at og_32.out)).mono ?_
  rintro e w33 ⟨rfl, hb33⟩
  have oo_33 := Hid.mk (RInts.ownBelow oo_32.out hb33)
  have ou_33 := Hid.mk (RInts.ownBelow ou_32.out hb33)
  have og_33 := Hid.mk (RInts.ownBelow og_32.out hb33)
  have ov_33 := Hid.mk (RInts.ownBelow ov_32.out hb33)
  have ohg_33 := Hid.mk (RInts.ownBelow ohg_32.out hb33)
  have ohv_33 := Hid.mk (RInts.ownBelow ohv_32.out hb33)
  have B_33 := B_32.trans (hb33.mono B_32.size)
  have zz33 : w32.heap.size ≤ w33.heap.size := hb33.size
  clear oo_32 ou_32 og_32 ov_32 ohg_32 ohv_32 B_32
  clear hb33
  go_wp2_with fail
  refine (heldInts_rep _ nb _ tb ((1 : Int) + (na : Int)) _ HNB.out (by omega) (by omega) (by omega) (ints_at ov_33.out)).mono ?_
  rintro e w34 ⟨rfl, hb34⟩
  have oo_34 := Hid.mk (RInts.ownBelow oo_33.out hb34)
  have ou_34 := Hid.mk (RInts.ownBelow ou_33.out hb34)
  have og_34 := Hid.mk (RInts.ownBelow og_33.out hb34)
  have ov_34 := Hid.mk (RInts.ownBelow ov_33.out hb34)
  have ohg_34 := Hid.mk (RInts.ownBelow ohg_33.out hb34)
  have ohv_34 := Hid.mk (RInts.ownBelow ohv_33.out hb34)
  have B_34 := B_33.trans (hb34.mono B_33.size)
  have zz34 : w33.heap.size ≤ w34.heap.size := hb34.size
  clear oo_33 ou_33 og_33 ov_33 ohg_33 ohv_33 B_33
  clear hb34
  go_wp2
  go_ret
  exact ⟨rfl, B_34⟩

end Go.Proofs.YtpnaoahlfhbbmaaDoor
