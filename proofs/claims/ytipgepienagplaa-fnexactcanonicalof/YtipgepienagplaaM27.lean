/- The law FnExactCanonicalOf returns true at every input, and writes nothing that was there. -/
import Derived.Test.YtipgepienagplaaM26
import Derived.Test.YtipgepienagplaaM5
namespace Go.Proofs.Ytipgepienagplaa
open Go.RowKit

set_option maxRecDepth 100000 in
set_option maxHeartbeats 16000000 in
theorem lawCanonicalOf (fa0 : Option Addr) (fn0 fc0 : Nat) (ta0 : Option Addr) (tn0 tc0 : Nat) (z0 : Qry) (a1 : Option Addr) (n1 c1 : Nat) (z1 : List Int) (w : World) (ha0 : RQry.At w [.slice fa0 fn0 fc0, .slice ta0 tn0 tc0] z0) (hz1 : z1.length = n1) (hn1 : n1 ≤ 9223372036854775807) (ha1 : At w a1 z1) :
    Calls Try.prog 3 #[.agg #[.slice fa0 fn0 fc0, .slice ta0 tn0 tc0], .slice a1 n1 c1] w fun e w' => e = .returned (.bool true) ∧ Below w.heap.size w w' := by
  obtain ⟨zf0, zt0⟩ := z0
  obtain ⟨⟨h10, h20, h30, _⟩, ⟨k10, k20, k30, _⟩⟩ := RQry.at_iff ha0
  have HA0 := Hid.mk (And.intro h30 k30)
  have HZ0 : Hid (zf0.length = fn0 ∧ zt0.length = tn0) := ⟨h10, k10⟩
  clear ha0 h10 h30 k10 k30
  have HA1 := Hid.mk ha1
  have HZ1 := Hid.mk hz1
  clear ha1 hz1
  obtain ⟨W, hW⟩ : ∃ W, W = w.alloc (.cells #[.slice fa0 fn0 fc0, .slice ta0 tn0 tc0] 25) := ⟨_, rfl⟩
  have B0 : Below w.heap.size w W := by rw [hW]; exact (Below.refl _ _).alloc (Nat.le_refl _) _
  have zW : w.heap.size < W.heap.size := by rw [hW]; simp
  have p00_0 : W.cell? ⟨w.heap.size, 0, none⟩ = some (.slice fa0 fn0 fc0) := by rw [hW]; simp
  have p01_0 : W.cell? ⟨w.heap.size, 1, none⟩ = some (.slice ta0 tn0 tc0) := by rw [hW]; simp
  by_cases big1 : 1048576 < n1
  · have big1' : (1048576 : Int) < (n1 : Int) := by omega
    go_enter Try.func3, Try.ntmps3
    go_wp2
    go_ret
    exact ⟨rfl, by rw [← hW]; exact B0⟩
  have hb1' : ¬ (1048576 : Int) < (n1 : Int) := by omega
  have hsn1 : n1 ≤ 1048576 := by omega
  have HVB1 := hsn1
  obtain ⟨C0, hC0⟩ : ∃ C : Nat, qcost (zf0, zt0) = C := ⟨_, rfl⟩
  have HC0 := Hid.mk hC0
  clear hC0
  by_cases big0 : (1048576 : Int) < (C0 : Int)
  · go_enter Try.func3, Try.ntmps3
    go_wp2_with fail
    rw [← hW]
    clear hW
    refine (szQuery_any fa0 fn0 fc0 ta0 tn0 tc0 zf0 zt0 _ _ HZ0.out.1 h20 HZ0.out.2 k20 (by omega) (by omega) (AtSl.below HA0.out.2 B0)).mono ?_
    rintro e v0 ⟨rfl, hv0⟩
    rw [HC0.out, leftOf_no big0]
    have y0 := B0.trans (hv0.mono B0.size)
    go_wp2
    go_ret
    exact ⟨rfl, y0⟩
  have hl0 : ¬ (1048576 : Int) - (C0 : Int) < 0 := by omega
  have HSM0 : Hid (fn0 ≤ 1048576 ∧ SmA zt0 tn0 ∧ qmk (zf0, zt0) ≤ 1048576) := qry_small HZ0.out.1 HZ0.out.2 (by have := HC0.out; omega)
  have hs10 := HSM0.out.1
  have hs20 : tn0 ≤ 1048576 := HSM0.out.2.1.n
  have HVB0 := HSM0.out.2.2
  obtain ⟨V0, hV0⟩ : ∃ V : Nat, qmk (zf0, zt0) = V := ⟨_, rfl⟩
  rw [hV0] at HVB0
  have HV0 := Hid.mk hV0
  clear hV0
  obtain ⟨ok, ta, hh, hsA, hhA, HS, HI⟩ : ∃ (ok : Bool) (ta : List Tab) (hh : List Int), SmU ta ta.length ∧ hh.length ≤ 6 ∧ Hid (∀ (x0 y0 : Nat) (x1 : Nat) (w : World) (F0 F1 : Nat → Prop), RQry.Own w F0 [.slice (some ⟨x0, 0, none⟩) fn0 fn0, .slice (some ⟨y0, 0, none⟩) tn0 tn0] (zf0, zt0) → RInts.Own w F1 [.slice (some ⟨x1, 0, none⟩) n1 n1] z1 → Calls Try.prog 10 #[.agg #[.slice (some ⟨x0, 0, none⟩) fn0 fn0, .slice (some ⟨y0, 0, none⟩) tn0 tn0], .slice (some ⟨x1, 0, none⟩) n1 n1] w fun e w' => CanRet e w' w.heap.size ok ta hh ∧ Below w.heap.size w w') ∧ Hid (∀ (x0 y0 : Nat) (x1 : Nat) (w : World) (F0 F1 : Nat → Prop), RQry.Own w F0 [.slice (some ⟨x0, 0, none⟩) fn0 fn0, .slice (some ⟨y0, 0, none⟩) tn0 tn0] (zf0, zt0) → RInts.Own w F1 [.slice (some ⟨x1, 0, none⟩) n1 n1] z1 → Calls Try.prog 13 #[.agg #[.slice (some ⟨x0, 0, none⟩) fn0 fn0, .slice (some ⟨y0, 0, none⟩) tn0 tn0], .slice (some ⟨x1, 0, none⟩) n1 n1] w fun e w' => CanRet e w' w.heap.size ok ta hh ∧ Below w.heap.size w w') := ⟨gqB zf0 zt0 z1, cnL zf0 zt0 z1, cnH zf0 zt0 z1, cn_small zf0 zt0 z1, cnH_len zf0 zt0 z1, fun x0 y0 x1 w F0 F1 o0 o1 => specCanonicalOf (some ⟨x0, 0, none⟩) fn0 fn0 zf0 (some ⟨y0, 0, none⟩) tn0 tn0 zt0 (some ⟨x1, 0, none⟩) n1 n1 z1 w HZ0.out.1 h20 (qry_at o0).1 (fun h => by cases h) HZ0.out.2 k20 (qry_at o0).2 HZ1.out hn1 (ints_at o1), fun x0 y0 x1 w F0 F1 o0 o1 => implCanonicalOf (some ⟨x0, 0, none⟩) fn0 fn0 zf0 (some ⟨y0, 0, none⟩) tn0 tn0 zt0 (some ⟨x1, 0, none⟩) n1 n1 z1 w HZ0.out.1 h20 (qry_at o0).1 (fun h => by cases h) HZ0.out.2 k20 (qry_at o0).2 HZ1.out hn1 (ints_at o1)⟩
  obtain ⟨na, hna⟩ : ∃ na, ta.length = na := ⟨_, rfl⟩
  rw [hna] at hsA
  obtain ⟨nh, hnh⟩ : ∃ nh, hh.length = nh := ⟨_, rfl⟩
  rw [hnh] at hhA
  have hvA := hsA.2
  have HSA := Hid.mk hsA
  obtain ⟨VA, hVA⟩ : ∃ V : Nat, stot ta na = V := ⟨_, rfl⟩
  rw [hVA] at hvA
  have HVA := Hid.mk hVA
  have HNA := Hid.mk hna
  have HNH := Hid.mk hnh
  clear hna hVA hsA hnh
  go_enter Try.func3, Try.ntmps3
  go_wp2_with fail
  rw [← hW]
  clear hW
  refine (szQuery_any fa0 fn0 fc0 ta0 tn0 tc0 zf0 zt0 _ _ HZ0.out.1 h20 HZ0.out.2 k20 (by omega) (by omega) (AtSl.below HA0.out.2 B0)).mono ?_
  rintro e w1 ⟨rfl, hb1⟩
  rw [HC0.out, leftOf_yes (by omega)]
  have p00_1 := cell_later hb1 p00_0
  have p01_1 := cell_later hb1 p01_0
  have B_1 := B0.trans (hb1.mono B0.size)
  have zz1 : W.heap.size ≤ w1.heap.size := hb1.size
  clear p00_0 p01_0
  clear hb1
  go_wp2_with fail
  refine (toQuery_any fa0 fn0 fc0 ta0 tn0 tc0 zf0 zt0 _ HZ0.out.1 HZ0.out.2 hs10 hs20 (fun _ _ h => HSM0.out.2.1.each h) (At.below HA0.out.1 B_1) (AtSl.below HA0.out.2 B_1)).mono ?_
  rintro e w2 ⟨g2_1, g2_2, rfl, ho2, hb2⟩
  have ot0_2 := Hid.mk ho2
  clear ho2
  have p00_2 := cell_later hb2 p00_1
  have p01_2 := cell_later hb2 p01_1
  have B_2 := B_1.trans (hb2.mono B_1.size)
  have zz2 : w1.heap.size ≤ w2.heap.size := hb2.size
  clear p00_1 p01_1 B_1
  clear hb2
  go_wp2_with fail
  refine (toInts_rep a1 n1 c1 z1 _ HZ1.out hsn1 (At.below HA1.out B_2)).mono ?_
  rintro e w3 ⟨g3, rfl, ho3, hb3⟩
  have ot1_3 := Hid.mk ho3
  clear ho3
  have p00_3 := cell_later hb3 p00_2
  have p01_3 := cell_later hb3 p01_2
  have ot0_3 := Hid.mk (RQry.ownBelow ot0_2.out hb3)
  have B_3 := B_2.trans (hb3.mono B_2.size)
  have zz3 : w2.heap.size ≤ w3.heap.size := hb3.size
  clear p00_2 p01_2 ot0_2 B_2
  clear hb3
  go_wp2_with fail
  refine (HS.out _ _ _ _ _ _ ot0_3.out ot1_3.out).mono ?_
  rintro e w4 ⟨⟨r4, m4, d4, ra4, rm4, rd4, mid4, rfl, hlm4, hmh4, ho4, hrm4, hor4⟩, hb4⟩
  clear ot0_3
  clear ot1_3
  obtain rfl : na = m4 := HNA.out.symm.trans (OwnU.len ho4)
  obtain rfl : nh = rm4 := HNH.out.symm.trans hrm4
  have oo_4 := Hid.mk ho4
  have oor_4 := Hid.mk (RInts.of_owns HNH.out (by omega) hor4)
  clear ho4 hor4 hrm4
  have p00_4 := cell_later hb4 p00_3
  have p01_4 := cell_later hb4 p01_3
  have B_4 := B_3.trans (hb4.mono B_3.size)
  have zz4 : w3.heap.size ≤ w4.heap.size := hb4.size
  clear p00_3 p01_3 B_3
  clear hb4
  obtain ⟨w5, hU5⟩ : ∃ u, u = w4.alloc (.cells #[.slice ra4 nh rd4] 29) := ⟨_, rfl⟩
  have hb5 : Below w4.heap.size w4 w5 := by rw [hU5]; exact (Below.refl _ _).alloc (Nat.le_refl _) _
  have zl5 : w4.heap.size < w5.heap.size := by rw [hU5]; simp
  have nWt0 : w5.cell? ⟨w4.heap.size, 0, none⟩ = some (.slice ra4 nh rd4) := by rw [hU5]; simp
  have p00_5 := cell_later hb5 p00_4
  have p01_5 := cell_later hb5 p01_4
  have oo_5 := Hid.mk (OwnU.below oo_4.out hb5)
  have oor_5 := Hid.mk (RInts.ownBelow oor_4.out hb5)
  have B_5 := B_4.trans (hb5.mono B_4.size)
  have zz5 : w4.heap.size ≤ w5.heap.size := hb5.size
  clear p00_4 p01_4 oo_4 oor_4 B_4
  clear hb5
  have xp00 := p00_5
  rw [hU5] at xp00
  have xp01 := p01_5
  rw [hU5] at xp01
  have xWt0 := nWt0
  rw [hU5] at xWt0
  go_wp2_with fail
  rw [← hU5]
  clear hU5
  clear xp00 xp01 xWt0
  refine (toQuery_any fa0 fn0 fc0 ta0 tn0 tc0 zf0 zt0 _ HZ0.out.1 HZ0.out.2 hs10 hs20 (fun _ _ h => HSM0.out.2.1.each h) (At.below HA0.out.1 B_5) (AtSl.below HA0.out.2 B_5)).mono ?_
  rintro e w6 ⟨g6_1, g6_2, rfl, ho6, hb6⟩
  have ox0_6 := Hid.mk ho6
  clear ho6
  have p00_6 := cell_later hb6 p00_5
  have p01_6 := cell_later hb6 p01_5
  have Wt0_6 := cell_later hb6 nWt0
  have oo_6 := Hid.mk (OwnU.below oo_5.out hb6)
  have oor_6 := Hid.mk (RInts.ownBelow oor_5.out hb6)
  have B_6 := B_5.trans (hb6.mono B_5.size)
  have zz6 : w5.heap.size ≤ w6.heap.size := hb6.size
  clear p00_5 p01_5 nWt0 oo_5 oor_5 B_5
  clear hb6
  obtain ⟨w7, hU7⟩ : ∃ u, u = w6.alloc (.cells #[.slice (some ⟨g6_1, 0, none⟩) fn0 fn0, .slice (some ⟨g6_2, 0, none⟩) tn0 tn0] 34) := ⟨_, rfl⟩
  have hb7 : Below w6.heap.size w6 w7 := by rw [hU7]; exact (Below.refl _ _).alloc (Nat.le_refl _) _
  have zl7 : w6.heap.size < w7.heap.size := by rw [hU7]; simp
  have nX00 : w7.cell? ⟨w6.heap.size, 0, none⟩ = some (.slice (some ⟨g6_1, 0, none⟩) fn0 fn0) := by rw [hU7]; simp
  have nX01 : w7.cell? ⟨w6.heap.size, 1, none⟩ = some (.slice (some ⟨g6_2, 0, none⟩) tn0 tn0) := by rw [hU7]; simp
  have p00_7 := cell_later hb7 p00_6
  have p01_7 := cell_later hb7 p01_6
  have Wt0_7 := cell_later hb7 Wt0_6
  have oo_7 := Hid.mk (OwnU.below oo_6.out hb7)
  have oor_7 := Hid.mk (RInts.ownBelow oor_6.out hb7)
  have ox0_7 := Hid.mk (RQry.ownBelow ox0_6.out hb7)
  have B_7 := B_6.trans (hb7.mono B_6.size)
  have zz7 : w6.heap.size ≤ w7.heap.size := hb7.size
  clear p00_6 p01_6 Wt0_6 oo_6 oor_6 ox0_6 B_6
  clear hb7
  have xp00 := p00_7
  rw [hU7] at xp00
  have xp01 := p01_7
  rw [hU7] at xp01
  have xWt0 := Wt0_7
  rw [hU7] at xWt0
  have xX00 := nX00
  rw [hU7] at xX00
  have xX01 := nX01
  rw [hU7] at xX01
  go_wp2_with fail
  rw [← hU7]
  clear hU7
  clear xp00 xp01 xWt0 xX00 xX01
  refine (toInts_rep a1 n1 c1 z1 _ HZ1.out hsn1 (At.below HA1.out B_7)).mono ?_
  rintro e w8 ⟨g8, rfl, ho8, hb8⟩
  have ox1_8 := Hid.mk ho8
  clear ho8
  have p00_8 := cell_later hb8 p00_7
  have p01_8 := cell_later hb8 p01_7
  have Wt0_8 := cell_later hb8 Wt0_7
  have X00_8 := cell_later hb8 nX00
  have X01_8 := cell_later hb8 nX01
  have oo_8 := Hid.mk (OwnU.below oo_7.out hb8)
  have oor_8 := Hid.mk (RInts.ownBelow oor_7.out hb8)
  have ox0_8 := Hid.mk (RQry.ownBelow ox0_7.out hb8)
  have B_8 := B_7.trans (hb8.mono B_7.size)
  have zz8 : w7.heap.size ≤ w8.heap.size := hb8.size
  clear p00_7 p01_7 Wt0_7 nX00 nX01 oo_7 oor_7 ox0_7 B_7
  clear hb8
  go_wp2_with fail
  refine (HI.out _ _ _ _ _ _ ox0_8.out ox1_8.out).mono ?_
  rintro e w9 ⟨⟨r9, m9, d9, ra9, rm9, rd9, mid9, rfl, hlm9, hmh9, ho9, hrm9, hor9⟩, hb9⟩
  obtain rfl : na = m9 := HNA.out.symm.trans (OwnU.len ho9)
  obtain rfl : nh = rm9 := HNH.out.symm.trans hrm9
  have og_9 := Hid.mk ho9
  have ogr_9 := Hid.mk (RInts.of_owns HNH.out (by omega) hor9)
  clear ho9 hor9 hrm9
  have p00_9 := cell_later hb9 p00_8
  have p01_9 := cell_later hb9 p01_8
  have Wt0_9 := cell_later hb9 Wt0_8
  have X00_9 := cell_later hb9 X00_8
  have X01_9 := cell_later hb9 X01_8
  have oo_9 := Hid.mk (OwnU.below oo_8.out hb9)
  have oor_9 := Hid.mk (RInts.ownBelow oor_8.out hb9)
  have ox0_9 := Hid.mk (RQry.ownBelow ox0_8.out hb9)
  have ox1_9 := Hid.mk (RInts.ownBelow ox1_8.out hb9)
  have B_9 := B_8.trans (hb9.mono B_8.size)
  have zz9 : w8.heap.size ≤ w9.heap.size := hb9.size
  clear p00_8 p01_8 Wt0_8 X00_8 X01_8 oo_8 oor_8 ox0_8 ox1_8 B_8
  clear hb9
  obtain ⟨w10, hU10⟩ : ∃ u, u = w9.alloc (.cells #[.slice ra9 nh rd9] 29) := ⟨_, rfl⟩
  have hb10 : Below w9.heap.size w9 w10 := by rw [hU10]; exact (Below.refl _ _).alloc (Nat.le_refl _) _
  have zl10 : w9.heap.size < w10.heap.size := by rw [hU10]; simp
  have nGt0 : w10.cell? ⟨w9.heap.size, 0, none⟩ = some (.slice ra9 nh rd9) := by rw [hU10]; simp
  have p00_10 := cell_later hb10 p00_9
  have p01_10 := cell_later hb10 p01_9
  have Wt0_10 := cell_later hb10 Wt0_9
  have X00_10 := cell_later hb10 X00_9
  have X01_10 := cell_later hb10 X01_9
  have oo_10 := Hid.mk (OwnU.below oo_9.out hb10)
  have oor_10 := Hid.mk (RInts.ownBelow oor_9.out hb10)
  have ox0_10 := Hid.mk (RQry.ownBelow ox0_9.out hb10)
  have ox1_10 := Hid.mk (RInts.ownBelow ox1_9.out hb10)
  have og_10 := Hid.mk (OwnU.below og_9.out hb10)
  have ogr_10 := Hid.mk (RInts.ownBelow ogr_9.out hb10)
  have B_10 := B_9.trans (hb10.mono B_9.size)
  have zz10 : w9.heap.size ≤ w10.heap.size := hb10.size
  clear p00_9 p01_9 Wt0_9 X00_9 X01_9 oo_9 oor_9 ox0_9 ox1_9 og_9 ogr_9 B_9
  clear hb10
  have xp00 := p00_10
  rw [hU10] at xp00
  have xp01 := p01_10
  rw [hU10] at xp01
  have xWt0 := Wt0_10
  rw [hU10] at xWt0
  have xX00 := X00_10
  rw [hU10] at xX00
  have xX01 := X01_10
  rw [hU10] at xX01
  have xGt0 := nGt0
  rw [hU10] at xGt0
  go_wp2_with fail
  rw [← hU10]
  clear hU10
  clear xp00 xp01 xWt0 xX00 xX01 xGt0
  refine (eqTableS_any _ _ na _ _ ta _ HSA.out (og_10.out.atSW HSA.out) (oo_10.out.atSW HSA.out)).mono ?_
  rintro e w11 ⟨rfl, hb11⟩
  have p00_11 := cell_later hb11 p00_10
  have p01_11 := cell_later hb11 p01_10
  have Wt0_11 := cell_later hb11 Wt0_10
  have X00_11 := cell_later hb11 X00_10
  have X01_11 := cell_later hb11 X01_10
  have Gt0_11 := cell_later hb11 nGt0
  have oo_11 := Hid.mk (OwnU.below oo_10.out hb11)
  have oor_11 := Hid.mk (RInts.ownBelow oor_10.out hb11)
  have ox0_11 := Hid.mk (RQry.ownBelow ox0_10.out hb11)
  have ox1_11 := Hid.mk (RInts.ownBelow ox1_10.out hb11)
  have og_11 := Hid.mk (OwnU.below og_10.out hb11)
  have ogr_11 := Hid.mk (RInts.ownBelow ogr_10.out hb11)
  have B_11 := B_10.trans (hb11.mono B_10.size)
  have zz11 : w10.heap.size ≤ w11.heap.size := hb11.size
  clear p00_10 p01_10 Wt0_10 X00_10 X01_10 nGt0 oo_10 oor_10 ox0_10 ox1_10 og_10 ogr_10 B_10
  clear hb11
  go_wp2_with fail
  refine (eqRow_same _ _ nh _ _ hh _ HNH.out (by omega) (ints_at ogr_11.out) (ints_at oor_11.out)).mono ?_
  rintro e w12 ⟨rfl, hb12⟩
  have p00_12 := cell_later hb12 p00_11
  have p01_12 := cell_later hb12 p01_11
  have Wt0_12 := cell_later hb12 Wt0_11
  have X00_12 := cell_later hb12 X00_11
  have X01_12 := cell_later hb12 X01_11
  have Gt0_12 := cell_later hb12 Gt0_11
  have oo_12 := Hid.mk (OwnU.below oo_11.out hb12)
  have oor_12 := Hid.mk (RInts.ownBelow oor_11.out hb12)
  have ox0_12 := Hid.mk (RQry.ownBelow ox0_11.out hb12)
  have ox1_12 := Hid.mk (RInts.ownBelow ox1_11.out hb12)
  have og_12 := Hid.mk (OwnU.below og_11.out hb12)
  have ogr_12 := Hid.mk (RInts.ownBelow ogr_11.out hb12)
  have B_12 := B_11.trans (hb12.mono B_11.size)
  have zz12 : w11.heap.size ≤ w12.heap.size := hb12.size
  clear p00_11 p01_11 Wt0_11 X00_11 X01_11 Gt0_11 oo_11 oor_11 ox0_11 ox1_11 og_11 ogr_11 B_11
  clear hb12
  go_wp2_with fail
  refine wp_region_held_drew (S := fun w' => w'.cell? ⟨w6.heap.size, 0, none⟩ = some (.slice (some ⟨g6_1, 0, none⟩) fn0 fn0) ∧ w'.cell? ⟨w6.heap.size, 1, none⟩ = some (.slice (some ⟨g6_2, 0, none⟩) tn0 tn0) ∧ w'.cell? ⟨w.heap.size, 0, none⟩ = some (.slice fa0 fn0 fc0) ∧ w'.cell? ⟨w.heap.size, 1, none⟩ = some (.slice ta0 tn0 tc0)) (by kernel_rfl) ?_ (fun hHeld => ?_)
  · (try dsimp only)
    exact ⟨X00_12, X01_12, p00_12, p01_12⟩
  refine tk 0 ?_
  refine tk 1 ?_
  refine wpAnyH_ready (rs := [2]) (by kernel_rfl) (by simp) ?_
  refine AllReadyH.cons (o := ?_) ?_ (fun K hK => ?_) AllReadyH.nil
  rotate_left
  · (simp only [List.getElem?_toArray, List.getElem?_cons_zero, List.getElem?_cons_succ]; rfl)
  go_simp
  go_at_call 11
  refine (toQuery_any fa0 fn0 fc0 ta0 tn0 tc0 zf0 zt0 _ HZ0.out.1 HZ0.out.2 hs10 hs20 (fun _ _ h => HSM0.out.2.1.each h) (At.below HA0.out.1 B_12.drew) (AtSl.below HA0.out.2 B_12.drew)).mono ?_
  rintro e w13 ⟨g13_1, g13_2, rfl, ho13, hd13⟩
  have hb13 : Below w12.heap.size w12 w13 := (Below.refl _ _).drew.trans hd13
  clear hd13
  have oy_13 := Hid.mk ho13
  clear ho13
  have p00_13 := cell_later hb13 p00_12
  have p01_13 := cell_later hb13 p01_12
  have Wt0_13 := cell_later hb13 Wt0_12
  have X00_13 := cell_later hb13 X00_12
  have X01_13 := cell_later hb13 X01_12
  have Gt0_13 := cell_later hb13 Gt0_12
  have oo_13 := Hid.mk (OwnU.below oo_12.out hb13)
  have oor_13 := Hid.mk (RInts.ownBelow oor_12.out hb13)
  have ox0_13 := Hid.mk (RQry.ownBelow ox0_12.out hb13)
  have ox1_13 := Hid.mk (RInts.ownBelow ox1_12.out hb13)
  have og_13 := Hid.mk (OwnU.below og_12.out hb13)
  have ogr_13 := Hid.mk (RInts.ownBelow ogr_12.out hb13)
  have B_13 := B_12.trans (hb13.mono B_12.size)
  have zz13 : w12.heap.size ≤ w13.heap.size := hb13.size
  clear p00_12 p01_12 Wt0_12 X00_12 X01_12 Gt0_12 oo_12 oor_12 ox0_12 ox1_12 og_12 ogr_12 B_12
  clear hb13
  (try go_wp2_with fail)
  refine hK.out _ _ ?_ (fun hHeld' => ?_)
  · (try dsimp only)
    exact ⟨X00_13, X01_13, p00_13, p01_13⟩
  clear hK K hHeld
  have hHeld := hHeld'
  clear hHeld'
  (try simp only [Act.put, List.setIfInBounds_toArray, List.set_cons_zero, List.set_cons_succ])
  refine wpAnyH_ready (rs := [3]) (by kernel_rfl) (by simp) ?_
  refine AllReadyH.cons (o := ?_) ?_ (fun K hK => ?_) AllReadyH.nil
  rotate_left
  · (simp only [List.getElem?_toArray, List.getElem?_cons_zero, List.getElem?_cons_succ]; rfl)
  go_simp
  go_at_call 16
  refine (eqQuery_same _ _ fn0 _ _ _ _ tn0 _ _ zf0 zt0 _ HZ0.out.1 HZ0.out.2 hs10 hs20 (fun _ _ h => HSM0.out.2.1.each h) (qry_at ox0_13.out).1 (qry_at ox0_13.out).2 (qry_at oy_13.out).1 (qry_at oy_13.out).2).mono ?_
  rintro e w14 ⟨rfl, hb14⟩
  clear oy_13
  have p00_14 := cell_later hb14 p00_13
  have p01_14 := cell_later hb14 p01_13
  have Wt0_14 := cell_later hb14 Wt0_13
  have X00_14 := cell_later hb14 X00_13
  have X01_14 := cell_later hb14 X01_13
  have Gt0_14 := cell_later hb14 Gt0_13
  have oo_14 := Hid.mk (OwnU.below oo_13.out hb14)
  have oor_14 := Hid.mk (RInts.ownBelow oor_13.out hb14)
  have ox0_14 := Hid.mk (RQry.ownBelow ox0_13.out hb14)
  have ox1_14 := Hid.mk (RInts.ownBelow ox1_13.out hb14)
  have og_14 := Hid.mk (OwnU.below og_13.out hb14)
  have ogr_14 := Hid.mk (RInts.ownBelow ogr_13.out hb14)
  have B_14 := B_13.trans (hb14.mono B_13.size)
  have zz14 : w13.heap.size ≤ w14.heap.size := hb14.size
  clear p00_13 p01_13 Wt0_13 X00_13 X01_13 Gt0_13 oo_13 oor_13 ox0_13 ox1_13 og_13 ogr_13 B_13
  clear hb14
  (try go_wp2_with fail)
  refine hK.out _ _ ?_ (fun hHeld' => ?_)
  · (try dsimp only)
    exact ⟨X00_14, X01_14, p00_14, p01_14⟩
  clear hK K hHeld
  have hHeld := hHeld'
  clear hHeld'
  (try simp only [Act.put, List.setIfInBounds_toArray, List.set_cons_zero, List.set_cons_succ])
  refine tk 4 ?_
  refine wpAnyH_done (by kernel_rfl) ?_ _
  clear hHeld
  go_wp2_with fail
  refine (toInts_rep a1 n1 c1 z1 _ HZ1.out hsn1 (At.below HA1.out B_14)).mono ?_
  rintro e w15 ⟨g15, rfl, ho15, hb15⟩
  have oy_15 := Hid.mk ho15
  clear ho15
  have p00_15 := cell_later hb15 p00_14
  have p01_15 := cell_later hb15 p01_14
  have Wt0_15 := cell_later hb15 Wt0_14
  have X00_15 := cell_later hb15 X00_14
  have X01_15 := cell_later hb15 X01_14
  have Gt0_15 := cell_later hb15 Gt0_14
  have oo_15 := Hid.mk (OwnU.below oo_14.out hb15)
  have oor_15 := Hid.mk (RInts.ownBelow oor_14.out hb15)
  have ox0_15 := Hid.mk (RQry.ownBelow ox0_14.out hb15)
  have ox1_15 := Hid.mk (RInts.ownBelow ox1_14.out hb15)
  have og_15 := Hid.mk (OwnU.below og_14.out hb15)
  have ogr_15 := Hid.mk (RInts.ownBelow ogr_14.out hb15)
  have B_15 := B_14.trans (hb15.mono B_14.size)
  have zz15 : w14.heap.size ≤ w15.heap.size := hb15.size
  clear p00_14 p01_14 Wt0_14 X00_14 X01_14 Gt0_14 oo_14 oor_14 ox0_14 ox1_14 og_14 ogr_14 B_14
  clear hb15
  go_wp2_with fail
  refine (eqIntS_same _ _ n1 _ _ z1 _ HZ1.out hsn1 (ints_at ox1_15.out) (ints_at oy_15.out)).mono ?_
  rintro e w16 ⟨rfl, hb16⟩
  clear oy_15
  have p00_16 := cell_later hb16 p00_15
  have p01_16 := cell_later hb16 p01_15
  have Wt0_16 := cell_later hb16 Wt0_15
  have X00_16 := cell_later hb16 X00_15
  have X01_16 := cell_later hb16 X01_15
  have Gt0_16 := cell_later hb16 Gt0_15
  have oo_16 := Hid.mk (OwnU.below oo_15.out hb16)
  have oor_16 := Hid.mk (RInts.ownBelow oor_15.out hb16)
  have ox0_16 := Hid.mk (RQry.ownBelow ox0_15.out hb16)
  have ox1_16 := Hid.mk (RInts.ownBelow ox1_15.out hb16)
  have og_16 := Hid.mk (OwnU.below og_15.out hb16)
  have ogr_16 := Hid.mk (RInts.ownBelow ogr_15.out hb16)
  have B_16 := B_15.trans (hb16.mono B_15.size)
  have zz16 : w15.heap.size ≤ w16.heap.size := hb16.size
  clear p00_15 p01_15 Wt0_15 X00_15 X01_15 Gt0_15 oo_15 oor_15 ox0_15 ox1_15 og_15 ogr_15 B_15
  clear hb16
  go_wp2_with fail
  refine (markQuery_rep (From (w5.heap.size) (w6.heap.size)) _ fn0 _ _ tn0 _ zf0 zt0 _ _ hs10 hs20 HSM0.out.2.1.msum (by omega) (by omega) (fun b h => by have h2 := h.2; omega) ox0_16.out).mono ?_
  rintro e w17 ⟨rfl, ho17, hg17⟩
  rw [HV0.out]
  have ox0_17 := Hid.mk ho17
  clear ho17
  have p00_17 := hg17.cell p00_16 (show ¬ From (w5.heap.size) (w6.heap.size) (w.heap.size) from fun h => by have h1 := h.1; have h2 := h.2; omega)
  have p01_17 := hg17.cell p01_16 (show ¬ From (w5.heap.size) (w6.heap.size) (w.heap.size) from fun h => by have h1 := h.1; have h2 := h.2; omega)
  have Wt0_17 := hg17.cell Wt0_16 (show ¬ From (w5.heap.size) (w6.heap.size) (w4.heap.size) from fun h => by have h1 := h.1; have h2 := h.2; omega)
  have X00_17 := hg17.cell X00_16 (show ¬ From (w5.heap.size) (w6.heap.size) (w6.heap.size) from fun h => by have h1 := h.1; have h2 := h.2; omega)
  have X01_17 := hg17.cell X01_16 (show ¬ From (w5.heap.size) (w6.heap.size) (w6.heap.size) from fun h => by have h1 := h.1; have h2 := h.2; omega)
  have Gt0_17 := hg17.cell Gt0_16 (show ¬ From (w5.heap.size) (w6.heap.size) (w9.heap.size) from fun h => by have h1 := h.1; have h2 := h.2; omega)
  have oo_17 := Hid.mk (OwnU.apartW oo_16.out (Off.apart hg17) (by omega))
  have oor_17 := Hid.mk (RInts.ownOff oor_16.out hg17 (fun b h1 h2 => by have h3 := h1.1; have h4 := h1.2; have h5 := h2.1; have h6 := h2.2; omega))
  have ox1_17 := Hid.mk (RInts.ownOff ox1_16.out hg17 (fun b h1 h2 => by have h3 := h1.1; have h4 := h1.2; have h5 := h2.1; have h6 := h2.2; omega))
  have og_17 := Hid.mk (OwnU.apartW og_16.out (Off.apart hg17) (by omega))
  have ogr_17 := Hid.mk (RInts.ownOff ogr_16.out hg17 (fun b h1 h2 => by have h3 := h1.1; have h4 := h1.2; have h5 := h2.1; have h6 := h2.2; omega))
  have B_17 := B_16.trans (hg17.toBelow (by omega) B_16.size)
  have zz17 : w16.heap.size ≤ w17.heap.size := hg17.size
  clear p00_16 p01_16 Wt0_16 X00_16 X01_16 Gt0_16 oo_16 oor_16 ox0_16 ox1_16 og_16 ogr_16 B_16
  clear hg17
  go_wp2_with fail
  refine (markInts_rep (From (w7.heap.size) (w8.heap.size)) _ n1 _ z1 _ _ hsn1 (by omega) (by omega) ox1_17.out).mono ?_
  rintro e w18 ⟨rfl, ho18, hg18⟩
  have ox1_18 := Hid.mk ho18
  clear ho18
  have p00_18 := hg18.cell p00_17 (show ¬ From (w7.heap.size) (w8.heap.size) (w.heap.size) from fun h => by have h1 := h.1; have h2 := h.2; omega)
  have p01_18 := hg18.cell p01_17 (show ¬ From (w7.heap.size) (w8.heap.size) (w.heap.size) from fun h => by have h1 := h.1; have h2 := h.2; omega)
  have Wt0_18 := hg18.cell Wt0_17 (show ¬ From (w7.heap.size) (w8.heap.size) (w4.heap.size) from fun h => by have h1 := h.1; have h2 := h.2; omega)
  have X00_18 := hg18.cell X00_17 (show ¬ From (w7.heap.size) (w8.heap.size) (w6.heap.size) from fun h => by have h1 := h.1; have h2 := h.2; omega)
  have X01_18 := hg18.cell X01_17 (show ¬ From (w7.heap.size) (w8.heap.size) (w6.heap.size) from fun h => by have h1 := h.1; have h2 := h.2; omega)
  have Gt0_18 := hg18.cell Gt0_17 (show ¬ From (w7.heap.size) (w8.heap.size) (w9.heap.size) from fun h => by have h1 := h.1; have h2 := h.2; omega)
  have oo_18 := Hid.mk (OwnU.apartW oo_17.out (Off.apart hg18) (by omega))
  have oor_18 := Hid.mk (RInts.ownOff oor_17.out hg18 (fun b h1 h2 => by have h3 := h1.1; have h4 := h1.2; have h5 := h2.1; have h6 := h2.2; omega))
  have ox0_18 := Hid.mk (RQry.ownOff ox0_17.out hg18 (fun b h1 h2 => by have h3 := h1.1; have h4 := h1.2; have h5 := h2.1; have h6 := h2.2; omega))
  have og_18 := Hid.mk (OwnU.apartW og_17.out (Off.apart hg18) (by omega))
  have ogr_18 := Hid.mk (RInts.ownOff ogr_17.out hg18 (fun b h1 h2 => by have h3 := h1.1; have h4 := h1.2; have h5 := h2.1; have h6 := h2.2; omega))
  have B_18 := B_17.trans (hg18.toBelow (by omega) B_17.size)
  have zz18 : w17.heap.size ≤ w18.heap.size := hg18.size
  clear p00_17 p01_17 Wt0_17 X00_17 X01_17 Gt0_17 oo_17 oor_17 ox0_17 ox1_17 og_17 ogr_17 B_17
  clear hg18
  have kpos : ¬ (1 : Int) + (V0 : Int) + (n1 : Int) < 0 := by omega
  go_wp2_with fail
  refine (eqTableS_any _ _ na _ _ ta _ HSA.out (og_18.out.atSW HSA.out) (oo_18.out.atSW HSA.out)).mono ?_
  rintro e w19 ⟨rfl, hb19⟩
  have p00_19 := cell_later hb19 p00_18
  have p01_19 := cell_later hb19 p01_18
  have Wt0_19 := cell_later hb19 Wt0_18
  have X00_19 := cell_later hb19 X00_18
  have X01_19 := cell_later hb19 X01_18
  have Gt0_19 := cell_later hb19 Gt0_18
  have oo_19 := Hid.mk (OwnU.below oo_18.out hb19)
  have oor_19 := Hid.mk (RInts.ownBelow oor_18.out hb19)
  have ox0_19 := Hid.mk (RQry.ownBelow ox0_18.out hb19)
  have ox1_19 := Hid.mk (RInts.ownBelow ox1_18.out hb19)
  have og_19 := Hid.mk (OwnU.below og_18.out hb19)
  have ogr_19 := Hid.mk (RInts.ownBelow ogr_18.out hb19)
  have B_19 := B_18.trans (hb19.mono B_18.size)
  have zz19 : w18.heap.size ≤ w19.heap.size := hb19.size
  clear p00_18 p01_18 Wt0_18 X00_18 X01_18 Gt0_18 oo_18 oor_18 ox0_18 ox1_18 og_18 ogr_18 B_18
  clear hb19
  go_wp2_with fail
  refine (eqRow_same _ _ nh _ _ hh _ HNH.out (by omega) (ints_at ogr_19.out) (ints_at oor_19.out)).mono ?_
  rintro e w20 ⟨rfl, hb20⟩
  have p00_20 := cell_later hb20 p00_19
  have p01_20 := cell_later hb20 p01_19
  have Wt0_20 := cell_later hb20 Wt0_19
  have X00_20 := cell_later hb20 X00_19
  have X01_20 := cell_later hb20 X01_19
  have Gt0_20 := cell_later hb20 Gt0_19
  have oo_20 := Hid.mk (OwnU.below oo_19.out hb20)
  have oor_20 := Hid.mk (RInts.ownBelow oor_19.out hb20)
  have ox0_20 := Hid.mk (RQry.ownBelow ox0_19.out hb20)
  have ox1_20 := Hid.mk (RInts.ownBelow ox1_19.out hb20)
  have og_20 := Hid.mk (OwnU.below og_19.out hb20)
  have ogr_20 := Hid.mk (RInts.ownBelow ogr_19.out hb20)
  have B_20 := B_19.trans (hb20.mono B_19.size)
  have zz20 : w19.heap.size ≤ w20.heap.size := hb20.size
  clear p00_19 p01_19 Wt0_19 X00_19 X01_19 Gt0_19 oo_19 oor_19 ox0_19 ox1_19 og_19 ogr_19 B_19
  clear hb20
  clear ox0_20
  clear ox1_20
  go_wp2_with fail
  refine (markTableS_any (w8.heap.size) (mid9) _ na _ ta 1 _ HSA.out (by omega) (by omega) og_20.out).mono ?_
  rintro e w21 ⟨rfl, ho21, hp21⟩
  rw [HVA.out]
  have og_21 := Hid.mk ho21
  have hg21 := Off.of_apart hp21
  clear ho21 hp21
  have p00_21 := hg21.cell p00_20 (show ¬ From (w8.heap.size) (mid9) (w.heap.size) from fun h => by have h1 := h.1; have h2 := h.2; omega)
  have p01_21 := hg21.cell p01_20 (show ¬ From (w8.heap.size) (mid9) (w.heap.size) from fun h => by have h1 := h.1; have h2 := h.2; omega)
  have Wt0_21 := hg21.cell Wt0_20 (show ¬ From (w8.heap.size) (mid9) (w4.heap.size) from fun h => by have h1 := h.1; have h2 := h.2; omega)
  have X00_21 := hg21.cell X00_20 (show ¬ From (w8.heap.size) (mid9) (w6.heap.size) from fun h => by have h1 := h.1; have h2 := h.2; omega)
  have X01_21 := hg21.cell X01_20 (show ¬ From (w8.heap.size) (mid9) (w6.heap.size) from fun h => by have h1 := h.1; have h2 := h.2; omega)
  have Gt0_21 := hg21.cell Gt0_20 (show ¬ From (w8.heap.size) (mid9) (w9.heap.size) from fun h => by have h1 := h.1; have h2 := h.2; omega)
  have oo_21 := Hid.mk (OwnU.apartW oo_20.out (Off.apart hg21) (by omega))
  have oor_21 := Hid.mk (RInts.ownOff oor_20.out hg21 (fun b h1 h2 => by have h3 := h1.1; have h4 := h1.2; have h5 := h2.1; have h6 := h2.2; omega))
  have ogr_21 := Hid.mk (RInts.ownOff ogr_20.out hg21 (fun b h1 h2 => by have h3 := h1.1; have h4 := h1.2; have h5 := h2.1; have h6 := h2.2; omega))
  have B_21 := B_20.trans (hg21.toBelow (by omega) B_20.size)
  have zz21 : w20.heap.size ≤ w21.heap.size := hg21.size
  clear p00_20 p01_20 Wt0_20 X00_20 X01_20 Gt0_20 oo_20 oor_20 og_20 ogr_20 B_20
  clear hg21
  go_wp2_with fail
  refine (markRow_rep (From (mid9) (w9.heap.size)) _ nh _ hh ((1 : Int) + (VA : Int)) _ (by omega) (by omega) (by omega) ogr_21.out).mono ?_
  rintro e w22 ⟨rfl, ho22, hg22⟩
  have ogr_22 := Hid.mk ho22
  clear ho22
  have p00_22 := hg22.cell p00_21 (show ¬ From (mid9) (w9.heap.size) (w.heap.size) from fun h => by have h1 := h.1; have h2 := h.2; omega)
  have p01_22 := hg22.cell p01_21 (show ¬ From (mid9) (w9.heap.size) (w.heap.size) from fun h => by have h1 := h.1; have h2 := h.2; omega)
  have Wt0_22 := hg22.cell Wt0_21 (show ¬ From (mid9) (w9.heap.size) (w4.heap.size) from fun h => by have h1 := h.1; have h2 := h.2; omega)
  have X00_22 := hg22.cell X00_21 (show ¬ From (mid9) (w9.heap.size) (w6.heap.size) from fun h => by have h1 := h.1; have h2 := h.2; omega)
  have X01_22 := hg22.cell X01_21 (show ¬ From (mid9) (w9.heap.size) (w6.heap.size) from fun h => by have h1 := h.1; have h2 := h.2; omega)
  have Gt0_22 := hg22.cell Gt0_21 (show ¬ From (mid9) (w9.heap.size) (w9.heap.size) from fun h => by have h1 := h.1; have h2 := h.2; omega)
  have oo_22 := Hid.mk (OwnU.apartW oo_21.out (Off.apart hg22) (by omega))
  have oor_22 := Hid.mk (RInts.ownOff oor_21.out hg22 (fun b h1 h2 => by have h3 := h1.1; have h4 := h1.2; have h5 := h2.1; have h6 := h2.2; omega))
  have og_22 := Hid.mk (OwnU.apartW og_21.out (Off.apart hg22) (by omega))
  have B_22 := B_21.trans (hg22.toBelow (by omega) B_21.size)
  have zz22 : w21.heap.size ≤ w22.heap.size := hg22.size
  clear p00_21 p01_21 Wt0_21 X00_21 X01_21 Gt0_21 oo_21 oor_21 og_21 ogr_21 B_21
  clear hg22
  have gpos : ¬ (1 : Int) + (VA : Int) < 0 := by omega
  have gpos2 : ¬ (1 : Int) + (VA : Int) + (nh : Int) < 0 := by omega
  go_wp2_with fail
  refine (heldTableS_any _ na _ ta 1 _ HSA.out (by omega) (by omega) (og_22.out.atMark HSA.out)).mono ?_
  rintro e w23 ⟨rfl, hb23⟩
  rw [HVA.out]
  have p00_23 := cell_later hb23 p00_22
  have p01_23 := cell_later hb23 p01_22
  have Wt0_23 := cell_later hb23 Wt0_22
  have X00_23 := cell_later hb23 X00_22
  have X01_23 := cell_later hb23 X01_22
  have Gt0_23 := cell_later hb23 Gt0_22
  have oo_23 := Hid.mk (OwnU.below oo_22.out hb23)
  have oor_23 := Hid.mk (RInts.ownBelow oor_22.out hb23)
  have og_23 := Hid.mk (OwnU.below og_22.out hb23)
  have ogr_23 := Hid.mk (RInts.ownBelow ogr_22.out hb23)
  have B_23 := B_22.trans (hb23.mono B_22.size)
  have zz23 : w22.heap.size ≤ w23.heap.size := hb23.size
  clear p00_22 p01_22 Wt0_22 X00_22 X01_22 Gt0_22 oo_22 oor_22 og_22 ogr_22 B_22
  clear hb23
  go_wp2_with fail
  refine (heldRow_rep _ nh _ hh ((1 : Int) + (VA : Int)) _ HNH.out (by omega) (by omega) (by omega) (ints_at ogr_23.out)).mono ?_
  rintro e w24 ⟨rfl, hb24⟩
  have p00_24 := cell_later hb24 p00_23
  have p01_24 := cell_later hb24 p01_23
  have Wt0_24 := cell_later hb24 Wt0_23
  have X00_24 := cell_later hb24 X00_23
  have X01_24 := cell_later hb24 X01_23
  have Gt0_24 := cell_later hb24 Gt0_23
  have oo_24 := Hid.mk (OwnU.below oo_23.out hb24)
  have oor_24 := Hid.mk (RInts.ownBelow oor_23.out hb24)
  have og_24 := Hid.mk (OwnU.below og_23.out hb24)
  have ogr_24 := Hid.mk (RInts.ownBelow ogr_23.out hb24)
  have B_24 := B_23.trans (hb24.mono B_23.size)
  have zz24 : w23.heap.size ≤ w24.heap.size := hb24.size
  clear p00_23 p01_23 Wt0_23 X00_23 X01_23 Gt0_23 oo_23 oor_23 og_23 ogr_23 B_23
  clear hb24
  go_wp2_with fail
  refine (toQuery_any fa0 fn0 fc0 ta0 tn0 tc0 zf0 zt0 _ HZ0.out.1 HZ0.out.2 hs10 hs20 (fun _ _ h => HSM0.out.2.1.each h) (At.below HA0.out.1 B_24) (AtSl.below HA0.out.2 B_24)).mono ?_
  rintro e w25 ⟨g25_1, g25_2, rfl, ho25, hb25⟩
  have oh0_25 := Hid.mk ho25
  clear ho25
  have p00_25 := cell_later hb25 p00_24
  have p01_25 := cell_later hb25 p01_24
  have Wt0_25 := cell_later hb25 Wt0_24
  have X00_25 := cell_later hb25 X00_24
  have X01_25 := cell_later hb25 X01_24
  have Gt0_25 := cell_later hb25 Gt0_24
  have oo_25 := Hid.mk (OwnU.below oo_24.out hb25)
  have oor_25 := Hid.mk (RInts.ownBelow oor_24.out hb25)
  have og_25 := Hid.mk (OwnU.below og_24.out hb25)
  have ogr_25 := Hid.mk (RInts.ownBelow ogr_24.out hb25)
  have B_25 := B_24.trans (hb25.mono B_24.size)
  have zz25 : w24.heap.size ≤ w25.heap.size := hb25.size
  clear p00_24 p01_24 Wt0_24 X00_24 X01_24 Gt0_24 oo_24 oor_24 og_24 ogr_24 B_24
  clear hb25
  go_wp2_with fail
  refine (toInts_rep a1 n1 c1 z1 _ HZ1.out hsn1 (At.below HA1.out B_25)).mono ?_
  rintro e w26 ⟨g26, rfl, ho26, hb26⟩
  have oh1_26 := Hid.mk ho26
  clear ho26
  have p00_26 := cell_later hb26 p00_25
  have p01_26 := cell_later hb26 p01_25
  have Wt0_26 := cell_later hb26 Wt0_25
  have X00_26 := cell_later hb26 X00_25
  have X01_26 := cell_later hb26 X01_25
  have Gt0_26 := cell_later hb26 Gt0_25
  have oo_26 := Hid.mk (OwnU.below oo_25.out hb26)
  have oor_26 := Hid.mk (RInts.ownBelow oor_25.out hb26)
  have og_26 := Hid.mk (OwnU.below og_25.out hb26)
  have ogr_26 := Hid.mk (RInts.ownBelow ogr_25.out hb26)
  have oh0_26 := Hid.mk (RQry.ownBelow oh0_25.out hb26)
  have B_26 := B_25.trans (hb26.mono B_25.size)
  have zz26 : w25.heap.size ≤ w26.heap.size := hb26.size
  clear p00_25 p01_25 Wt0_25 X00_25 X01_25 Gt0_25 oo_25 oor_25 og_25 ogr_25 oh0_25 B_25
  clear hb26
  go_wp2_with fail
  refine (HI.out _ _ _ _ _ _ oh0_26.out oh1_26.out).mono ?_
  rintro e w27 ⟨⟨r27, m27, d27, ra27, rm27, rd27, mid27, rfl, hlm27, hmh27, ho27, hrm27, hor27⟩, hb27⟩
  clear oh0_26
  clear oh1_26
  obtain rfl : na = m27 := HNA.out.symm.trans (OwnU.len ho27)
  obtain rfl : nh = rm27 := HNH.out.symm.trans hrm27
  have ohg_27 := Hid.mk ho27
  have ohgr_27 := Hid.mk (RInts.of_owns HNH.out (by omega) hor27)
  clear ho27 hor27 hrm27
  have p00_27 := cell_later hb27 p00_26
  have p01_27 := cell_later hb27 p01_26
  have Wt0_27 := cell_later hb27 Wt0_26
  have X00_27 := cell_later hb27 X00_26
  have X01_27 := cell_later hb27 X01_26
  have Gt0_27 := cell_later hb27 Gt0_26
  have oo_27 := Hid.mk (OwnU.below oo_26.out hb27)
  have oor_27 := Hid.mk (RInts.ownBelow oor_26.out hb27)
  have og_27 := Hid.mk (OwnU.below og_26.out hb27)
  have ogr_27 := Hid.mk (RInts.ownBelow ogr_26.out hb27)
  have B_27 := B_26.trans (hb27.mono B_26.size)
  have zz27 : w26.heap.size ≤ w27.heap.size := hb27.size
  clear p00_26 p01_26 Wt0_26 X00_26 X01_26 Gt0_26 oo_26 oor_26 og_26 ogr_26 B_26
  clear hb27
  obtain ⟨w28, hU28⟩ : ∃ u, u = w27.alloc (.cells #[.slice ra27 nh rd27] 29) := ⟨_, rfl⟩
  have hb28 : Below w27.heap.size w27 w28 := by rw [hU28]; exact (Below.refl _ _).alloc (Nat.le_refl _) _
  have zl28 : w27.heap.size < w28.heap.size := by rw [hU28]; simp
  have nHt0 : w28.cell? ⟨w27.heap.size, 0, none⟩ = some (.slice ra27 nh rd27) := by rw [hU28]; simp
  have p00_28 := cell_later hb28 p00_27
  have p01_28 := cell_later hb28 p01_27
  have Wt0_28 := cell_later hb28 Wt0_27
  have X00_28 := cell_later hb28 X00_27
  have X01_28 := cell_later hb28 X01_27
  have Gt0_28 := cell_later hb28 Gt0_27
  have oo_28 := Hid.mk (OwnU.below oo_27.out hb28)
  have oor_28 := Hid.mk (RInts.ownBelow oor_27.out hb28)
  have og_28 := Hid.mk (OwnU.below og_27.out hb28)
  have ogr_28 := Hid.mk (RInts.ownBelow ogr_27.out hb28)
  have ohg_28 := Hid.mk (OwnU.below ohg_27.out hb28)
  have ohgr_28 := Hid.mk (RInts.ownBelow ohgr_27.out hb28)
  have B_28 := B_27.trans (hb28.mono B_27.size)
  have zz28 : w27.heap.size ≤ w28.heap.size := hb28.size
  clear p00_27 p01_27 Wt0_27 X00_27 X01_27 Gt0_27 oo_27 oor_27 og_27 ogr_27 ohg_27 ohgr_27 B_27
  clear hb28
  have xp00 := p00_28
  rw [hU28] at xp00
  have xp01 := p01_28
  rw [hU28] at xp01
  have xWt0 := Wt0_28
  rw [hU28] at xWt0
  have xX00 := X00_28
  rw [hU28] at xX00
  have xX01 := X01_28
  rw [hU28] at xX01
  have xGt0 := Gt0_28
  rw [hU28] at xGt0
  have xHt0 := nHt0
  rw [hU28] at xHt0
  go_wp2_with fail
  rw [← hU28]
  clear hU28
  clear xp00 xp01 xWt0 xX00 xX01 xGt0 xHt0
  refine (eqTableS_any _ _ na _ _ ta _ HSA.out (ohg_28.out.atSW HSA.out) (oo_28.out.atSW HSA.out)).mono ?_
  rintro e w29 ⟨rfl, hb29⟩
  have p00_29 := cell_later hb29 p00_28
  have p01_29 := cell_later hb29 p01_28
  have Wt0_29 := cell_later hb29 Wt0_28
  have X00_29 := cell_later hb29 X00_28
  have X01_29 := cell_later hb29 X01_28
  have Gt0_29 := cell_later hb29 Gt0_28
  have Ht0_29 := cell_later hb29 nHt0
  have oo_29 := Hid.mk (OwnU.below oo_28.out hb29)
  have oor_29 := Hid.mk (RInts.ownBelow oor_28.out hb29)
  have og_29 := Hid.mk (OwnU.below og_28.out hb29)
  have ogr_29 := Hid.mk (RInts.ownBelow ogr_28.out hb29)
  have ohg_29 := Hid.mk (OwnU.below ohg_28.out hb29)
  have ohgr_29 := Hid.mk (RInts.ownBelow ohgr_28.out hb29)
  have B_29 := B_28.trans (hb29.mono B_28.size)
  have zz29 : w28.heap.size ≤ w29.heap.size := hb29.size
  clear p00_28 p01_28 Wt0_28 X00_28 X01_28 Gt0_28 nHt0 oo_28 oor_28 og_28 ogr_28 ohg_28 ohgr_28 B_28
  clear hb29
  go_wp2_with fail
  refine (eqRow_same _ _ nh _ _ hh _ HNH.out (by omega) (ints_at ohgr_29.out) (ints_at oor_29.out)).mono ?_
  rintro e w30 ⟨rfl, hb30⟩
  have p00_30 := cell_later hb30 p00_29
  have p01_30 := cell_later hb30 p01_29
  have Wt0_30 := cell_later hb30 Wt0_29
  have X00_30 := cell_later hb30 X00_29
  have X01_30 := cell_later hb30 X01_29
  have Gt0_30 := cell_later hb30 Gt0_29
  have Ht0_30 := cell_later hb30 Ht0_29
  have oo_30 := Hid.mk (OwnU.below oo_29.out hb30)
  have oor_30 := Hid.mk (RInts.ownBelow oor_29.out hb30)
  have og_30 := Hid.mk (OwnU.below og_29.out hb30)
  have ogr_30 := Hid.mk (RInts.ownBelow ogr_29.out hb30)
  have ohg_30 := Hid.mk (OwnU.below ohg_29.out hb30)
  have ohgr_30 := Hid.mk (RInts.ownBelow ohgr_29.out hb30)
  have B_30 := B_29.trans (hb30.mono B_29.size)
  have zz30 : w29.heap.size ≤ w30.heap.size := hb30.size
  clear p00_29 p01_29 Wt0_29 X00_29 X01_29 Gt0_29 Ht0_29 oo_29 oor_29 og_29 ogr_29 ohg_29 ohgr_29 B_29
  clear hb30
  go_wp2_with fail
  refine (heldTableS_any _ na _ ta 1 _ HSA.out (by omega) (by omega) (og_30.out.atMark HSA.out)).mono ?_
  rintro e w31 ⟨rfl, hb31⟩
  rw [HVA.out]
  have p00_31 := cell_later hb31 p00_30
  have p01_31 := cell_later hb31 p01_30
  have Wt0_31 := cell_later hb31 Wt0_30
  have X00_31 := cell_later hb31 X00_30
  have X01_31 := cell_later hb31 X01_30
  have Gt0_31 := cell_later hb31 Gt0_30
  have Ht0_31 := cell_later hb31 Ht0_30
  have oo_31 := Hid.mk (OwnU.below oo_30.out hb31)
  have oor_31 := Hid.mk (RInts.ownBelow oor_30.out hb31)
  have og_31 := Hid.mk (OwnU.below og_30.out hb31)
  have ogr_31 := Hid.mk (RInts.ownBelow ogr_30.out hb31)
  have ohg_31 := Hid.mk (OwnU.below ohg_30.out hb31)
  have ohgr_31 := Hid.mk (RInts.ownBelow ohgr_30.out hb31)
  have B_31 := B_30.trans (hb31.mono B_30.size)
  have zz31 : w30.heap.size ≤ w31.heap.size := hb31.size
  clear p00_30 p01_30 Wt0_30 X00_30 X01_30 Gt0_30 Ht0_30 oo_30 oor_30 og_30 ogr_30 ohg_30 ohgr_30 B_30
  clear hb31
  go_wp2_with fail
  refine (heldRow_rep _ nh _ hh ((1 : Int) + (VA : Int)) _ HNH.out (by omega) (by omega) (by omega) (ints_at ogr_31.out)).mono ?_
  rintro e w32 ⟨rfl, hb32⟩
  have p00_32 := cell_later hb32 p00_31
  have p01_32 := cell_later hb32 p01_31
  have Wt0_32 := cell_later hb32 Wt0_31
  have X00_32 := cell_later hb32 X00_31
  have X01_32 := cell_later hb32 X01_31
  have Gt0_32 := cell_later hb32 Gt0_31
  have Ht0_32 := cell_later hb32 Ht0_31
  have oo_32 := Hid.mk (OwnU.below oo_31.out hb32)
  have oor_32 := Hid.mk (RInts.ownBelow oor_31.out hb32)
  have og_32 := Hid.mk (OwnU.below og_31.out hb32)
  have ogr_32 := Hid.mk (RInts.ownBelow ogr_31.out hb32)
  have ohg_32 := Hid.mk (OwnU.below ohg_31.out hb32)
  have ohgr_32 := Hid.mk (RInts.ownBelow ohgr_31.out hb32)
  have B_32 := B_31.trans (hb32.mono B_31.size)
  have zz32 : w31.heap.size ≤ w32.heap.size := hb32.size
  clear p00_31 p01_31 Wt0_31 X00_31 X01_31 Gt0_31 Ht0_31 oo_31 oor_31 og_31 ogr_31 ohg_31 ohgr_31 B_31
  clear hb32
  go_wp2
  go_ret
  exact ⟨rfl, B_32⟩

end Go.Proofs.Ytipgepienagplaa
