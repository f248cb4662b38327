/- The law FnExactStartTableau returns true at every input, and writes nothing that was there. -/
import Derived.Test.YthliamoeplgblaaDoorStI
import Derived.Test.YthliamoeplgblaaDoorStS
import Derived.Test.YthliamoeplgblaaDoorLawT
import Derived.Test.YthliamoeplgblaaDoorTbM
namespace Go.Proofs.YthliamoeplgblaaDoor
open Go.RowKit

set_option maxRecDepth 100000 in
set_option maxHeartbeats 16000000 in
theorem lawStartTableau (a0 : Option Addr) (n0 c0 : Nat) (z0 : List (List Int)) (a1 : Int) (w : World) (hz0 : z0.length = n0) (hn0 : n0 ≤ 9223372036854775807) (ha0 : AtS w a0 z0) (_w1 : (Lit.int .i64 a1).wf = true) (htab : TabB w) :
    Calls Tryd.prog 3 #[.slice a0 n0 c0, .int .i64 a1] w fun e w' => e = .returned (.bool true) ∧ Below w.heap.size w w' := by
  have HA0 := Hid.mk ha0
  have HZ0 := Hid.mk hz0
  clear ha0 hz0
  have HTAB := Hid.mk htab
  clear htab
  have B0 : Below w.heap.size w w := Below.refl _ _
  obtain ⟨C0, hC0⟩ : ∃ C : Nat, n0 + tot z0 n0 = C := ⟨_, rfl⟩
  have HC0 := Hid.mk hC0
  clear hC0
  by_cases big0 : (1048576 : Int) < (C0 : Int)
  · go_enter Tryd.func3, Tryd.ntmps3
    go_wp2_with fail
    refine (szIntSS_nat a0 n0 c0 z0 _ _ HZ0.out hn0 (by omega) (by omega) (AtS.below HA0.out B0)).mono ?_
    rintro e v0 ⟨rfl, hv0⟩
    rw [HC0.out, leftOf_no big0]
    have y0 := B0.trans (hv0.mono B0.size)
    go_wp2
    go_ret
    exact ⟨rfl, y0⟩
  have hl0 : ¬ (1048576 : Int) - (C0 : Int) < 0 := by omega
  have HSM0 : Hid (SmR z0 n0) := ⟨HZ0.out, by have := HC0.out; omega⟩
  have hsn0 : n0 ≤ 1048576 := HSM0.out.n
  have HVB0 := HSM0.out.sum
  obtain ⟨V0, hV0⟩ : ∃ V : Nat, tot z0 n0 = V := ⟨_, rfl⟩
  rw [hV0] at HVB0
  have HV0 := Hid.mk hV0
  clear hV0
  obtain ⟨ok, pa, ta, hsA, HS, HI⟩ : ∃ (ok : Bool) (pa : Int) (ta : List (List Int)), SmR ta ta.length ∧ Hid (∀ (x0 : Nat) (w : World) (F0 : Nat → Prop), RPairs.Own w F0 [.slice (some ⟨x0, 0, none⟩) n0 n0] z0 → Calls Tryd.prog 6 #[.slice (some ⟨x0, 0, none⟩) n0 n0, .int .i64 a1] w fun e w' => TblRet e w' w.heap.size ok pa ta ∧ Below w.heap.size w w') ∧ Hid (∀ (x0 : Nat) (w : World) (F0 : Nat → Prop), RPairs.Own w F0 [.slice (some ⟨x0, 0, none⟩) n0 n0] z0 → TabB w → Calls Tryd.prog 8 #[.slice (some ⟨x0, 0, none⟩) n0 n0, .int .i64 a1] w fun e w' => TblRet e w' w.heap.size ok pa ta ∧ Below w.heap.size w w') := ⟨gpB z0 a1, stC z0 a1, stL z0 a1, st_small z0 a1, fun x0 w F0 o0 => specStartTableau (some ⟨x0, 0, none⟩) n0 n0 z0 a1 w HZ0.out hsn0 HSM0.out.sum (pairs_atS o0), fun x0 w F0 o0 ht => implStartTableau (some ⟨x0, 0, none⟩) n0 n0 z0 a1 w HZ0.out hn0 (pairs_atS o0) ht⟩
  obtain ⟨na, hna⟩ : ∃ na, ta.length = na := ⟨_, rfl⟩
  rw [hna] at hsA
  have hnA := hsA.n
  have hvA := hsA.sum
  have HSA := Hid.mk hsA
  obtain ⟨VA, hVA⟩ : ∃ V : Nat, tot ta na = V := ⟨_, rfl⟩
  rw [hVA] at hvA
  have HVA := Hid.mk hVA
  have HNA := Hid.mk hna
  clear hna hVA hsA
  go_enter Tryd.func3, Tryd.ntmps3
  go_wp2_with fail
  refine (szIntSS_nat a0 n0 c0 z0 _ _ HZ0.out hn0 (by omega) (by omega) (AtS.below HA0.out B0)).mono ?_
  rintro e w1 ⟨rfl, hb1⟩
  rw [HC0.out, leftOf_yes (by omega)]
  have B_1 := B0.trans (hb1.mono B0.size)
  have zz1 : w.heap.size ≤ w1.heap.size := hb1.size
  clear hb1
  go_wp2_with fail
  refine (toPairs_rep a0 n0 c0 z0 _ HZ0.out hsn0 HSM0.out.each (AtS.below HA0.out B_1)).mono ?_
  rintro e w2 ⟨g2, rfl, ho2, hb2⟩
  have ot0_2 := Hid.mk ho2
  clear ho2
  have B_2 := B_1.trans (hb2.mono B_1.size)
  have zz2 : w1.heap.size ≤ w2.heap.size := hb2.size
  clear B_1
  clear hb2
  go_wp2_with fail
  refine (HS.out _ _ _ ot0_2.out).mono ?_
  rintro e w3 ⟨⟨r3, m3, d3, rfl, ho3⟩, hb3⟩
  clear ot0_2
  obtain rfl : na = m3 := HNA.out.symm.trans (RRows.atS ho3).1
  have oo_3 := Hid.mk ho3
  clear ho3
  have B_3 := B_2.trans (hb3.mono B_2.size)
  have zz3 : w2.heap.size ≤ w3.heap.size := hb3.size
  clear B_2
  clear hb3
  obtain ⟨w4, hU4⟩ : ∃ u, u = w3.alloc (.cells #[.int .i64 pa, .slice r3 na d3] 26) := ⟨_, rfl⟩
  have hb4 : Below w3.heap.size w3 w4 := by rw [hU4]; exact (Below.refl _ _).alloc (Nat.le_refl _) _
  have zl4 : w3.heap.size < w4.heap.size := by rw [hU4]; simp
  have nWt0 : w4.cell? ⟨w3.heap.size, 0, none⟩ = some (.int .i64 pa) := by rw [hU4]; simp
  have nWt1 : w4.cell? ⟨w3.heap.size, 1, none⟩ = some (.slice r3 na d3) := by rw [hU4]; simp
  have oo_4 := Hid.mk (RRows.ownBelow oo_3.out hb4)
  have B_4 := B_3.trans (hb4.mono B_3.size)
  have zz4 : w3.heap.size ≤ w4.heap.size := hb4.size
  clear oo_3 B_3
  clear hb4
  have xWt0 := nWt0
  rw [hU4] at xWt0
  have xWt1 := nWt1
  rw [hU4] at xWt1
  go_wp2_with fail
  rw [← hU4]
  clear hU4
  clear xWt0 xWt1
  refine (toPairs_rep a0 n0 c0 z0 _ HZ0.out hsn0 HSM0.out.each (AtS.below HA0.out B_4)).mono ?_
  rintro e w5 ⟨g5, rfl, ho5, hb5⟩
  have ox0_5 := Hid.mk ho5
  clear ho5
  have Wt0_5 := cell_later hb5 nWt0
  have Wt1_5 := cell_later hb5 nWt1
  have oo_5 := Hid.mk (RRows.ownBelow oo_4.out hb5)
  have B_5 := B_4.trans (hb5.mono B_4.size)
  have zz5 : w4.heap.size ≤ w5.heap.size := hb5.size
  clear nWt0 nWt1 oo_4 B_4
  clear hb5
  go_wp2_with fail
  refine (HI.out _ _ _ ox0_5.out (TabIs.below HTAB.out B_5)).mono ?_
  rintro e w6 ⟨⟨r6, m6, d6, rfl, ho6⟩, hb6⟩
  obtain rfl : na = m6 := HNA.out.symm.trans (RRows.atS ho6).1
  have og_6 := Hid.mk ho6
  clear ho6
  have Wt0_6 := cell_later hb6 Wt0_5
  have Wt1_6 := cell_later hb6 Wt1_5
  have oo_6 := Hid.mk (RRows.ownBelow oo_5.out hb6)
  have ox0_6 := Hid.mk (RPairs.ownBelow ox0_5.out hb6)
  have B_6 := B_5.trans (hb6.mono B_5.size)
  have zz6 : w5.heap.size ≤ w6.heap.size := hb6.size
  clear Wt0_5 Wt1_5 oo_5 ox0_5 B_5
  clear hb6
  obtain ⟨w7, hU7⟩ : ∃ u, u = w6.alloc (.cells #[.int .i64 pa, .slice r6 na d6] 26) := ⟨_, rfl⟩
  have hb7 : Below w6.heap.size w6 w7 := by rw [hU7]; exact (Below.refl _ _).alloc (Nat.le_refl _) _
  have zl7 : w6.heap.size < w7.heap.size := by rw [hU7]; simp
  have nGt0 : w7.cell? ⟨w6.heap.size, 0, none⟩ = some (.int .i64 pa) := by rw [hU7]; simp
  have nGt1 : w7.cell? ⟨w6.heap.size, 1, none⟩ = some (.slice r6 na d6) := by rw [hU7]; simp
  have Wt0_7 := cell_later hb7 Wt0_6
  have Wt1_7 := cell_later hb7 Wt1_6
  have oo_7 := Hid.mk (RRows.ownBelow oo_6.out hb7)
  have ox0_7 := Hid.mk (RPairs.ownBelow ox0_6.out hb7)
  have og_7 := Hid.mk (RRows.ownBelow og_6.out hb7)
  have B_7 := B_6.trans (hb7.mono B_6.size)
  have zz7 : w6.heap.size ≤ w7.heap.size := hb7.size
  clear Wt0_6 Wt1_6 oo_6 ox0_6 og_6 B_6
  clear hb7
  have xWt0 := Wt0_7
  rw [hU7] at xWt0
  have xWt1 := Wt1_7
  rw [hU7] at xWt1
  have xGt0 := nGt0
  rw [hU7] at xGt0
  have xGt1 := nGt1
  rw [hU7] at xGt1
  go_wp2_with fail
  rw [← hU7]
  clear hU7
  clear xWt0 xWt1 xGt0 xGt1
  refine (eqTableau_same pa _ _ na _ _ ta _ HSA.out (RRows.atS og_7.out).2 (RRows.atS oo_7.out).2).mono ?_
  rintro e w8 ⟨rfl, hb8⟩
  have Wt0_8 := cell_later hb8 Wt0_7
  have Wt1_8 := cell_later hb8 Wt1_7
  have Gt0_8 := cell_later hb8 nGt0
  have Gt1_8 := cell_later hb8 nGt1
  have oo_8 := Hid.mk (RRows.ownBelow oo_7.out hb8)
  have ox0_8 := Hid.mk (RPairs.ownBelow ox0_7.out hb8)
  have og_8 := Hid.mk (RRows.ownBelow og_7.out hb8)
  have B_8 := B_7.trans (hb8.mono B_7.size)
  have zz8 : w7.heap.size ≤ w8.heap.size := hb8.size
  clear Wt0_7 Wt1_7 nGt0 nGt1 oo_7 ox0_7 og_7 B_7
  clear hb8
  go_wp2_with fail
  refine (toPairs_rep a0 n0 c0 z0 _ HZ0.out hsn0 HSM0.out.each (AtS.below HA0.out B_8)).mono ?_
  rintro e w9 ⟨g9, rfl, ho9, hb9⟩
  have oy_9 := Hid.mk ho9
  clear ho9
  have Wt0_9 := cell_later hb9 Wt0_8
  have Wt1_9 := cell_later hb9 Wt1_8
  have Gt0_9 := cell_later hb9 Gt0_8
  have Gt1_9 := cell_later hb9 Gt1_8
  have oo_9 := Hid.mk (RRows.ownBelow oo_8.out hb9)
  have ox0_9 := Hid.mk (RPairs.ownBelow ox0_8.out hb9)
  have og_9 := Hid.mk (RRows.ownBelow og_8.out hb9)
  have B_9 := B_8.trans (hb9.mono B_8.size)
  have zz9 : w8.heap.size ≤ w9.heap.size := hb9.size
  clear Wt0_8 Wt1_8 Gt0_8 Gt1_8 oo_8 ox0_8 og_8 B_8
  clear hb9
  go_wp2_with fail
  refine (eqIntSS_same _ _ n0 _ _ z0 _ HZ0.out hsn0 HSM0.out.each (pairs_atS ox0_9.out) (pairs_atS oy_9.out)).mono ?_
  rintro e w10 ⟨rfl, hb10⟩
  clear oy_9
  have Wt0_10 := cell_later hb10 Wt0_9
  have Wt1_10 := cell_later hb10 Wt1_9
  have Gt0_10 := cell_later hb10 Gt0_9
  have Gt1_10 := cell_later hb10 Gt1_9
  have oo_10 := Hid.mk (RRows.ownBelow oo_9.out hb10)
  have ox0_10 := Hid.mk (RPairs.ownBelow ox0_9.out hb10)
  have og_10 := Hid.mk (RRows.ownBelow og_9.out hb10)
  have B_10 := B_9.trans (hb10.mono B_9.size)
  have zz10 : w9.heap.size ≤ w10.heap.size := hb10.size
  clear Wt0_9 Wt1_9 Gt0_9 Gt1_9 oo_9 ox0_9 og_9 B_9
  clear hb10
  go_wp2_with fail
  refine (markPairs_rep (From (w4.heap.size) (w5.heap.size)) _ n0 _ z0 _ _ hsn0 HSM0.out.sum (by omega) (by omega) ox0_10.out).mono ?_
  rintro e w11 ⟨rfl, ho11, hg11⟩
  rw [HV0.out]
  have ox0_11 := Hid.mk ho11
  clear ho11
  have Wt0_11 := hg11.cell Wt0_10 (show ¬ From (w4.heap.size) (w5.heap.size) (w3.heap.size) from fun h => by have h1 := h.1; have h2 := h.2; omega)
  have Wt1_11 := hg11.cell Wt1_10 (show ¬ From (w4.heap.size) (w5.heap.size) (w3.heap.size) from fun h => by have h1 := h.1; have h2 := h.2; omega)
  have Gt0_11 := hg11.cell Gt0_10 (show ¬ From (w4.heap.size) (w5.heap.size) (w6.heap.size) from fun h => by have h1 := h.1; have h2 := h.2; omega)
  have Gt1_11 := hg11.cell Gt1_10 (show ¬ From (w4.heap.size) (w5.heap.size) (w6.heap.size) from fun h => by have h1 := h.1; have h2 := h.2; omega)
  have oo_11 := Hid.mk (RRows.ownOff oo_10.out hg11 (fun b h1 h2 => by have h3 := h1.1; have h4 := h1.2; have h5 := h2.1; have h6 := h2.2; omega))
  have og_11 := Hid.mk (RRows.ownOff og_10.out hg11 (fun b h1 h2 => by have h3 := h1.1; have h4 := h1.2; have h5 := h2.1; have h6 := h2.2; omega))
  have B_11 := B_10.trans (hg11.toBelow (by omega) B_10.size)
  have zz11 : w10.heap.size ≤ w11.heap.size := hg11.size
  clear Wt0_10 Wt1_10 Gt0_10 Gt1_10 oo_10 ox0_10 og_10 B_10
  clear hg11
  have kpos : ¬ (1 : Int) + (V0 : Int) < 0 := by omega
  go_wp2_with fail
  refine (eqTableau_same pa _ _ na _ _ ta _ HSA.out (RRows.atS og_11.out).2 (RRows.atS oo_11.out).2).mono ?_
  rintro e w12 ⟨rfl, hb12⟩
  have Wt0_12 := cell_later hb12 Wt0_11
  have Wt1_12 := cell_later hb12 Wt1_11
  have Gt0_12 := cell_later hb12 Gt0_11
  have Gt1_12 := cell_later hb12 Gt1_11
  have oo_12 := Hid.mk (RRows.ownBelow oo_11.out hb12)
  have ox0_12 := Hid.mk (RPairs.ownBelow ox0_11.out hb12)
  have og_12 := Hid.mk (RRows.ownBelow og_11.out hb12)
  have B_12 := B_11.trans (hb12.mono B_11.size)
  have zz12 : w11.heap.size ≤ w12.heap.size := hb12.size
  clear Wt0_11 Wt1_11 Gt0_11 Gt1_11 oo_11 ox0_11 og_11 B_11
  clear hb12
  clear ox0_12
  go_wp2_with fail
  refine (markTableau_rows (From (w5.heap.size) (w6.heap.size)) pa _ na _ ta 1 _ hnA HSA.out.sum (by omega) (by omega) og_12.out).mono ?_
  rintro e w13 ⟨rfl, ho13, hg13⟩
  rw [HVA.out]
  have og_13 := Hid.mk ho13
  clear ho13
  have Wt0_13 := hg13.cell Wt0_12 (show ¬ From (w5.heap.size) (w6.heap.size) (w3.heap.size) from fun h => by have h1 := h.1; have h2 := h.2; omega)
  have Wt1_13 := hg13.cell Wt1_12 (show ¬ From (w5.heap.size) (w6.heap.size) (w3.heap.size) from fun h => by have h1 := h.1; have h2 := h.2; omega)
  have Gt0_13 := hg13.cell Gt0_12 (show ¬ From (w5.heap.size) (w6.heap.size) (w6.heap.size) from fun h => by have h1 := h.1; have h2 := h.2; omega)
  have Gt1_13 := hg13.cell Gt1_12 (show ¬ From (w5.heap.size) (w6.heap.size) (w6.heap.size) from fun h => by have h1 := h.1; have h2 := h.2; omega)
  have oo_13 := Hid.mk (RRows.ownOff oo_12.out hg13 (fun b h1 h2 => by have h3 := h1.1; have h4 := h1.2; have h5 := h2.1; have h6 := h2.2; omega))
  have B_13 := B_12.trans (hg13.toBelow (by omega) B_12.size)
  have zz13 : w12.heap.size ≤ w13.heap.size := hg13.size
  clear Wt0_12 Wt1_12 Gt0_12 Gt1_12 oo_12 og_12 B_12
  clear hg13
  have gpos : ¬ (1 : Int) + (VA : Int) < 0 := by omega
  go_wp2_with fail
  refine (heldTableau_rep pa _ na _ ta 1 _ HNA.out hnA HSA.out.sum (by omega) (by omega) (RRows.atR og_13.out)).mono ?_
  rintro e w14 ⟨rfl, hb14⟩
  rw [HVA.out]
  have Wt0_14 := cell_later hb14 Wt0_13
  have Wt1_14 := cell_later hb14 Wt1_13
  have Gt0_14 := cell_later hb14 Gt0_13
  have Gt1_14 := cell_later hb14 Gt1_13
  have oo_14 := Hid.mk (RRows.ownBelow oo_13.out hb14)
  have og_14 := Hid.mk (RRows.ownBelow og_13.out hb14)
  have B_14 := B_13.trans (hb14.mono B_13.size)
  have zz14 : w13.heap.size ≤ w14.heap.size := hb14.size
  clear Wt0_13 Wt1_13 Gt0_13 Gt1_13 oo_13 og_13 B_13
  clear hb14
  go_wp2_with fail
  refine (toPairs_rep a0 n0 c0 z0 _ HZ0.out hsn0 HSM0.out.each (AtS.below HA0.out B_14)).mono ?_
  rintro e w15 ⟨g15, rfl, ho15, hb15⟩
  have oh0_15 := Hid.mk ho15
  clear ho15
  have Wt0_15 := cell_later hb15 Wt0_14
  have Wt1_15 := cell_later hb15 Wt1_14
  have Gt0_15 := cell_later hb15 Gt0_14
  have Gt1_15 := cell_later hb15 Gt1_14
  have oo_15 := Hid.mk (RRows.ownBelow oo_14.out hb15)
  have og_15 := Hid.mk (RRows.ownBelow og_14.out hb15)
  have B_15 := B_14.trans (hb15.mono B_14.size)
  have zz15 : w14.heap.size ≤ w15.heap.size := hb15.size
  clear Wt0_14 Wt1_14 Gt0_14 Gt1_14 oo_14 og_14 B_14
  clear hb15
  go_wp2_with fail
  refine (HI.out _ _ _ oh0_15.out (TabIs.below HTAB.out B_15)).mono ?_
  rintro e w16 ⟨⟨r16, m16, d16, rfl, ho16⟩, hb16⟩
  clear oh0_15
  obtain rfl : na = m16 := HNA.out.symm.trans (RRows.atS ho16).1
  have ohg_16 := Hid.mk ho16
  clear ho16
  have Wt0_16 := cell_later hb16 Wt0_15
  have Wt1_16 := cell_later hb16 Wt1_15
  have Gt0_16 := cell_later hb16 Gt0_15
  have Gt1_16 := cell_later hb16 Gt1_15
  have oo_16 := Hid.mk (RRows.ownBelow oo_15.out hb16)
  have og_16 := Hid.mk (RRows.ownBelow og_15.out hb16)
  have B_16 := B_15.trans (hb16.mono B_15.size)
  have zz16 : w15.heap.size ≤ w16.heap.size := hb16.size
  clear Wt0_15 Wt1_15 Gt0_15 Gt1_15 oo_15 og_15 B_15
  clear hb16
  obtain ⟨w17, hU17⟩ : ∃ u, u = w16.alloc (.cells #[.int .i64 pa, .slice r16 na d16] 26) := ⟨_, rfl⟩
  have hb17 : Below w16.heap.size w16 w17 := by rw [hU17]; exact (Below.refl _ _).alloc (Nat.le_refl _) _
  have zl17 : w16.heap.size < w17.heap.size := by rw [hU17]; simp
  have nHt0 : w17.cell? ⟨w16.heap.size, 0, none⟩ = some (.int .i64 pa) := by rw [hU17]; simp
  have nHt1 : w17.cell? ⟨w16.heap.size, 1, none⟩ = some (.slice r16 na d16) := by rw [hU17]; simp
  have Wt0_17 := cell_later hb17 Wt0_16
  have Wt1_17 := cell_later hb17 Wt1_16
  have Gt0_17 := cell_later hb17 Gt0_16
  have Gt1_17 := cell_later hb17 Gt1_16
  have oo_17 := Hid.mk (RRows.ownBelow oo_16.out hb17)
  have og_17 := Hid.mk (RRows.ownBelow og_16.out hb17)
  have ohg_17 := Hid.mk (RRows.ownBelow ohg_16.out hb17)
  have B_17 := B_16.trans (hb17.mono B_16.size)
  have zz17 : w16.heap.size ≤ w17.heap.size := hb17.size
  clear Wt0_16 Wt1_16 Gt0_16 Gt1_16 oo_16 og_16 ohg_16 B_16
  clear hb17
  have xWt0 := Wt0_17
  rw [hU17] at xWt0
  have xWt1 := Wt1_17
  rw [hU17] at xWt1
  have xGt0 := Gt0_17
  rw [hU17] at xGt0
  have xGt1 := Gt1_17
  rw [hU17] at xGt1
  have xHt0 := nHt0
  rw [hU17] at xHt0
  have xHt1 := nHt1
  rw [hU17] at xHt1
  go_wp2_with fail
  rw [← hU17]
  clear hU17
  clear xWt0 xWt1 xGt0 xGt1 xHt0 xHt1
  refine (eqTableau_same pa _ _ na _ _ ta _ HSA.out (RRows.atS ohg_17.out).2 (RRows.atS oo_17.out).2).mono ?_
  rintro e w18 ⟨rfl, hb18⟩
  have Wt0_18 := cell_later hb18 Wt0_17
  have Wt1_18 := cell_later hb18 Wt1_17
  have Gt0_18 := cell_later hb18 Gt0_17
  have Gt1_18 := cell_later hb18 Gt1_17
  have Ht0_18 := cell_later hb18 nHt0
  have Ht1_18 := cell_later hb18 nHt1
  have oo_18 := Hid.mk (RRows.ownBelow oo_17.out hb18)
  have og_18 := Hid.mk (RRows.ownBelow og_17.out hb18)
  have ohg_18 := Hid.mk (RRows.ownBelow ohg_17.out hb18)
  have B_18 := B_17.trans (hb18.mono B_17.size)
  have zz18 : w17.heap.size ≤ w18.heap.size := hb18.size
  clear Wt0_17 Wt1_17 Gt0_17 Gt1_17 nHt0 nHt1 oo_17 og_17 ohg_17 B_17
  clear hb18
  go_wp2_with fail
  refine (heldTableau_rep pa _ na _ ta 1 _ HNA.out hnA HSA.out.sum (by omega) (by omega) (RRows.atR og_18.out)).mono ?_
  rintro e w19 ⟨rfl, hb19⟩
  rw [HVA.out]
  have Wt0_19 := cell_later hb19 Wt0_18
  have Wt1_19 := cell_later hb19 Wt1_18
  have Gt0_19 := cell_later hb19 Gt0_18
  have Gt1_19 := cell_later hb19 Gt1_18
  have Ht0_19 := cell_later hb19 Ht0_18
  have Ht1_19 := cell_later hb19 Ht1_18
  have oo_19 := Hid.mk (RRows.ownBelow oo_18.out hb19)
  have og_19 := Hid.mk (RRows.ownBelow og_18.out hb19)
  have ohg_19 := Hid.mk (RRows.ownBelow ohg_18.out hb19)
  have B_19 := B_18.trans (hb19.mono B_18.size)
  have zz19 : w18.heap.size ≤ w19.heap.size := hb19.size
  clear Wt0_18 Wt1_18 Gt0_18 Gt1_18 Ht0_18 Ht1_18 oo_18 og_18 ohg_18 B_18
  clear hb19
  go_wp2
  go_ret
  exact ⟨rfl, B_19⟩

end Go.Proofs.YthliamoeplgblaaDoor
