/- The law FnExactEdgesOf returns true at every input, and writes nothing that was there. -/
import Derived.Test.YtipgepienagplaaEdI
import Derived.Test.YtipgepienagplaaEdS
import Derived.Test.YtipgepienagplaaQrM
import Derived.Test.YtipgepienagplaaPairM
namespace Go.Proofs.Ytipgepienagplaa
open Go.RowKit

set_option maxRecDepth 100000 in
set_option maxHeartbeats 16000000 in
theorem lawEdgesOf (fa0 : Option Addr) (fn0 fc0 : Nat) (ta0 : Option Addr) (tn0 tc0 : Nat) (z0 : Qry) (a1 : Option Addr) (n1 c1 : Nat) (z1 : List Int) (w : World) (ha0 : RQry.At w [.slice fa0 fn0 fc0, .slice ta0 tn0 tc0] z0) (hz1 : z1.length = n1) (hn1 : n1 ≤ 9223372036854775807) (ha1 : At w a1 z1) :
    Calls Try.prog 7 #[.agg #[.slice fa0 fn0 fc0, .slice ta0 tn0 tc0], .slice a1 n1 c1] w fun e w' => e = .returned (.bool true) ∧ Below w.heap.size w w' := by
  obtain ⟨zf0, zt0⟩ := z0
  obtain ⟨⟨h10, h20, h30, _⟩, ⟨k10, k20, k30, _⟩⟩ := RQry.at_iff ha0
  have HA0 := Hid.mk (And.intro h30 k30)
  have HZ0 : Hid (zf0.length = fn0 ∧ zt0.length = tn0) := ⟨h10, k10⟩
  clear ha0 h10 h30 k10 k30
  have HA1 := Hid.mk ha1
  have HZ1 := Hid.mk hz1
  clear ha1 hz1
  obtain ⟨W, hW⟩ : ∃ W, W = w.alloc (.cells #[.slice fa0 fn0 fc0, .slice ta0 tn0 tc0] 25) := ⟨_, rfl⟩
  have B0 : Below w.heap.size w W := by rw [hW]; exact (Below.refl _ _).alloc (Nat.le_refl _) _
  have zW : w.heap.size < W.heap.size := by rw [hW]; simp
  have p00_0 : W.cell? ⟨w.heap.size, 0, none⟩ = some (.slice fa0 fn0 fc0) := by rw [hW]; simp
  have p01_0 : W.cell? ⟨w.heap.size, 1, none⟩ = some (.slice ta0 tn0 tc0) := by rw [hW]; simp
  by_cases big1 : 1048576 < n1
  · have big1' : (1048576 : Int) < (n1 : Int) := by omega
    go_enter Try.func7, Try.ntmps7
    go_wp2
    go_ret
    exact ⟨rfl, by rw [← hW]; exact B0⟩
  have hb1' : ¬ (1048576 : Int) < (n1 : Int) := by omega
  have hsn1 : n1 ≤ 1048576 := by omega
  have HVB1 := hsn1
  obtain ⟨C0, hC0⟩ : ∃ C : Nat, qcost (zf0, zt0) = C := ⟨_, rfl⟩
  have HC0 := Hid.mk hC0
  clear hC0
  by_cases big0 : (1048576 : Int) < (C0 : Int)
  · go_enter Try.func7, Try.ntmps7
    go_wp2_with fail
    rw [← hW]
    clear hW
    refine (szQuery_any fa0 fn0 fc0 ta0 tn0 tc0 zf0 zt0 _ _ HZ0.out.1 h20 HZ0.out.2 k20 (by omega) (by omega) (AtSl.below HA0.out.2 B0)).mono ?_
    rintro e v0 ⟨rfl, hv0⟩
    rw [HC0.out, leftOf_no big0]
    have y0 := B0.trans (hv0.mono B0.size)
    go_wp2
    go_ret
    exact ⟨rfl, y0⟩
  have hl0 : ¬ (1048576 : Int) - (C0 : Int) < 0 := by omega
  have HSM0 : Hid (fn0 ≤ 1048576 ∧ SmA zt0 tn0 ∧ qmk (zf0, zt0) ≤ 1048576) := qry_small HZ0.out.1 HZ0.out.2 (by have := HC0.out; omega)
  have hs10 := HSM0.out.1
  have hs20 : tn0 ≤ 1048576 := HSM0.out.2.1.n
  have HVB0 := HSM0.out.2.2
  obtain ⟨V0, hV0⟩ : ∃ V : Nat, qmk (zf0, zt0) = V := ⟨_, rfl⟩
  rw [hV0] at HVB0
  have HV0 := Hid.mk hV0
  clear hV0
  obtain ⟨ok, ta, hsA, HS, HI⟩ : ∃ (ok : Bool) (ta : List (List Int)), SmK ta ta.length ∧ Hid (∀ (x0 y0 : Nat) (x1 : Nat) (w : World) (F0 F1 : Nat → Prop), RQry.Own w F0 [.slice (some ⟨x0, 0, none⟩) fn0 fn0, .slice (some ⟨y0, 0, none⟩) tn0 tn0] (zf0, zt0) → RInts.Own w F1 [.slice (some ⟨x1, 0, none⟩) n1 n1] z1 → Calls Try.prog 43 #[.agg #[.slice (some ⟨x0, 0, none⟩) fn0 fn0, .slice (some ⟨y0, 0, none⟩) tn0 tn0], .slice (some ⟨x1, 0, none⟩) n1 n1] w fun e w' => KeysRet e w' w.heap.size ok ta ∧ Below w.heap.size w w') ∧ Hid (∀ (x0 y0 : Nat) (x1 : Nat) (w : World) (F0 F1 : Nat → Prop), RQry.Own w F0 [.slice (some ⟨x0, 0, none⟩) fn0 fn0, .slice (some ⟨y0, 0, none⟩) tn0 tn0] (zf0, zt0) → RInts.Own w F1 [.slice (some ⟨x1, 0, none⟩) n1 n1] z1 → Calls Try.prog 44 #[.agg #[.slice (some ⟨x0, 0, none⟩) fn0 fn0, .slice (some ⟨y0, 0, none⟩) tn0 tn0], .slice (some ⟨x1, 0, none⟩) n1 n1] w fun e w' => KeysRet e w' w.heap.size ok ta ∧ Below w.heap.size w w') := ⟨gqB zf0 zt0 z1, edL zf0 zt0 z1, ed_small zf0 zt0 z1, fun x0 y0 x1 w F0 F1 o0 o1 => specEdgesOf (some ⟨x0, 0, none⟩) fn0 fn0 zf0 (some ⟨y0, 0, none⟩) tn0 tn0 zt0 (some ⟨x1, 0, none⟩) n1 n1 z1 w HZ0.out.1 h20 (qry_at o0).1 HZ0.out.2 k20 (qry_at o0).2 HZ1.out hn1 (ints_at o1), fun x0 y0 x1 w F0 F1 o0 o1 => implEdgesOf (some ⟨x0, 0, none⟩) fn0 fn0 zf0 (some ⟨y0, 0, none⟩) tn0 tn0 zt0 (some ⟨x1, 0, none⟩) n1 n1 z1 w HZ0.out.1 h20 (qry_at o0).1 HZ0.out.2 k20 (qry_at o0).2 HZ1.out hn1 (ints_at o1)⟩
  obtain ⟨na, hna⟩ : ∃ na, ta.length = na := ⟨_, rfl⟩
  rw [hna] at hsA
  have hnA : na ≤ 1048576 := by have := hsA.2.1; omega
  have hvA := hsA.2.2.2
  have HSA := Hid.mk hsA
  obtain ⟨VA, hVA⟩ : ∃ V : Nat, tot ta na = V := ⟨_, rfl⟩
  rw [hVA] at hvA
  have HVA := Hid.mk hVA
  have HNA := Hid.mk hna
  clear hna hVA hsA
  go_enter Try.func7, Try.ntmps7
  go_wp2_with fail
  rw [← hW]
  clear hW
  refine (szQuery_any fa0 fn0 fc0 ta0 tn0 tc0 zf0 zt0 _ _ HZ0.out.1 h20 HZ0.out.2 k20 (by omega) (by omega) (AtSl.below HA0.out.2 B0)).mono ?_
  rintro e w1 ⟨rfl, hb1⟩
  rw [HC0.out, leftOf_yes (by omega)]
  have p00_1 := cell_later hb1 p00_0
  have p01_1 := cell_later hb1 p01_0
  have B_1 := B0.trans (hb1.mono B0.size)
  have zz1 : W.heap.size ≤ w1.heap.size := hb1.size
  clear p00_0 p01_0
  clear hb1
  go_wp2_with fail
  refine (toQuery_any fa0 fn0 fc0 ta0 tn0 tc0 zf0 zt0 _ HZ0.out.1 HZ0.out.2 hs10 hs20 (fun _ _ h => HSM0.out.2.1.each h) (At.below HA0.out.1 B_1) (AtSl.below HA0.out.2 B_1)).mono ?_
  rintro e w2 ⟨g2_1, g2_2, rfl, ho2, hb2⟩
  have ot0_2 := Hid.mk ho2
  clear ho2
  have p00_2 := cell_later hb2 p00_1
  have p01_2 := cell_later hb2 p01_1
  have B_2 := B_1.trans (hb2.mono B_1.size)
  have zz2 : w1.heap.size ≤ w2.heap.size := hb2.size
  clear p00_1 p01_1 B_1
  clear hb2
  go_wp2_with fail
  refine (toInts_rep a1 n1 c1 z1 _ HZ1.out hsn1 (At.below HA1.out B_2)).mono ?_
  rintro e w3 ⟨g3, rfl, ho3, hb3⟩
  have ot1_3 := Hid.mk ho3
  clear ho3
  have p00_3 := cell_later hb3 p00_2
  have p01_3 := cell_later hb3 p01_2
  have ot0_3 := Hid.mk (RQry.ownBelow ot0_2.out hb3)
  have B_3 := B_2.trans (hb3.mono B_2.size)
  have zz3 : w2.heap.size ≤ w3.heap.size := hb3.size
  clear p00_2 p01_2 ot0_2 B_2
  clear hb3
  go_wp2_with fail
  refine (HS.out _ _ _ _ _ _ ot0_3.out ot1_3.out).mono ?_
  rintro e w4 ⟨⟨r4, m4, d4, rfl, ho4⟩, hb4⟩
  clear ot0_3
  clear ot1_3
  obtain rfl : na = m4 := HNA.out.symm.trans (pairs_at ho4).1
  have oo_4 := Hid.mk ho4
  clear ho4
  have p00_4 := cell_later hb4 p00_3
  have p01_4 := cell_later hb4 p01_3
  have B_4 := B_3.trans (hb4.mono B_3.size)
  have zz4 : w3.heap.size ≤ w4.heap.size := hb4.size
  clear p00_3 p01_3 B_3
  clear hb4
  go_wp2_with fail
  refine (toQuery_any fa0 fn0 fc0 ta0 tn0 tc0 zf0 zt0 _ HZ0.out.1 HZ0.out.2 hs10 hs20 (fun _ _ h => HSM0.out.2.1.each h) (At.below HA0.out.1 B_4) (AtSl.below HA0.out.2 B_4)).mono ?_
  rintro e w5 ⟨g5_1, g5_2, rfl, ho5, hb5⟩
  have ox0_5 := Hid.mk ho5
  clear ho5
  have p00_5 := cell_later hb5 p00_4
  have p01_5 := cell_later hb5 p01_4
  have oo_5 := Hid.mk (RPairs.ownBelow oo_4.out hb5)
  have B_5 := B_4.trans (hb5.mono B_4.size)
  have zz5 : w4.heap.size ≤ w5.heap.size := hb5.size
  clear p00_4 p01_4 oo_4 B_4
  clear hb5
  obtain ⟨w6, hU6⟩ : ∃ u, u = w5.alloc (.cells #[.slice (some ⟨g5_1, 0, none⟩) fn0 fn0, .slice (some ⟨g5_2, 0, none⟩) tn0 tn0] 34) := ⟨_, rfl⟩
  have hb6 : Below w5.heap.size w5 w6 := by rw [hU6]; exact (Below.refl _ _).alloc (Nat.le_refl _) _
  have zl6 : w5.heap.size < w6.heap.size := by rw [hU6]; simp
  have nX00 : w6.cell? ⟨w5.heap.size, 0, none⟩ = some (.slice (some ⟨g5_1, 0, none⟩) fn0 fn0) := by rw [hU6]; simp
  have nX01 : w6.cell? ⟨w5.heap.size, 1, none⟩ = some (.slice (some ⟨g5_2, 0, none⟩) tn0 tn0) := by rw [hU6]; simp
  have p00_6 := cell_later hb6 p00_5
  have p01_6 := cell_later hb6 p01_5
  have oo_6 := Hid.mk (RPairs.ownBelow oo_5.out hb6)
  have ox0_6 := Hid.mk (RQry.ownBelow ox0_5.out hb6)
  have B_6 := B_5.trans (hb6.mono B_5.size)
  have zz6 : w5.heap.size ≤ w6.heap.size := hb6.size
  clear p00_5 p01_5 oo_5 ox0_5 B_5
  clear hb6
  have xp00 := p00_6
  rw [hU6] at xp00
  have xp01 := p01_6
  rw [hU6] at xp01
  have xX00 := nX00
  rw [hU6] at xX00
  have xX01 := nX01
  rw [hU6] at xX01
  go_wp2_with fail
  rw [← hU6]
  clear hU6
  clear xp00 xp01 xX00 xX01
  refine (toInts_rep a1 n1 c1 z1 _ HZ1.out hsn1 (At.below HA1.out B_6)).mono ?_
  rintro e w7 ⟨g7, rfl, ho7, hb7⟩
  have ox1_7 := Hid.mk ho7
  clear ho7
  have p00_7 := cell_later hb7 p00_6
  have p01_7 := cell_later hb7 p01_6
  have X00_7 := cell_later hb7 nX00
  have X01_7 := cell_later hb7 nX01
  have oo_7 := Hid.mk (RPairs.ownBelow oo_6.out hb7)
  have ox0_7 := Hid.mk (RQry.ownBelow ox0_6.out hb7)
  have B_7 := B_6.trans (hb7.mono B_6.size)
  have zz7 : w6.heap.size ≤ w7.heap.size := hb7.size
  clear p00_6 p01_6 nX00 nX01 oo_6 ox0_6 B_6
  clear hb7
  go_wp2_with fail
  refine (HI.out _ _ _ _ _ _ ox0_7.out ox1_7.out).mono ?_
  rintro e w8 ⟨⟨r8, m8, d8, rfl, ho8⟩, hb8⟩
  obtain rfl : na = m8 := HNA.out.symm.trans (pairs_at ho8).1
  have og_8 := Hid.mk ho8
  clear ho8
  have p00_8 := cell_later hb8 p00_7
  have p01_8 := cell_later hb8 p01_7
  have X00_8 := cell_later hb8 X00_7
  have X01_8 := cell_later hb8 X01_7
  have oo_8 := Hid.mk (RPairs.ownBelow oo_7.out hb8)
  have ox0_8 := Hid.mk (RQry.ownBelow ox0_7.out hb8)
  have ox1_8 := Hid.mk (RInts.ownBelow ox1_7.out hb8)
  have B_8 := B_7.trans (hb8.mono B_7.size)
  have zz8 : w7.heap.size ≤ w8.heap.size := hb8.size
  clear p00_7 p01_7 X00_7 X01_7 oo_7 ox0_7 ox1_7 B_7
  clear hb8
  go_wp2_with fail
  refine (eqIntSS_same _ _ na _ _ ta _ HNA.out hnA HSA.out.2.2.1 (atSl_ints (pairs_at og_8.out).2) (atSl_ints (pairs_at oo_8.out).2)).mono ?_
  rintro e w9 ⟨rfl, hb9⟩
  have p00_9 := cell_later hb9 p00_8
  have p01_9 := cell_later hb9 p01_8
  have X00_9 := cell_later hb9 X00_8
  have X01_9 := cell_later hb9 X01_8
  have oo_9 := Hid.mk (RPairs.ownBelow oo_8.out hb9)
  have ox0_9 := Hid.mk (RQry.ownBelow ox0_8.out hb9)
  have ox1_9 := Hid.mk (RInts.ownBelow ox1_8.out hb9)
  have og_9 := Hid.mk (RPairs.ownBelow og_8.out hb9)
  have B_9 := B_8.trans (hb9.mono B_8.size)
  have zz9 : w8.heap.size ≤ w9.heap.size := hb9.size
  clear p00_8 p01_8 X00_8 X01_8 oo_8 ox0_8 ox1_8 og_8 B_8
  clear hb9
  go_wp2_with fail
  refine wp_region_held_drew (S := fun w' => w'.cell? ⟨w5.heap.size, 0, none⟩ = some (.slice (some ⟨g5_1, 0, none⟩) fn0 fn0) ∧ w'.cell? ⟨w5.heap.size, 1, none⟩ = some (.slice (some ⟨g5_2, 0, none⟩) tn0 tn0) ∧ w'.cell? ⟨w.heap.size, 0, none⟩ = some (.slice fa0 fn0 fc0) ∧ w'.cell? ⟨w.heap.size, 1, none⟩ = some (.slice ta0 tn0 tc0)) (by kernel_rfl) ?_ (fun hHeld => ?_)
  · (try dsimp only)
    exact ⟨X00_9, X01_9, p00_9, p01_9⟩
  refine tk 0 ?_
  refine tk 1 ?_
  refine wpAnyH_ready (rs := [2]) (by kernel_rfl) (by simp) ?_
  refine AllReadyH.cons (o := ?_) ?_ (fun K hK => ?_) AllReadyH.nil
  rotate_left
  · (simp only [List.getElem?_toArray, List.getElem?_cons_zero, List.getElem?_cons_succ]; rfl)
  go_simp
  go_at_call 11
  refine (toQuery_any fa0 fn0 fc0 ta0 tn0 tc0 zf0 zt0 _ HZ0.out.1 HZ0.out.2 hs10 hs20 (fun _ _ h => HSM0.out.2.1.each h) (At.below HA0.out.1 B_9.drew) (AtSl.below HA0.out.2 B_9.drew)).mono ?_
  rintro e w10 ⟨g10_1, g10_2, rfl, ho10, hd10⟩
  have hb10 : Below w9.heap.size w9 w10 := (Below.refl _ _).drew.trans hd10
  clear hd10
  have oy_10 := Hid.mk ho10
  clear ho10
  have p00_10 := cell_later hb10 p00_9
  have p01_10 := cell_later hb10 p01_9
  have X00_10 := cell_later hb10 X00_9
  have X01_10 := cell_later hb10 X01_9
  have oo_10 := Hid.mk (RPairs.ownBelow oo_9.out hb10)
  have ox0_10 := Hid.mk (RQry.ownBelow ox0_9.out hb10)
  have ox1_10 := Hid.mk (RInts.ownBelow ox1_9.out hb10)
  have og_10 := Hid.mk (RPairs.ownBelow og_9.out hb10)
  have B_10 := B_9.trans (hb10.mono B_9.size)
  have zz10 : w9.heap.size ≤ w10.heap.size := hb10.size
  clear p00_9 p01_9 X00_9 X01_9 oo_9 ox0_9 ox1_9 og_9 B_9
  clear hb10
  (try go_wp2_with fail)
  refine hK.out _ _ ?_ (fun hHeld' => ?_)
  · (try dsimp only)
    exact ⟨X00_10, X01_10, p00_10, p01_10⟩
  clear hK K hHeld
  have hHeld := hHeld'
  clear hHeld'
  (try simp only [Act.put, List.setIfInBounds_toArray, List.set_cons_zero, List.set_cons_succ])
  refine wpAnyH_ready (rs := [3]) (by kernel_rfl) (by simp) ?_
  refine AllReadyH.cons (o := ?_) ?_ (fun K hK => ?_) AllReadyH.nil
  rotate_left
  · (simp only [List.getElem?_toArray, List.getElem?_cons_zero, List.getElem?_cons_succ]; rfl)
  go_simp
  go_at_call 16
  refine (eqQuery_same _ _ fn0 _ _ _ _ tn0 _ _ zf0 zt0 _ HZ0.out.1 HZ0.out.2 hs10 hs20 (fun _ _ h => HSM0.out.2.1.each h) (qry_at ox0_10.out).1 (qry_at ox0_10.out).2 (qry_at oy_10.out).1 (qry_at oy_10.out).2).mono ?_
  rintro e w11 ⟨rfl, hb11⟩
  clear oy_10
  have p00_11 := cell_later hb11 p00_10
  have p01_11 := cell_later hb11 p01_10
  have X00_11 := cell_later hb11 X00_10
  have X01_11 := cell_later hb11 X01_10
  have oo_11 := Hid.mk (RPairs.ownBelow oo_10.out hb11)
  have ox0_11 := Hid.mk (RQry.ownBelow ox0_10.out hb11)
  have ox1_11 := Hid.mk (RInts.ownBelow ox1_10.out hb11)
  have og_11 := Hid.mk (RPairs.ownBelow og_10.out hb11)
  have B_11 := B_10.trans (hb11.mono B_10.size)
  have zz11 : w10.heap.size ≤ w11.heap.size := hb11.size
  clear p00_10 p01_10 X00_10 X01_10 oo_10 ox0_10 ox1_10 og_10 B_10
  clear hb11
  (try go_wp2_with fail)
  refine hK.out _ _ ?_ (fun hHeld' => ?_)
  · (try dsimp only)
    exact ⟨X00_11, X01_11, p00_11, p01_11⟩
  clear hK K hHeld
  have hHeld := hHeld'
  clear hHeld'
  (try simp only [Act.put, List.setIfInBounds_toArray, List.set_cons_zero, List.set_cons_succ])
  refine tk 4 ?_
  refine wpAnyH_done (by kernel_rfl) ?_ _
  clear hHeld
  go_wp2_with fail
  refine (toInts_rep a1 n1 c1 z1 _ HZ1.out hsn1 (At.below HA1.out B_11)).mono ?_
  rintro e w12 ⟨g12, rfl, ho12, hb12⟩
  have oy_12 := Hid.mk ho12
  clear ho12
  have p00_12 := cell_later hb12 p00_11
  have p01_12 := cell_later hb12 p01_11
  have X00_12 := cell_later hb12 X00_11
  have X01_12 := cell_later hb12 X01_11
  have oo_12 := Hid.mk (RPairs.ownBelow oo_11.out hb12)
  have ox0_12 := Hid.mk (RQry.ownBelow ox0_11.out hb12)
  have ox1_12 := Hid.mk (RInts.ownBelow ox1_11.out hb12)
  have og_12 := Hid.mk (RPairs.ownBelow og_11.out hb12)
  have B_12 := B_11.trans (hb12.mono B_11.size)
  have zz12 : w11.heap.size ≤ w12.heap.size := hb12.size
  clear p00_11 p01_11 X00_11 X01_11 oo_11 ox0_11 ox1_11 og_11 B_11
  clear hb12
  go_wp2_with fail
  refine (eqIntS_same _ _ n1 _ _ z1 _ HZ1.out hsn1 (ints_at ox1_12.out) (ints_at oy_12.out)).mono ?_
  rintro e w13 ⟨rfl, hb13⟩
  clear oy_12
  have p00_13 := cell_later hb13 p00_12
  have p01_13 := cell_later hb13 p01_12
  have X00_13 := cell_later hb13 X00_12
  have X01_13 := cell_later hb13 X01_12
  have oo_13 := Hid.mk (RPairs.ownBelow oo_12.out hb13)
  have ox0_13 := Hid.mk (RQry.ownBelow ox0_12.out hb13)
  have ox1_13 := Hid.mk (RInts.ownBelow ox1_12.out hb13)
  have og_13 := Hid.mk (RPairs.ownBelow og_12.out hb13)
  have B_13 := B_12.trans (hb13.mono B_12.size)
  have zz13 : w12.heap.size ≤ w13.heap.size := hb13.size
  clear p00_12 p01_12 X00_12 X01_12 oo_12 ox0_12 ox1_12 og_12 B_12
  clear hb13
  go_wp2_with fail
  refine (markQuery_rep (From (w4.heap.size) (w5.heap.size)) _ fn0 _ _ tn0 _ zf0 zt0 _ _ hs10 hs20 HSM0.out.2.1.msum (by omega) (by omega) (fun b h => by have h2 := h.2; omega) ox0_13.out).mono ?_
  rintro e w14 ⟨rfl, ho14, hg14⟩
  rw [HV0.out]
  have ox0_14 := Hid.mk ho14
  clear ho14
  have p00_14 := hg14.cell p00_13 (show ¬ From (w4.heap.size) (w5.heap.size) (w.heap.size) from fun h => by have h1 := h.1; have h2 := h.2; omega)
  have p01_14 := hg14.cell p01_13 (show ¬ From (w4.heap.size) (w5.heap.size) (w.heap.size) from fun h => by have h1 := h.1; have h2 := h.2; omega)
  have X00_14 := hg14.cell X00_13 (show ¬ From (w4.heap.size) (w5.heap.size) (w5.heap.size) from fun h => by have h1 := h.1; have h2 := h.2; omega)
  have X01_14 := hg14.cell X01_13 (show ¬ From (w4.heap.size) (w5.heap.size) (w5.heap.size) from fun h => by have h1 := h.1; have h2 := h.2; omega)
  have oo_14 := Hid.mk (RPairs.ownOff oo_13.out hg14 (fun b h1 h2 => by have h3 := h1.1; have h4 := h1.2; have h5 := h2.1; have h6 := h2.2; omega))
  have ox1_14 := Hid.mk (RInts.ownOff ox1_13.out hg14 (fun b h1 h2 => by have h3 := h1.1; have h4 := h1.2; have h5 := h2.1; have h6 := h2.2; omega))
  have og_14 := Hid.mk (RPairs.ownOff og_13.out hg14 (fun b h1 h2 => by have h3 := h1.1; have h4 := h1.2; have h5 := h2.1; have h6 := h2.2; omega))
  have B_14 := B_13.trans (hg14.toBelow (by omega) B_13.size)
  have zz14 : w13.heap.size ≤ w14.heap.size := hg14.size
  clear p00_13 p01_13 X00_13 X01_13 oo_13 ox0_13 ox1_13 og_13 B_13
  clear hg14
  go_wp2_with fail
  refine (markInts_rep (From (w6.heap.size) (w7.heap.size)) _ n1 _ z1 _ _ hsn1 (by omega) (by omega) ox1_14.out).mono ?_
  rintro e w15 ⟨rfl, ho15, hg15⟩
  have ox1_15 := Hid.mk ho15
  clear ho15
  have p00_15 := hg15.cell p00_14 (show ¬ From (w6.heap.size) (w7.heap.size) (w.heap.size) from fun h => by have h1 := h.1; have h2 := h.2; omega)
  have p01_15 := hg15.cell p01_14 (show ¬ From (w6.heap.size) (w7.heap.size) (w.heap.size) from fun h => by have h1 := h.1; have h2 := h.2; omega)
  have X00_15 := hg15.cell X00_14 (show ¬ From (w6.heap.size) (w7.heap.size) (w5.heap.size) from fun h => by have h1 := h.1; have h2 := h.2; omega)
  have X01_15 := hg15.cell X01_14 (show ¬ From (w6.heap.size) (w7.heap.size) (w5.heap.size) from fun h => by have h1 := h.1; have h2 := h.2; omega)
  have oo_15 := Hid.mk (RPairs.ownOff oo_14.out hg15 (fun b h1 h2 => by have h3 := h1.1; have h4 := h1.2; have h5 := h2.1; have h6 := h2.2; omega))
  have ox0_15 := Hid.mk (RQry.ownOff ox0_14.out hg15 (fun b h1 h2 => by have h3 := h1.1; have h4 := h1.2; have h5 := h2.1; have h6 := h2.2; omega))
  have og_15 := Hid.mk (RPairs.ownOff og_14.out hg15 (fun b h1 h2 => by have h3 := h1.1; have h4 := h1.2; have h5 := h2.1; have h6 := h2.2; omega))
  have B_15 := B_14.trans (hg15.toBelow (by omega) B_14.size)
  have zz15 : w14.heap.size ≤ w15.heap.size := hg15.size
  clear p00_14 p01_14 X00_14 X01_14 oo_14 ox0_14 ox1_14 og_14 B_14
  clear hg15
  have kpos : ¬ (1 : Int) + (V0 : Int) + (n1 : Int) < 0 := by omega
  go_wp2_with fail
  refine (eqIntSS_same _ _ na _ _ ta _ HNA.out hnA HSA.out.2.2.1 (atSl_ints (pairs_at og_15.out).2) (atSl_ints (pairs_at oo_15.out).2)).mono ?_
  rintro e w16 ⟨rfl, hb16⟩
  have p00_16 := cell_later hb16 p00_15
  have p01_16 := cell_later hb16 p01_15
  have X00_16 := cell_later hb16 X00_15
  have X01_16 := cell_later hb16 X01_15
  have oo_16 := Hid.mk (RPairs.ownBelow oo_15.out hb16)
  have ox0_16 := Hid.mk (RQry.ownBelow ox0_15.out hb16)
  have ox1_16 := Hid.mk (RInts.ownBelow ox1_15.out hb16)
  have og_16 := Hid.mk (RPairs.ownBelow og_15.out hb16)
  have B_16 := B_15.trans (hb16.mono B_15.size)
  have zz16 : w15.heap.size ≤ w16.heap.size := hb16.size
  clear p00_15 p01_15 X00_15 X01_15 oo_15 ox0_15 ox1_15 og_15 B_15
  clear hb16
  clear ox0_16
  clear ox1_16
  go_wp2_with fail
  refine (markPairs_rep (From (w7.heap.size) (w8.heap.size)) _ na _ ta 1 _ hnA HSA.out.2.2.2 (by omega) (by omega) og_16.out).mono ?_
  rintro e w17 ⟨rfl, ho17, hg17⟩
  rw [HVA.out]
  have og_17 := Hid.mk ho17
  clear ho17
  have p00_17 := hg17.cell p00_16 (show ¬ From (w7.heap.size) (w8.heap.size) (w.heap.size) from fun h => by have h1 := h.1; have h2 := h.2; omega)
  have p01_17 := hg17.cell p01_16 (show ¬ From (w7.heap.size) (w8.heap.size) (w.heap.size) from fun h => by have h1 := h.1; have h2 := h.2; omega)
  have X00_17 := hg17.cell X00_16 (show ¬ From (w7.heap.size) (w8.heap.size) (w5.heap.size) from fun h => by have h1 := h.1; have h2 := h.2; omega)
  have X01_17 := hg17.cell X01_16 (show ¬ From (w7.heap.size) (w8.heap.size) (w5.heap.size) from fun h => by have h1 := h.1; have h2 := h.2; omega)
  have oo_17 := Hid.mk (RPairs.ownOff oo_16.out hg17 (fun b h1 h2 => by have h3 := h1.1; have h4 := h1.2; have h5 := h2.1; have h6 := h2.2; omega))
  have B_17 := B_16.trans (hg17.toBelow (by omega) B_16.size)
  have zz17 : w16.heap.size ≤ w17.heap.size := hg17.size
  clear p00_16 p01_16 X00_16 X01_16 oo_16 og_16 B_16
  clear hg17
  have gpos : ¬ (1 : Int) + (VA : Int) < 0 := by omega
  go_wp2_with fail
  refine (heldPairs_rep _ na _ ta 1 _ HNA.out hnA HSA.out.2.2.2 (by omega) (by omega) (pairs_at og_17.out).2).mono ?_
  rintro e w18 ⟨rfl, hb18⟩
  rw [HVA.out]
  have p00_18 := cell_later hb18 p00_17
  have p01_18 := cell_later hb18 p01_17
  have X00_18 := cell_later hb18 X00_17
  have X01_18 := cell_later hb18 X01_17
  have oo_18 := Hid.mk (RPairs.ownBelow oo_17.out hb18)
  have og_18 := Hid.mk (RPairs.ownBelow og_17.out hb18)
  have B_18 := B_17.trans (hb18.mono B_17.size)
  have zz18 : w17.heap.size ≤ w18.heap.size := hb18.size
  clear p00_17 p01_17 X00_17 X01_17 oo_17 og_17 B_17
  clear hb18
  go_wp2_with fail
  refine (toQuery_any fa0 fn0 fc0 ta0 tn0 tc0 zf0 zt0 _ HZ0.out.1 HZ0.out.2 hs10 hs20 (fun _ _ h => HSM0.out.2.1.each h) (At.below HA0.out.1 B_18) (AtSl.below HA0.out.2 B_18)).mono ?_
  rintro e w19 ⟨g19_1, g19_2, rfl, ho19, hb19⟩
  have oh0_19 := Hid.mk ho19
  clear ho19
  have p00_19 := cell_later hb19 p00_18
  have p01_19 := cell_later hb19 p01_18
  have X00_19 := cell_later hb19 X00_18
  have X01_19 := cell_later hb19 X01_18
  have oo_19 := Hid.mk (RPairs.ownBelow oo_18.out hb19)
  have og_19 := Hid.mk (RPairs.ownBelow og_18.out hb19)
  have B_19 := B_18.trans (hb19.mono B_18.size)
  have zz19 : w18.heap.size ≤ w19.heap.size := hb19.size
  clear p00_18 p01_18 X00_18 X01_18 oo_18 og_18 B_18
  clear hb19
  go_wp2_with fail
  refine (toInts_rep a1 n1 c1 z1 _ HZ1.out hsn1 (At.below HA1.out B_19)).mono ?_
  rintro e w20 ⟨g20, rfl, ho20, hb20⟩
  have oh1_20 := Hid.mk ho20
  clear ho20
  have p00_20 := cell_later hb20 p00_19
  have p01_20 := cell_later hb20 p01_19
  have X00_20 := cell_later hb20 X00_19
  have X01_20 := cell_later hb20 X01_19
  have oo_20 := Hid.mk (RPairs.ownBelow oo_19.out hb20)
  have og_20 := Hid.mk (RPairs.ownBelow og_19.out hb20)
  have oh0_20 := Hid.mk (RQry.ownBelow oh0_19.out hb20)
  have B_20 := B_19.trans (hb20.mono B_19.size)
  have zz20 : w19.heap.size ≤ w20.heap.size := hb20.size
  clear p00_19 p01_19 X00_19 X01_19 oo_19 og_19 oh0_19 B_19
  clear hb20
  go_wp2_with fail
  refine (HI.out _ _ _ _ _ _ oh0_20.out oh1_20.out).mono ?_
  rintro e w21 ⟨⟨r21, m21, d21, rfl, ho21⟩, hb21⟩
  clear oh0_20
  clear oh1_20
  obtain rfl : na = m21 := HNA.out.symm.trans (pairs_at ho21).1
  have ohg_21 := Hid.mk ho21
  clear ho21
  have p00_21 := cell_later hb21 p00_20
  have p01_21 := cell_later hb21 p01_20
  have X00_21 := cell_later hb21 X00_20
  have X01_21 := cell_later hb21 X01_20
  have oo_21 := Hid.mk (RPairs.ownBelow oo_20.out hb21)
  have og_21 := Hid.mk (RPairs.ownBelow og_20.out hb21)
  have B_21 := B_20.trans (hb21.mono B_20.size)
  have zz21 : w20.heap.size ≤ w21.heap.size := hb21.size
  clear p00_20 p01_20 X00_20 X01_20 oo_20 og_20 B_20
  clear hb21
  go_wp2_with fail
  refine (eqIntSS_same _ _ na _ _ ta _ HNA.out hnA HSA.out.2.2.1 (atSl_ints (pairs_at ohg_21.out).2) (atSl_ints (pairs_at oo_21.out).2)).mono ?_
  rintro e w22 ⟨rfl, hb22⟩
  have p00_22 := cell_later hb22 p00_21
  have p01_22 := cell_later hb22 p01_21
  have X00_22 := cell_later hb22 X00_21
  have X01_22 := cell_later hb22 X01_21
  have oo_22 := Hid.mk (RPairs.ownBelow oo_21.out hb22)
  have og_22 := Hid.mk (RPairs.ownBelow og_21.out hb22)
  have ohg_22 := Hid.mk (RPairs.ownBelow ohg_21.out hb22)
  have B_22 := B_21.trans (hb22.mono B_21.size)
  have zz22 : w21.heap.size ≤ w22.heap.size := hb22.size
  clear p00_21 p01_21 X00_21 X01_21 oo_21 og_21 ohg_21 B_21
  clear hb22
  go_wp2_with fail
  refine (heldPairs_rep _ na _ ta 1 _ HNA.out hnA HSA.out.2.2.2 (by omega) (by omega) (pairs_at og_22.out).2).mono ?_
  rintro e w23 ⟨rfl, hb23⟩
  rw [HVA.out]
  have p00_23 := cell_later hb23 p00_22
  have p01_23 := cell_later hb23 p01_22
  have X00_23 := cell_later hb23 X00_22
  have X01_23 := cell_later hb23 X01_22
  have oo_23 := Hid.mk (RPairs.ownBelow oo_22.out hb23)
  have og_23 := Hid.mk (RPairs.ownBelow og_22.out hb23)
  have ohg_23 := Hid.mk (RPairs.ownBelow ohg_22.out hb23)
  have B_23 := B_22.trans (hb23.mono B_22.size)
  have zz23 : w22.heap.size ≤ w23.heap.size := hb23.size
  clear p00_22 p01_22 X00_22 X01_22 oo_22 og_22 ohg_22 B_22
  clear hb23
  go_wp2
  go_ret
  exact ⟨rfl, B_23⟩

end Go.Proofs.Ytipgepienagplaa
