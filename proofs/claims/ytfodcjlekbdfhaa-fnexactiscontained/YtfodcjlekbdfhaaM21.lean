/- The law FnExactIsContained returns true at every input, and writes nothing that was there. -/
import Derived.Test.YtfodcjlekbdfhaaM14
import Derived.Test.YtfodcjlekbdfhaaM19
import Derived.Test.YtfodcjlekbdfhaaM20
namespace Go.Proofs.Ytfodcjlekbdfhaa
open Go.RowKit

set_option maxRecDepth 100000 in
set_option maxHeartbeats 16000000 in
theorem lawIsContained (fa0 : Option Addr) (fn0 fc0 : Nat) (ta0 : Option Addr) (tn0 tc0 : Nat) (z0 : Qry) (fa1 : Option Addr) (fn1 fc1 : Nat) (ta1 : Option Addr) (tn1 tc1 : Nat) (z1 : Qry) (a2 : Option Addr) (n2 c2 : Nat) (z2 : List Int) (w : World) (ha0 : RQry.At w [.slice fa0 fn0 fc0, .slice ta0 tn0 tc0] z0) (ha1 : RQry.At w [.slice fa1 fn1 fc1, .slice ta1 tn1 tc1] z1) (hz2 : z2.length = n2) (hn2 : n2 ≤ 9223372036854775807) (ha2 : At w a2 z2) :
    Calls Try.prog 4 #[.agg #[.slice fa0 fn0 fc0, .slice ta0 tn0 tc0], .agg #[.slice fa1 fn1 fc1, .slice ta1 tn1 tc1], .slice a2 n2 c2] w fun e w' => e = .returned (.bool true) ∧ Below w.heap.size w w' := by
  obtain ⟨zf0, zt0⟩ := z0
  obtain ⟨⟨h10, h20, h30, _⟩, ⟨k10, k20, k30, _⟩⟩ := RQry.at_iff ha0
  have HA0 := Hid.mk (And.intro h30 k30)
  have HZ0 : Hid (zf0.length = fn0 ∧ zt0.length = tn0) := ⟨h10, k10⟩
  clear ha0 h10 h30 k10 k30
  obtain ⟨zf1, zt1⟩ := z1
  obtain ⟨⟨h11, h21, h31, _⟩, ⟨k11, k21, k31, _⟩⟩ := RQry.at_iff ha1
  have HA1 := Hid.mk (And.intro h31 k31)
  have HZ1 : Hid (zf1.length = fn1 ∧ zt1.length = tn1) := ⟨h11, k11⟩
  clear ha1 h11 h31 k11 k31
  have HA2 := Hid.mk ha2
  have HZ2 := Hid.mk hz2
  clear ha2 hz2
  obtain ⟨W, hW⟩ : ∃ W, W = (w.alloc (.cells #[.slice fa0 fn0 fc0, .slice ta0 tn0 tc0] 25)).alloc (.cells #[.slice fa1 fn1 fc1, .slice ta1 tn1 tc1] 25) := ⟨_, rfl⟩
  have B0 : Below w.heap.size w W := by rw [hW]; exact ((Below.refl _ _).alloc (Nat.le_refl _) _).alloc (by simp) _
  have zW : w.heap.size + 1 < W.heap.size := by rw [hW]; simp
  have p00_0 : W.cell? ⟨w.heap.size, 0, none⟩ = some (.slice fa0 fn0 fc0) := by rw [hW]; simp
  have p01_0 : W.cell? ⟨w.heap.size, 1, none⟩ = some (.slice ta0 tn0 tc0) := by rw [hW]; simp
  have p10_0 : W.cell? ⟨w.heap.size + 1, 0, none⟩ = some (.slice fa1 fn1 fc1) := by rw [hW]; simp
  have p11_0 : W.cell? ⟨w.heap.size + 1, 1, none⟩ = some (.slice ta1 tn1 tc1) := by rw [hW]; simp
  by_cases big2 : 1048576 < n2
  · have big2' : (1048576 : Int) < (n2 : Int) := by omega
    go_enter Try.func4, Try.ntmps4
    go_wp2
    go_ret
    exact ⟨rfl, by rw [← hW]; exact B0⟩
  have hb2' : ¬ (1048576 : Int) < (n2 : Int) := by omega
  have hsn2 : n2 ≤ 1048576 := by omega
  have HVB2 := hsn2
  obtain ⟨C0, hC0⟩ : ∃ C : Nat, qcost (zf0, zt0) = C := ⟨_, rfl⟩
  have HC0 := Hid.mk hC0
  clear hC0
  obtain ⟨C1, hC1⟩ : ∃ C : Nat, qcost (zf1, zt1) = C := ⟨_, rfl⟩
  have HC1 := Hid.mk hC1
  clear hC1
  by_cases big0 : (1048576 : Int) < (C0 : Int)
  · go_enter Try.func4, Try.ntmps4
    go_wp2_with fail
    rw [← hW]
    clear hW
    refine (szQuery_any fa0 fn0 fc0 ta0 tn0 tc0 zf0 zt0 _ _ HZ0.out.1 h20 HZ0.out.2 k20 (by omega) (by omega) (AtSl.below HA0.out.2 B0)).mono ?_
    rintro e v0 ⟨rfl, hv0⟩
    rw [HC0.out, leftOf_no big0]
    have y0 := B0.trans (hv0.mono B0.size)
    go_wp2
    go_ret
    exact ⟨rfl, y0⟩
  have hl0 : ¬ (1048576 : Int) - (C0 : Int) < 0 := by omega
  have HSM0 : Hid (fn0 ≤ 1048576 ∧ SmA zt0 tn0 ∧ qmk (zf0, zt0) ≤ 1048576) := qry_small HZ0.out.1 HZ0.out.2 (by have := HC0.out; omega)
  have hs10 := HSM0.out.1
  have hs20 : tn0 ≤ 1048576 := HSM0.out.2.1.n
  have HVB0 := HSM0.out.2.2
  by_cases big1 : (1048576 : Int) - (C0 : Int) < (C1 : Int)
  · go_enter Try.func4, Try.ntmps4
    go_wp2_with fail
    rw [← hW]
    clear hW
    refine (szQuery_any fa0 fn0 fc0 ta0 tn0 tc0 zf0 zt0 _ _ HZ0.out.1 h20 HZ0.out.2 k20 (by omega) (by omega) (AtSl.below HA0.out.2 B0)).mono ?_
    rintro e v0 ⟨rfl, hv0⟩
    rw [HC0.out, leftOf_yes (by omega)]
    have y0 := B0.trans (hv0.mono B0.size)
    have qp00_0 := cell_later hv0 p00_0
    have qp01_0 := cell_later hv0 p01_0
    have qp10_0 := cell_later hv0 p10_0
    have qp11_0 := cell_later hv0 p11_0
    go_wp2_with fail
    refine (szQuery_any fa1 fn1 fc1 ta1 tn1 tc1 zf1 zt1 _ _ HZ1.out.1 h21 HZ1.out.2 k21 (by omega) (by omega) (AtSl.below HA1.out.2 y0)).mono ?_
    rintro e v1 ⟨rfl, hv1⟩
    rw [HC1.out, leftOf_no big1]
    have y1 := y0.trans (hv1.mono y0.size)
    go_wp2
    go_ret
    exact ⟨rfl, y1⟩
  have hl1 : ¬ (1048576 : Int) - (C0 : Int) - (C1 : Int) < 0 := by omega
  have HSM1 : Hid (fn1 ≤ 1048576 ∧ SmA zt1 tn1 ∧ qmk (zf1, zt1) ≤ 1048576) := qry_small HZ1.out.1 HZ1.out.2 (by have := HC1.out; omega)
  have hs11 := HSM1.out.1
  have hs21 : tn1 ≤ 1048576 := HSM1.out.2.1.n
  have HVB1 := HSM1.out.2.2
  obtain ⟨V0, hV0⟩ : ∃ V : Nat, qmk (zf0, zt0) = V := ⟨_, rfl⟩
  rw [hV0] at HVB0
  have HV0 := Hid.mk hV0
  clear hV0
  obtain ⟨V1, hV1⟩ : ∃ V : Nat, qmk (zf1, zt1) = V := ⟨_, rfl⟩
  rw [hV1] at HVB1
  have HV1 := Hid.mk hV1
  clear hV1
  obtain ⟨vv, ok, ta, hta, HS, HI⟩ : ∃ (vv ok : Bool) (ta : List Int), ta.length ≤ 6 ∧ Hid (∀ (x0 y0 : Nat) (x1 y1 : Nat) (x2 : Nat) (w : World) (F0 F1 F2 : Nat → Prop), RQry.Own w F0 [.slice (some ⟨x0, 0, none⟩) fn0 fn0, .slice (some ⟨y0, 0, none⟩) tn0 tn0] (zf0, zt0) → RQry.Own w F1 [.slice (some ⟨x1, 0, none⟩) fn1 fn1, .slice (some ⟨y1, 0, none⟩) tn1 tn1] (zf1, zt1) → RInts.Own w F2 [.slice (some ⟨x2, 0, none⟩) n2 n2] z2 → Calls Try.prog 14 #[.agg #[.slice (some ⟨x0, 0, none⟩) fn0 fn0, .slice (some ⟨y0, 0, none⟩) tn0 tn0], .agg #[.slice (some ⟨x1, 0, none⟩) fn1 fn1, .slice (some ⟨y1, 0, none⟩) tn1 tn1], .slice (some ⟨x2, 0, none⟩) n2 n2] w fun e w' => IcRet e w' w.heap.size vv ok ta ∧ Below w.heap.size w w') ∧ Hid (∀ (x0 y0 : Nat) (x1 y1 : Nat) (x2 : Nat) (w : World) (F0 F1 F2 : Nat → Prop), RQry.Own w F0 [.slice (some ⟨x0, 0, none⟩) fn0 fn0, .slice (some ⟨y0, 0, none⟩) tn0 tn0] (zf0, zt0) → RQry.Own w F1 [.slice (some ⟨x1, 0, none⟩) fn1 fn1, .slice (some ⟨y1, 0, none⟩) tn1 tn1] (zf1, zt1) → RInts.Own w F2 [.slice (some ⟨x2, 0, none⟩) n2 n2] z2 → Calls Try.prog 15 #[.agg #[.slice (some ⟨x0, 0, none⟩) fn0 fn0, .slice (some ⟨y0, 0, none⟩) tn0 tn0], .agg #[.slice (some ⟨x1, 0, none⟩) fn1 fn1, .slice (some ⟨y1, 0, none⟩) tn1 tn1], .slice (some ⟨x2, 0, none⟩) n2 n2] w fun e w' => IcRet e w' w.heap.size vv ok ta ∧ Below w.heap.size w w') := ⟨(icM zf0 zt0 zf1 zt1 z2).isSome, icB zf0 zt0 zf1 zt1 z2, icL zf0 zt0 zf1 zt1 z2, icL_len zf0 zt0 zf1 zt1 z2, fun x0 y0 x1 y1 x2 w F0 F1 F2 o0 o1 o2 => specIsContained (some ⟨x0, 0, none⟩) fn0 fn0 zf0 (some ⟨y0, 0, none⟩) tn0 tn0 zt0 (some ⟨x1, 0, none⟩) fn1 fn1 zf1 (some ⟨y1, 0, none⟩) tn1 tn1 zt1 (some ⟨x2, 0, none⟩) n2 n2 z2 w HZ0.out.1 h20 (qry_at o0).1 HZ0.out.2 k20 (qry_at o0).2 HZ1.out.1 h21 (qry_at o1).1 HZ1.out.2 k21 (qry_at o1).2 HZ2.out hn2 (ints_at o2), fun x0 y0 x1 y1 x2 w F0 F1 F2 o0 o1 o2 => implIsContained (some ⟨x0, 0, none⟩) fn0 fn0 zf0 (some ⟨y0, 0, none⟩) tn0 tn0 zt0 (some ⟨x1, 0, none⟩) fn1 fn1 zf1 (some ⟨y1, 0, none⟩) tn1 tn1 zt1 (some ⟨x2, 0, none⟩) n2 n2 z2 w HZ0.out.1 h20 (qry_at o0).1 HZ0.out.2 k20 (qry_at o0).2 HZ1.out.1 h21 (qry_at o1).1 HZ1.out.2 k21 (qry_at o1).2 HZ2.out hn2 (ints_at o2)⟩
  obtain ⟨na, hna⟩ : ∃ na, ta.length = na := ⟨_, rfl⟩
  rw [hna] at hta
  have HNA := Hid.mk hna
  clear hna
  go_enter Try.func4, Try.ntmps4
  go_wp2_with fail
  rw [← hW]
  clear hW
  refine (szQuery_any fa0 fn0 fc0 ta0 tn0 tc0 zf0 zt0 _ _ HZ0.out.1 h20 HZ0.out.2 k20 (by omega) (by omega) (AtSl.below HA0.out.2 B0)).mono ?_
  rintro e w1 ⟨rfl, hb1⟩
  rw [HC0.out, leftOf_yes (by omega)]
  have p00_1 := cell_later hb1 p00_0
  have p01_1 := cell_later hb1 p01_0
  have p10_1 := cell_later hb1 p10_0
  have p11_1 := cell_later hb1 p11_0
  have B_1 := B0.trans (hb1.mono B0.size)
  have zz1 : W.heap.size ≤ w1.heap.size := hb1.size
  clear p00_0 p01_0 p10_0 p11_0
  clear hb1
  go_wp2_with fail
  refine (szQuery_any fa1 fn1 fc1 ta1 tn1 tc1 zf1 zt1 _ _ HZ1.out.1 h21 HZ1.out.2 k21 (by omega) (by omega) (AtSl.below HA1.out.2 B_1)).mono ?_
  rintro e w2 ⟨rfl, hb2⟩
  rw [HC1.out, leftOf_yes (by omega)]
  have p00_2 := cell_later hb2 p00_1
  have p01_2 := cell_later hb2 p01_1
  have p10_2 := cell_later hb2 p10_1
  have p11_2 := cell_later hb2 p11_1
  have B_2 := B_1.trans (hb2.mono B_1.size)
  have zz2 : w1.heap.size ≤ w2.heap.size := hb2.size
  clear p00_1 p01_1 p10_1 p11_1 B_1
  clear hb2
  go_wp2_with fail
  refine wp_region_held_drew (S := fun w' => w'.cell? ⟨w.heap.size, 0, none⟩ = some (.slice fa0 fn0 fc0) ∧ w'.cell? ⟨w.heap.size, 1, none⟩ = some (.slice ta0 tn0 tc0) ∧ w'.cell? ⟨w.heap.size + 1, 0, none⟩ = some (.slice fa1 fn1 fc1) ∧ w'.cell? ⟨w.heap.size + 1, 1, none⟩ = some (.slice ta1 tn1 tc1)) (by kernel_rfl) ?_ (fun hHeld => ?_)
  · (try dsimp only)
    exact ⟨p00_2, p01_2, p10_2, p11_2⟩
  refine tk 0 ?_
  refine tk 2 ?_
  refine tk 4 ?_
  refine wpAnyH_ready (rs := [1]) (by kernel_rfl) (by simp) ?_
  refine AllReadyH.cons (o := ?_) ?_ (fun K hK => ?_) AllReadyH.nil
  rotate_left
  · (simp only [List.getElem?_toArray, List.getElem?_cons_zero, List.getElem?_cons_succ]; rfl)
  go_simp
  go_at_call 9
  refine (toQuery_any fa0 fn0 fc0 ta0 tn0 tc0 zf0 zt0 _ HZ0.out.1 HZ0.out.2 hs10 hs20 (fun _ _ h => HSM0.out.2.1.each h) (At.below HA0.out.1 B_2.drew) (AtSl.below HA0.out.2 B_2.drew)).mono ?_
  rintro e w3 ⟨g3_1, g3_2, rfl, ho3, hd3⟩
  have hb3 : Below w2.heap.size w2 w3 := (Below.refl _ _).drew.trans hd3
  clear hd3
  have ot0_3 := Hid.mk ho3
  clear ho3
  have p00_3 := cell_later hb3 p00_2
  have p01_3 := cell_later hb3 p01_2
  have p10_3 := cell_later hb3 p10_2
  have p11_3 := cell_later hb3 p11_2
  have B_3 := B_2.trans (hb3.mono B_2.size)
  have zz3 : w2.heap.size ≤ w3.heap.size := hb3.size
  clear p00_2 p01_2 p10_2 p11_2 B_2
  clear hb3
  (try go_wp2_with fail)
  refine hK.out _ _ ?_ (fun hHeld' => ?_)
  · (try dsimp only)
    exact ⟨p00_3, p01_3, p10_3, p11_3⟩
  clear hK K hHeld
  have hHeld := hHeld'
  clear hHeld'
  (try simp only [Act.put, List.setIfInBounds_toArray, List.set_cons_zero, List.set_cons_succ])
  refine wpAnyH_ready (rs := [3]) (by kernel_rfl) (by simp) ?_
  refine AllReadyH.cons (o := ?_) ?_ (fun K hK => ?_) AllReadyH.nil
  rotate_left
  · (simp only [List.getElem?_toArray, List.getElem?_cons_zero, List.getElem?_cons_succ]; rfl)
  go_simp
  go_at_call 9
  refine (toQuery_any fa1 fn1 fc1 ta1 tn1 tc1 zf1 zt1 _ HZ1.out.1 HZ1.out.2 hs11 hs21 (fun _ _ h => HSM1.out.2.1.each h) (At.below HA1.out.1 B_3) (AtSl.below HA1.out.2 B_3)).mono ?_
  rintro e w4 ⟨g4_1, g4_2, rfl, ho4, hb4⟩
  have ot1_4 := Hid.mk ho4
  clear ho4
  have p00_4 := cell_later hb4 p00_3
  have p01_4 := cell_later hb4 p01_3
  have p10_4 := cell_later hb4 p10_3
  have p11_4 := cell_later hb4 p11_3
  have ot0_4 := Hid.mk (RQry.ownBelow ot0_3.out hb4)
  have B_4 := B_3.trans (hb4.mono B_3.size)
  have zz4 : w3.heap.size ≤ w4.heap.size := hb4.size
  clear p00_3 p01_3 p10_3 p11_3 ot0_3 B_3
  clear hb4
  (try go_wp2_with fail)
  refine hK.out _ _ ?_ (fun hHeld' => ?_)
  · (try dsimp only)
    exact ⟨p00_4, p01_4, p10_4, p11_4⟩
  clear hK K hHeld
  have hHeld := hHeld'
  clear hHeld'
  (try simp only [Act.put, List.setIfInBounds_toArray, List.set_cons_zero, List.set_cons_succ])
  refine wpAnyH_ready (rs := [5]) (by kernel_rfl) (by simp) ?_
  refine AllReadyH.cons (o := ?_) ?_ (fun K hK => ?_) AllReadyH.nil
  rotate_left
  · (simp only [List.getElem?_toArray, List.getElem?_cons_zero, List.getElem?_cons_succ]; rfl)
  go_simp
  go_at_call 10
  refine (toInts_rep a2 n2 c2 z2 _ HZ2.out hsn2 (At.below HA2.out B_4)).mono ?_
  rintro e w5 ⟨g5, rfl, ho5, hb5⟩
  have ot2_5 := Hid.mk ho5
  clear ho5
  have p00_5 := cell_later hb5 p00_4
  have p01_5 := cell_later hb5 p01_4
  have p10_5 := cell_later hb5 p10_4
  have p11_5 := cell_later hb5 p11_4
  have ot0_5 := Hid.mk (RQry.ownBelow ot0_4.out hb5)
  have ot1_5 := Hid.mk (RQry.ownBelow ot1_4.out hb5)
  have B_5 := B_4.trans (hb5.mono B_4.size)
  have zz5 : w4.heap.size ≤ w5.heap.size := hb5.size
  clear p00_4 p01_4 p10_4 p11_4 ot0_4 ot1_4 B_4
  clear hb5
  (try go_wp2_with fail)
  refine hK.out _ _ ?_ (fun hHeld' => ?_)
  · (try dsimp only)
    exact ⟨p00_5, p01_5, p10_5, p11_5⟩
  clear hK K hHeld
  have hHeld := hHeld'
  clear hHeld'
  (try simp only [Act.put, List.setIfInBounds_toArray, List.set_cons_zero, List.set_cons_succ])
  refine wpAnyH_ready (rs := [6]) (by kernel_rfl) (by simp) ?_
  refine AllReadyH.cons (o := ?_) ?_ (fun K hK => ?_) AllReadyH.nil
  rotate_left
  · (simp only [List.getElem?_toArray, List.getElem?_cons_zero, List.getElem?_cons_succ]; rfl)
  go_simp
  go_at_call 14
  refine (HS.out _ _ _ _ _ _ _ _ _ ot0_5.out ot1_5.out ot2_5.out).mono ?_
  rintro e w6 ⟨⟨r6, m6, d6, rfl, hm6, ho6⟩, hb6⟩
  clear ot0_5
  clear ot1_5
  clear ot2_5
  obtain rfl : na = m6 := HNA.out.symm.trans hm6
  have oo_6 := Hid.mk (RInts.of_owns HNA.out (by omega) ho6)
  clear ho6 hm6
  have p00_6 := cell_later hb6 p00_5
  have p01_6 := cell_later hb6 p01_5
  have p10_6 := cell_later hb6 p10_5
  have p11_6 := cell_later hb6 p11_5
  have B_6 := B_5.trans (hb6.mono B_5.size)
  have zz6 : w5.heap.size ≤ w6.heap.size := hb6.size
  clear p00_5 p01_5 p10_5 p11_5 B_5
  clear hb6
  (try go_wp2_with fail)
  refine hK.out _ _ ?_ (fun hHeld' => ?_)
  · (try dsimp only)
    exact ⟨p00_6, p01_6, p10_6, p11_6⟩
  clear hK K hHeld
  have hHeld := hHeld'
  clear hHeld'
  (try simp only [Act.put, List.setIfInBounds_toArray, List.set_cons_zero, List.set_cons_succ])
  refine tk 7 ?_
  refine tk 8 ?_
  refine tk 9 ?_
  refine tk 10 ?_
  refine tk 11 ?_
  refine tk 12 ?_
  refine tk 13 ?_
  refine wpAnyH_done (by kernel_rfl) ?_ _
  clear hHeld
  go_wp2_with fail
  refine (toQuery_any fa0 fn0 fc0 ta0 tn0 tc0 zf0 zt0 _ HZ0.out.1 HZ0.out.2 hs10 hs20 (fun _ _ h => HSM0.out.2.1.each h) (At.below HA0.out.1 B_6) (AtSl.below HA0.out.2 B_6)).mono ?_
  rintro e w7 ⟨g7_1, g7_2, rfl, ho7, hb7⟩
  have ox0_7 := Hid.mk ho7
  clear ho7
  have p00_7 := cell_later hb7 p00_6
  have p01_7 := cell_later hb7 p01_6
  have p10_7 := cell_later hb7 p10_6
  have p11_7 := cell_later hb7 p11_6
  have oo_7 := Hid.mk (RInts.ownBelow oo_6.out hb7)
  have B_7 := B_6.trans (hb7.mono B_6.size)
  have zz7 : w6.heap.size ≤ w7.heap.size := hb7.size
  clear p00_6 p01_6 p10_6 p11_6 oo_6 B_6
  clear hb7
  obtain ⟨w8, hU8⟩ : ∃ u, u = w7.alloc (.cells #[.slice (some ⟨g7_1, 0, none⟩) fn0 fn0, .slice (some ⟨g7_2, 0, none⟩) tn0 tn0] 30) := ⟨_, rfl⟩
  have hb8 : Below w7.heap.size w7 w8 := by rw [hU8]; exact (Below.refl _ _).alloc (Nat.le_refl _) _
  have zl8 : w7.heap.size < w8.heap.size := by rw [hU8]; simp
  have nX00 : w8.cell? ⟨w7.heap.size, 0, none⟩ = some (.slice (some ⟨g7_1, 0, none⟩) fn0 fn0) := by rw [hU8]; simp
  have nX01 : w8.cell? ⟨w7.heap.size, 1, none⟩ = some (.slice (some ⟨g7_2, 0, none⟩) tn0 tn0) := by rw [hU8]; simp
  have p00_8 := cell_later hb8 p00_7
  have p01_8 := cell_later hb8 p01_7
  have p10_8 := cell_later hb8 p10_7
  have p11_8 := cell_later hb8 p11_7
  have oo_8 := Hid.mk (RInts.ownBelow oo_7.out hb8)
  have ox0_8 := Hid.mk (RQry.ownBelow ox0_7.out hb8)
  have B_8 := B_7.trans (hb8.mono B_7.size)
  have zz8 : w7.heap.size ≤ w8.heap.size := hb8.size
  clear p00_7 p01_7 p10_7 p11_7 oo_7 ox0_7 B_7
  clear hb8
  have xp00 := p00_8
  rw [hU8] at xp00
  have xp01 := p01_8
  rw [hU8] at xp01
  have xp10 := p10_8
  rw [hU8] at xp10
  have xp11 := p11_8
  rw [hU8] at xp11
  have xX00 := nX00
  rw [hU8] at xX00
  have xX01 := nX01
  rw [hU8] at xX01
  go_wp2_with fail
  rw [← hU8]
  clear hU8
  clear xp00 xp01 xp10 xp11 xX00 xX01
  refine (toQuery_any fa1 fn1 fc1 ta1 tn1 tc1 zf1 zt1 _ HZ1.out.1 HZ1.out.2 hs11 hs21 (fun _ _ h => HSM1.out.2.1.each h) (At.below HA1.out.1 B_8) (AtSl.below HA1.out.2 B_8)).mono ?_
  rintro e w9 ⟨g9_1, g9_2, rfl, ho9, hb9⟩
  have ox1_9 := Hid.mk ho9
  clear ho9
  have p00_9 := cell_later hb9 p00_8
  have p01_9 := cell_later hb9 p01_8
  have p10_9 := cell_later hb9 p10_8
  have p11_9 := cell_later hb9 p11_8
  have X00_9 := cell_later hb9 nX00
  have X01_9 := cell_later hb9 nX01
  have oo_9 := Hid.mk (RInts.ownBelow oo_8.out hb9)
  have ox0_9 := Hid.mk (RQry.ownBelow ox0_8.out hb9)
  have B_9 := B_8.trans (hb9.mono B_8.size)
  have zz9 : w8.heap.size ≤ w9.heap.size := hb9.size
  clear p00_8 p01_8 p10_8 p11_8 nX00 nX01 oo_8 ox0_8 B_8
  clear hb9
  obtain ⟨w10, hU10⟩ : ∃ u, u = w9.alloc (.cells #[.slice (some ⟨g9_1, 0, none⟩) fn1 fn1, .slice (some ⟨g9_2, 0, none⟩) tn1 tn1] 30) := ⟨_, rfl⟩
  have hb10 : Below w9.heap.size w9 w10 := by rw [hU10]; exact (Below.refl _ _).alloc (Nat.le_refl _) _
  have zl10 : w9.heap.size < w10.heap.size := by rw [hU10]; simp
  have nX10 : w10.cell? ⟨w9.heap.size, 0, none⟩ = some (.slice (some ⟨g9_1, 0, none⟩) fn1 fn1) := by rw [hU10]; simp
  have nX11 : w10.cell? ⟨w9.heap.size, 1, none⟩ = some (.slice (some ⟨g9_2, 0, none⟩) tn1 tn1) := by rw [hU10]; simp
  have p00_10 := cell_later hb10 p00_9
  have p01_10 := cell_later hb10 p01_9
  have p10_10 := cell_later hb10 p10_9
  have p11_10 := cell_later hb10 p11_9
  have X00_10 := cell_later hb10 X00_9
  have X01_10 := cell_later hb10 X01_9
  have oo_10 := Hid.mk (RInts.ownBelow oo_9.out hb10)
  have ox0_10 := Hid.mk (RQry.ownBelow ox0_9.out hb10)
  have ox1_10 := Hid.mk (RQry.ownBelow ox1_9.out hb10)
  have B_10 := B_9.trans (hb10.mono B_9.size)
  have zz10 : w9.heap.size ≤ w10.heap.size := hb10.size
  clear p00_9 p01_9 p10_9 p11_9 X00_9 X01_9 oo_9 ox0_9 ox1_9 B_9
  clear hb10
  have xp00 := p00_10
  rw [hU10] at xp00
  have xp01 := p01_10
  rw [hU10] at xp01
  have xp10 := p10_10
  rw [hU10] at xp10
  have xp11 := p11_10
  rw [hU10] at xp11
  have xX00 := X00_10
  rw [hU10] at xX00
  have xX01 := X01_10
  rw [hU10] at xX01
  have xX10 := nX10
  rw [hU10] at xX10
  have xX11 := nX11
  rw [hU10] at xX11
  go_wp2_with fail
  rw [← hU10]
  clear hU10
  clear xp00 xp01 xp10 xp11 xX00 xX01 xX10 xX11
  refine (toInts_rep a2 n2 c2 z2 _ HZ2.out hsn2 (At.below HA2.out B_10)).mono ?_
  rintro e w11 ⟨g11, rfl, ho11, hb11⟩
  have ox2_11 := Hid.mk ho11
  clear ho11
  have p00_11 := cell_later hb11 p00_10
  have p01_11 := cell_later hb11 p01_10
  have p10_11 := cell_later hb11 p10_10
  have p11_11 := cell_later hb11 p11_10
  have X00_11 := cell_later hb11 X00_10
  have X01_11 := cell_later hb11 X01_10
  have X10_11 := cell_later hb11 nX10
  have X11_11 := cell_later hb11 nX11
  have oo_11 := Hid.mk (RInts.ownBelow oo_10.out hb11)
  have ox0_11 := Hid.mk (RQry.ownBelow ox0_10.out hb11)
  have ox1_11 := Hid.mk (RQry.ownBelow ox1_10.out hb11)
  have B_11 := B_10.trans (hb11.mono B_10.size)
  have zz11 : w10.heap.size ≤ w11.heap.size := hb11.size
  clear p00_10 p01_10 p10_10 p11_10 X00_10 X01_10 nX10 nX11 oo_10 ox0_10 ox1_10 B_10
  clear hb11
  go_wp2_with fail
  refine (HI.out _ _ _ _ _ _ _ _ _ ox0_11.out ox1_11.out ox2_11.out).mono ?_
  rintro e w12 ⟨⟨r12, m12, d12, rfl, hm12, ho12⟩, hb12⟩
  obtain rfl : na = m12 := HNA.out.symm.trans hm12
  have og_12 := Hid.mk (RInts.of_owns HNA.out (by omega) ho12)
  clear ho12 hm12
  have p00_12 := cell_later hb12 p00_11
  have p01_12 := cell_later hb12 p01_11
  have p10_12 := cell_later hb12 p10_11
  have p11_12 := cell_later hb12 p11_11
  have X00_12 := cell_later hb12 X00_11
  have X01_12 := cell_later hb12 X01_11
  have X10_12 := cell_later hb12 X10_11
  have X11_12 := cell_later hb12 X11_11
  have oo_12 := Hid.mk (RInts.ownBelow oo_11.out hb12)
  have ox0_12 := Hid.mk (RQry.ownBelow ox0_11.out hb12)
  have ox1_12 := Hid.mk (RQry.ownBelow ox1_11.out hb12)
  have ox2_12 := Hid.mk (RInts.ownBelow ox2_11.out hb12)
  have B_12 := B_11.trans (hb12.mono B_11.size)
  have zz12 : w11.heap.size ≤ w12.heap.size := hb12.size
  clear p00_11 p01_11 p10_11 p11_11 X00_11 X01_11 X10_11 X11_11 oo_11 ox0_11 ox1_11 ox2_11 B_11
  clear hb12
  go_wp2_with fail
  refine (eqIntS_same _ _ na _ _ ta _ HNA.out (by omega) (ints_at og_12.out) (ints_at oo_12.out)).mono ?_
  rintro e w13 ⟨rfl, hb13⟩
  have p00_13 := cell_later hb13 p00_12
  have p01_13 := cell_later hb13 p01_12
  have p10_13 := cell_later hb13 p10_12
  have p11_13 := cell_later hb13 p11_12
  have X00_13 := cell_later hb13 X00_12
  have X01_13 := cell_later hb13 X01_12
  have X10_13 := cell_later hb13 X10_12
  have X11_13 := cell_later hb13 X11_12
  have oo_13 := Hid.mk (RInts.ownBelow oo_12.out hb13)
  have ox0_13 := Hid.mk (RQry.ownBelow ox0_12.out hb13)
  have ox1_13 := Hid.mk (RQry.ownBelow ox1_12.out hb13)
  have ox2_13 := Hid.mk (RInts.ownBelow ox2_12.out hb13)
  have og_13 := Hid.mk (RInts.ownBelow og_12.out hb13)
  have B_13 := B_12.trans (hb13.mono B_12.size)
  have zz13 : w12.heap.size ≤ w13.heap.size := hb13.size
  clear p00_12 p01_12 p10_12 p11_12 X00_12 X01_12 X10_12 X11_12 oo_12 ox0_12 ox1_12 ox2_12 og_12 B_12
  clear hb13
  go_wp2_with fail
  refine wp_region_held_drew (S := fun w' => w'.cell? ⟨w7.heap.size, 0, none⟩ = some (.slice (some ⟨g7_1, 0, none⟩) fn0 fn0) ∧ w'.cell? ⟨w7.heap.size, 1, none⟩ = some (.slice (some ⟨g7_2, 0, none⟩) tn0 tn0) ∧ w'.cell? ⟨w.heap.size, 0, none⟩ = some (.slice fa0 fn0 fc0) ∧ w'.cell? ⟨w.heap.size, 1, none⟩ = some (.slice ta0 tn0 tc0)) (by kernel_rfl) ?_ (fun hHeld => ?_)
  · (try dsimp only)
    exact ⟨X00_13, X01_13, p00_13, p01_13⟩
  refine tk 0 ?_
  refine tk 1 ?_
  refine wpAnyH_ready (rs := [2]) (by kernel_rfl) (by simp) ?_
  refine AllReadyH.cons (o := ?_) ?_ (fun K hK => ?_) AllReadyH.nil
  rotate_left
  · (simp only [List.getElem?_toArray, List.getElem?_cons_zero, List.getElem?_cons_succ]; rfl)
  go_simp
  go_at_call 9
  refine (toQuery_any fa0 fn0 fc0 ta0 tn0 tc0 zf0 zt0 _ HZ0.out.1 HZ0.out.2 hs10 hs20 (fun _ _ h => HSM0.out.2.1.each h) (At.below HA0.out.1 B_13.drew) (AtSl.below HA0.out.2 B_13.drew)).mono ?_
  rintro e w14 ⟨g14_1, g14_2, rfl, ho14, hd14⟩
  have hb14 : Below w13.heap.size w13 w14 := (Below.refl _ _).drew.trans hd14
  clear hd14
  have oy_14 := Hid.mk ho14
  clear ho14
  have p00_14 := cell_later hb14 p00_13
  have p01_14 := cell_later hb14 p01_13
  have p10_14 := cell_later hb14 p10_13
  have p11_14 := cell_later hb14 p11_13
  have X00_14 := cell_later hb14 X00_13
  have X01_14 := cell_later hb14 X01_13
  have X10_14 := cell_later hb14 X10_13
  have X11_14 := cell_later hb14 X11_13
  have oo_14 := Hid.mk (RInts.ownBelow oo_13.out hb14)
  have ox0_14 := Hid.mk (RQry.ownBelow ox0_13.out hb14)
  have ox1_14 := Hid.mk (RQry.ownBelow ox1_13.out hb14)
  have ox2_14 := Hid.mk (RInts.ownBelow ox2_13.out hb14)
  have og_14 := Hid.mk (RInts.ownBelow og_13.out hb14)
  have B_14 := B_13.trans (hb14.mono B_13.size)
  have zz14 : w13.heap.size ≤ w14.heap.size := hb14.size
  clear p00_13 p01_13 p10_13 p11_13 X00_13 X01_13 X10_13 X11_13 oo_13 ox0_13 ox1_13 ox2_13 og_13 B_13
  clear hb14
  (try go_wp2_with fail)
  refine hK.out _ _ ?_ (fun hHeld' => ?_)
  · (try dsimp only)
    exact ⟨X00_14, X01_14, p00_14, p01_14⟩
  clear hK K hHeld
  have hHeld := hHeld'
  clear hHeld'
  (try simp only [Act.put, List.setIfInBounds_toArray, List.set_cons_zero, List.set_cons_succ])
  refine wpAnyH_ready (rs := [3]) (by kernel_rfl) (by simp) ?_
  refine AllReadyH.cons (o := ?_) ?_ (fun K hK => ?_) AllReadyH.nil
  rotate_left
  · (simp only [List.getElem?_toArray, List.getElem?_cons_zero, List.getElem?_cons_succ]; rfl)
  go_simp
  go_at_call 12
  refine (eqQuery_same _ _ fn0 _ _ _ _ tn0 _ _ zf0 zt0 _ HZ0.out.1 HZ0.out.2 hs10 hs20 (fun _ _ h => HSM0.out.2.1.each h) (qry_at ox0_14.out).1 (qry_at ox0_14.out).2 (qry_at oy_14.out).1 (qry_at oy_14.out).2).mono ?_
  rintro e w15 ⟨rfl, hb15⟩
  clear oy_14
  have p00_15 := cell_later hb15 p00_14
  have p01_15 := cell_later hb15 p01_14
  have p10_15 := cell_later hb15 p10_14
  have p11_15 := cell_later hb15 p11_14
  have X00_15 := cell_later hb15 X00_14
  have X01_15 := cell_later hb15 X01_14
  have X10_15 := cell_later hb15 X10_14
  have X11_15 := cell_later hb15 X11_14
  have oo_15 := Hid.mk (RInts.ownBelow oo_14.out hb15)
  have ox0_15 := Hid.mk (RQry.ownBelow ox0_14.out hb15)
  have ox1_15 := Hid.mk (RQry.ownBelow ox1_14.out hb15)
  have ox2_15 := Hid.mk (RInts.ownBelow ox2_14.out hb15)
  have og_15 := Hid.mk (RInts.ownBelow og_14.out hb15)
  have B_15 := B_14.trans (hb15.mono B_14.size)
  have zz15 : w14.heap.size ≤ w15.heap.size := hb15.size
  clear p00_14 p01_14 p10_14 p11_14 X00_14 X01_14 X10_14 X11_14 oo_14 ox0_14 ox1_14 ox2_14 og_14 B_14
  clear hb15
  (try go_wp2_with fail)
  refine hK.out _ _ ?_ (fun hHeld' => ?_)
  · (try dsimp only)
    exact ⟨X00_15, X01_15, p00_15, p01_15⟩
  clear hK K hHeld
  have hHeld := hHeld'
  clear hHeld'
  (try simp only [Act.put, List.setIfInBounds_toArray, List.set_cons_zero, List.set_cons_succ])
  refine tk 4 ?_
  refine wpAnyH_done (by kernel_rfl) ?_ _
  clear hHeld
  go_wp2_with fail
  refine wp_region_held_drew (S := fun w' => w'.cell? ⟨w9.heap.size, 0, none⟩ = some (.slice (some ⟨g9_1, 0, none⟩) fn1 fn1) ∧ w'.cell? ⟨w9.heap.size, 1, none⟩ = some (.slice (some ⟨g9_2, 0, none⟩) tn1 tn1) ∧ w'.cell? ⟨w.heap.size + 1, 0, none⟩ = some (.slice fa1 fn1 fc1) ∧ w'.cell? ⟨w.heap.size + 1, 1, none⟩ = some (.slice ta1 tn1 tc1)) (by kernel_rfl) ?_ (fun hHeld => ?_)
  · (try dsimp only)
    exact ⟨X10_15, X11_15, p10_15, p11_15⟩
  refine tk 0 ?_
  refine tk 1 ?_
  refine wpAnyH_ready (rs := [2]) (by kernel_rfl) (by simp) ?_
  refine AllReadyH.cons (o := ?_) ?_ (fun K hK => ?_) AllReadyH.nil
  rotate_left
  · (simp only [List.getElem?_toArray, List.getElem?_cons_zero, List.getElem?_cons_succ]; rfl)
  go_simp
  go_at_call 9
  refine (toQuery_any fa1 fn1 fc1 ta1 tn1 tc1 zf1 zt1 _ HZ1.out.1 HZ1.out.2 hs11 hs21 (fun _ _ h => HSM1.out.2.1.each h) (At.below HA1.out.1 B_15.drew) (AtSl.below HA1.out.2 B_15.drew)).mono ?_
  rintro e w16 ⟨g16_1, g16_2, rfl, ho16, hd16⟩
  have hb16 : Below w15.heap.size w15 w16 := (Below.refl _ _).drew.trans hd16
  clear hd16
  have oy_16 := Hid.mk ho16
  clear ho16
  have p00_16 := cell_later hb16 p00_15
  have p01_16 := cell_later hb16 p01_15
  have p10_16 := cell_later hb16 p10_15
  have p11_16 := cell_later hb16 p11_15
  have X00_16 := cell_later hb16 X00_15
  have X01_16 := cell_later hb16 X01_15
  have X10_16 := cell_later hb16 X10_15
  have X11_16 := cell_later hb16 X11_15
  have oo_16 := Hid.mk (RInts.ownBelow oo_15.out hb16)
  have ox0_16 := Hid.mk (RQry.ownBelow ox0_15.out hb16)
  have ox1_16 := Hid.mk (RQry.ownBelow ox1_15.out hb16)
  have ox2_16 := Hid.mk (RInts.ownBelow ox2_15.out hb16)
  have og_16 := Hid.mk (RInts.ownBelow og_15.out hb16)
  have B_16 := B_15.trans (hb16.mono B_15.size)
  have zz16 : w15.heap.size ≤ w16.heap.size := hb16.size
  clear p00_15 p01_15 p10_15 p11_15 X00_15 X01_15 X10_15 X11_15 oo_15 ox0_15 ox1_15 ox2_15 og_15 B_15
  clear hb16
  (try go_wp2_with fail)
  refine hK.out _ _ ?_ (fun hHeld' => ?_)
  · (try dsimp only)
    exact ⟨X10_16, X11_16, p10_16, p11_16⟩
  clear hK K hHeld
  have hHeld := hHeld'
  clear hHeld'
  (try simp only [Act.put, List.setIfInBounds_toArray, List.set_cons_zero, List.set_cons_succ])
  refine wpAnyH_ready (rs := [3]) (by kernel_rfl) (by simp) ?_
  refine AllReadyH.cons (o := ?_) ?_ (fun K hK => ?_) AllReadyH.nil
  rotate_left
  · (simp only [List.getElem?_toArray, List.getElem?_cons_zero, List.getElem?_cons_succ]; rfl)
  go_simp
  go_at_call 12
  refine (eqQuery_same _ _ fn1 _ _ _ _ tn1 _ _ zf1 zt1 _ HZ1.out.1 HZ1.out.2 hs11 hs21 (fun _ _ h => HSM1.out.2.1.each h) (qry_at ox1_16.out).1 (qry_at ox1_16.out).2 (qry_at oy_16.out).1 (qry_at oy_16.out).2).mono ?_
  rintro e w17 ⟨rfl, hb17⟩
  clear oy_16
  have p00_17 := cell_later hb17 p00_16
  have p01_17 := cell_later hb17 p01_16
  have p10_17 := cell_later hb17 p10_16
  have p11_17 := cell_later hb17 p11_16
  have X00_17 := cell_later hb17 X00_16
  have X01_17 := cell_later hb17 X01_16
  have X10_17 := cell_later hb17 X10_16
  have X11_17 := cell_later hb17 X11_16
  have oo_17 := Hid.mk (RInts.ownBelow oo_16.out hb17)
  have ox0_17 := Hid.mk (RQry.ownBelow ox0_16.out hb17)
  have ox1_17 := Hid.mk (RQry.ownBelow ox1_16.out hb17)
  have ox2_17 := Hid.mk (RInts.ownBelow ox2_16.out hb17)
  have og_17 := Hid.mk (RInts.ownBelow og_16.out hb17)
  have B_17 := B_16.trans (hb17.mono B_16.size)
  have zz17 : w16.heap.size ≤ w17.heap.size := hb17.size
  clear p00_16 p01_16 p10_16 p11_16 X00_16 X01_16 X10_16 X11_16 oo_16 ox0_16 ox1_16 ox2_16 og_16 B_16
  clear hb17
  (try go_wp2_with fail)
  refine hK.out _ _ ?_ (fun hHeld' => ?_)
  · (try dsimp only)
    exact ⟨X10_17, X11_17, p10_17, p11_17⟩
  clear hK K hHeld
  have hHeld := hHeld'
  clear hHeld'
  (try simp only [Act.put, List.setIfInBounds_toArray, List.set_cons_zero, List.set_cons_succ])
  refine tk 4 ?_
  refine wpAnyH_done (by kernel_rfl) ?_ _
  clear hHeld
  go_wp2_with fail
  refine (toInts_rep a2 n2 c2 z2 _ HZ2.out hsn2 (At.below HA2.out B_17)).mono ?_
  rintro e w18 ⟨g18, rfl, ho18, hb18⟩
  have oy_18 := Hid.mk ho18
  clear ho18
  have p00_18 := cell_later hb18 p00_17
  have p01_18 := cell_later hb18 p01_17
  have p10_18 := cell_later hb18 p10_17
  have p11_18 := cell_later hb18 p11_17
  have X00_18 := cell_later hb18 X00_17
  have X01_18 := cell_later hb18 X01_17
  have X10_18 := cell_later hb18 X10_17
  have X11_18 := cell_later hb18 X11_17
  have oo_18 := Hid.mk (RInts.ownBelow oo_17.out hb18)
  have ox0_18 := Hid.mk (RQry.ownBelow ox0_17.out hb18)
  have ox1_18 := Hid.mk (RQry.ownBelow ox1_17.out hb18)
  have ox2_18 := Hid.mk (RInts.ownBelow ox2_17.out hb18)
  have og_18 := Hid.mk (RInts.ownBelow og_17.out hb18)
  have B_18 := B_17.trans (hb18.mono B_17.size)
  have zz18 : w17.heap.size ≤ w18.heap.size := hb18.size
  clear p00_17 p01_17 p10_17 p11_17 X00_17 X01_17 X10_17 X11_17 oo_17 ox0_17 ox1_17 ox2_17 og_17 B_17
  clear hb18
  go_wp2_with fail
  refine (eqIntS_same _ _ n2 _ _ z2 _ HZ2.out hsn2 (ints_at ox2_18.out) (ints_at oy_18.out)).mono ?_
  rintro e w19 ⟨rfl, hb19⟩
  clear oy_18
  have p00_19 := cell_later hb19 p00_18
  have p01_19 := cell_later hb19 p01_18
  have p10_19 := cell_later hb19 p10_18
  have p11_19 := cell_later hb19 p11_18
  have X00_19 := cell_later hb19 X00_18
  have X01_19 := cell_later hb19 X01_18
  have X10_19 := cell_later hb19 X10_18
  have X11_19 := cell_later hb19 X11_18
  have oo_19 := Hid.mk (RInts.ownBelow oo_18.out hb19)
  have ox0_19 := Hid.mk (RQry.ownBelow ox0_18.out hb19)
  have ox1_19 := Hid.mk (RQry.ownBelow ox1_18.out hb19)
  have ox2_19 := Hid.mk (RInts.ownBelow ox2_18.out hb19)
  have og_19 := Hid.mk (RInts.ownBelow og_18.out hb19)
  have B_19 := B_18.trans (hb19.mono B_18.size)
  have zz19 : w18.heap.size ≤ w19.heap.size := hb19.size
  clear p00_18 p01_18 p10_18 p11_18 X00_18 X01_18 X10_18 X11_18 oo_18 ox0_18 ox1_18 ox2_18 og_18 B_18
  clear hb19
  go_wp2_with fail
  refine (markQuery_rep (From (w6.heap.size) (w7.heap.size)) _ fn0 _ _ tn0 _ zf0 zt0 _ _ hs10 hs20 HSM0.out.2.1.msum (by omega) (by omega) (fun b h => by have h2 := h.2; omega) ox0_19.out).mono ?_
  rintro e w20 ⟨rfl, ho20, hg20⟩
  rw [HV0.out]
  have ox0_20 := Hid.mk ho20
  clear ho20
  have p00_20 := hg20.cell p00_19 (show ¬ From (w6.heap.size) (w7.heap.size) (w.heap.size) from fun h => by have h1 := h.1; have h2 := h.2; omega)
  have p01_20 := hg20.cell p01_19 (show ¬ From (w6.heap.size) (w7.heap.size) (w.heap.size) from fun h => by have h1 := h.1; have h2 := h.2; omega)
  have p10_20 := hg20.cell p10_19 (show ¬ From (w6.heap.size) (w7.heap.size) (w.heap.size + 1) from fun h => by have h1 := h.1; have h2 := h.2; omega)
  have p11_20 := hg20.cell p11_19 (show ¬ From (w6.heap.size) (w7.heap.size) (w.heap.size + 1) from fun h => by have h1 := h.1; have h2 := h.2; omega)
  have X00_20 := hg20.cell X00_19 (show ¬ From (w6.heap.size) (w7.heap.size) (w7.heap.size) from fun h => by have h1 := h.1; have h2 := h.2; omega)
  have X01_20 := hg20.cell X01_19 (show ¬ From (w6.heap.size) (w7.heap.size) (w7.heap.size) from fun h => by have h1 := h.1; have h2 := h.2; omega)
  have X10_20 := hg20.cell X10_19 (show ¬ From (w6.heap.size) (w7.heap.size) (w9.heap.size) from fun h => by have h1 := h.1; have h2 := h.2; omega)
  have X11_20 := hg20.cell X11_19 (show ¬ From (w6.heap.size) (w7.heap.size) (w9.heap.size) from fun h => by have h1 := h.1; have h2 := h.2; omega)
  have oo_20 := Hid.mk (RInts.ownOff oo_19.out hg20 (fun b h1 h2 => by have h3 := h1.1; have h4 := h1.2; have h5 := h2.1; have h6 := h2.2; omega))
  have ox1_20 := Hid.mk (RQry.ownOff ox1_19.out hg20 (fun b h1 h2 => by have h3 := h1.1; have h4 := h1.2; have h5 := h2.1; have h6 := h2.2; omega))
  have ox2_20 := Hid.mk (RInts.ownOff ox2_19.out hg20 (fun b h1 h2 => by have h3 := h1.1; have h4 := h1.2; have h5 := h2.1; have h6 := h2.2; omega))
  have og_20 := Hid.mk (RInts.ownOff og_19.out hg20 (fun b h1 h2 => by have h3 := h1.1; have h4 := h1.2; have h5 := h2.1; have h6 := h2.2; omega))
  have B_20 := B_19.trans (hg20.toBelow (by omega) B_19.size)
  have zz20 : w19.heap.size ≤ w20.heap.size := hg20.size
  clear p00_19 p01_19 p10_19 p11_19 X00_19 X01_19 X10_19 X11_19 oo_19 ox0_19 ox1_19 ox2_19 og_19 B_19
  clear hg20
  go_wp2_with fail
  refine (markQuery_rep (From (w8.heap.size) (w9.heap.size)) _ fn1 _ _ tn1 _ zf1 zt1 _ _ hs11 hs21 HSM1.out.2.1.msum (by omega) (by omega) (fun b h => by have h2 := h.2; omega) ox1_20.out).mono ?_
  rintro e w21 ⟨rfl, ho21, hg21⟩
  rw [HV1.out]
  have ox1_21 := Hid.mk ho21
  clear ho21
  have p00_21 := hg21.cell p00_20 (show ¬ From (w8.heap.size) (w9.heap.size) (w.heap.size) from fun h => by have h1 := h.1; have h2 := h.2; omega)
  have p01_21 := hg21.cell p01_20 (show ¬ From (w8.heap.size) (w9.heap.size) (w.heap.size) from fun h => by have h1 := h.1; have h2 := h.2; omega)
  have p10_21 := hg21.cell p10_20 (show ¬ From (w8.heap.size) (w9.heap.size) (w.heap.size + 1) from fun h => by have h1 := h.1; have h2 := h.2; omega)
  have p11_21 := hg21.cell p11_20 (show ¬ From (w8.heap.size) (w9.heap.size) (w.heap.size + 1) from fun h => by have h1 := h.1; have h2 := h.2; omega)
  have X00_21 := hg21.cell X00_20 (show ¬ From (w8.heap.size) (w9.heap.size) (w7.heap.size) from fun h => by have h1 := h.1; have h2 := h.2; omega)
  have X01_21 := hg21.cell X01_20 (show ¬ From (w8.heap.size) (w9.heap.size) (w7.heap.size) from fun h => by have h1 := h.1; have h2 := h.2; omega)
  have X10_21 := hg21.cell X10_20 (show ¬ From (w8.heap.size) (w9.heap.size) (w9.heap.size) from fun h => by have h1 := h.1; have h2 := h.2; omega)
  have X11_21 := hg21.cell X11_20 (show ¬ From (w8.heap.size) (w9.heap.size) (w9.heap.size) from fun h => by have h1 := h.1; have h2 := h.2; omega)
  have oo_21 := Hid.mk (RInts.ownOff oo_20.out hg21 (fun b h1 h2 => by have h3 := h1.1; have h4 := h1.2; have h5 := h2.1; have h6 := h2.2; omega))
  have ox0_21 := Hid.mk (RQry.ownOff ox0_20.out hg21 (fun b h1 h2 => by have h3 := h1.1; have h4 := h1.2; have h5 := h2.1; have h6 := h2.2; omega))
  have ox2_21 := Hid.mk (RInts.ownOff ox2_20.out hg21 (fun b h1 h2 => by have h3 := h1.1; have h4 := h1.2; have h5 := h2.1; have h6 := h2.2; omega))
  have og_21 := Hid.mk (RInts.ownOff og_20.out hg21 (fun b h1 h2 => by have h3 := h1.1; have h4 := h1.2; have h5 := h2.1; have h6 := h2.2; omega))
  have B_21 := B_20.trans (hg21.toBelow (by omega) B_20.size)
  have zz21 : w20.heap.size ≤ w21.heap.size := hg21.size
  clear p00_20 p01_20 p10_20 p11_20 X00_20 X01_20 X10_20 X11_20 oo_20 ox0_20 ox1_20 ox2_20 og_20 B_20
  clear hg21
  go_wp2_with fail
  refine (markInts_rep (From (w10.heap.size) (w11.heap.size)) _ n2 _ z2 _ _ hsn2 (by omega) (by omega) ox2_21.out).mono ?_
  rintro e w22 ⟨rfl, ho22, hg22⟩
  have ox2_22 := Hid.mk ho22
  clear ho22
  have p00_22 := hg22.cell p00_21 (show ¬ From (w10.heap.size) (w11.heap.size) (w.heap.size) from fun h => by have h1 := h.1; have h2 := h.2; omega)
  have p01_22 := hg22.cell p01_21 (show ¬ From (w10.heap.size) (w11.heap.size) (w.heap.size) from fun h => by have h1 := h.1; have h2 := h.2; omega)
  have p10_22 := hg22.cell p10_21 (show ¬ From (w10.heap.size) (w11.heap.size) (w.heap.size + 1) from fun h => by have h1 := h.1; have h2 := h.2; omega)
  have p11_22 := hg22.cell p11_21 (show ¬ From (w10.heap.size) (w11.heap.size) (w.heap.size + 1) from fun h => by have h1 := h.1; have h2 := h.2; omega)
  have X00_22 := hg22.cell X00_21 (show ¬ From (w10.heap.size) (w11.heap.size) (w7.heap.size) from fun h => by have h1 := h.1; have h2 := h.2; omega)
  have X01_22 := hg22.cell X01_21 (show ¬ From (w10.heap.size) (w11.heap.size) (w7.heap.size) from fun h => by have h1 := h.1; have h2 := h.2; omega)
  have X10_22 := hg22.cell X10_21 (show ¬ From (w10.heap.size) (w11.heap.size) (w9.heap.size) from fun h => by have h1 := h.1; have h2 := h.2; omega)
  have X11_22 := hg22.cell X11_21 (show ¬ From (w10.heap.size) (w11.heap.size) (w9.heap.size) from fun h => by have h1 := h.1; have h2 := h.2; omega)
  have oo_22 := Hid.mk (RInts.ownOff oo_21.out hg22 (fun b h1 h2 => by have h3 := h1.1; have h4 := h1.2; have h5 := h2.1; have h6 := h2.2; omega))
  have ox0_22 := Hid.mk (RQry.ownOff ox0_21.out hg22 (fun b h1 h2 => by have h3 := h1.1; have h4 := h1.2; have h5 := h2.1; have h6 := h2.2; omega))
  have ox1_22 := Hid.mk (RQry.ownOff ox1_21.out hg22 (fun b h1 h2 => by have h3 := h1.1; have h4 := h1.2; have h5 := h2.1; have h6 := h2.2; omega))
  have og_22 := Hid.mk (RInts.ownOff og_21.out hg22 (fun b h1 h2 => by have h3 := h1.1; have h4 := h1.2; have h5 := h2.1; have h6 := h2.2; omega))
  have B_22 := B_21.trans (hg22.toBelow (by omega) B_21.size)
  have zz22 : w21.heap.size ≤ w22.heap.size := hg22.size
  clear p00_21 p01_21 p10_21 p11_21 X00_21 X01_21 X10_21 X11_21 oo_21 ox0_21 ox1_21 ox2_21 og_21 B_21
  clear hg22
  have kpos : ¬ (1 : Int) + (V0 : Int) + (V1 : Int) + (n2 : Int) < 0 := by omega
  go_wp2_with fail
  refine (eqIntS_same _ _ na _ _ ta _ HNA.out (by omega) (ints_at og_22.out) (ints_at oo_22.out)).mono ?_
  rintro e w23 ⟨rfl, hb23⟩
  have p00_23 := cell_later hb23 p00_22
  have p01_23 := cell_later hb23 p01_22
  have p10_23 := cell_later hb23 p10_22
  have p11_23 := cell_later hb23 p11_22
  have X00_23 := cell_later hb23 X00_22
  have X01_23 := cell_later hb23 X01_22
  have X10_23 := cell_later hb23 X10_22
  have X11_23 := cell_later hb23 X11_22
  have oo_23 := Hid.mk (RInts.ownBelow oo_22.out hb23)
  have ox0_23 := Hid.mk (RQry.ownBelow ox0_22.out hb23)
  have ox1_23 := Hid.mk (RQry.ownBelow ox1_22.out hb23)
  have ox2_23 := Hid.mk (RInts.ownBelow ox2_22.out hb23)
  have og_23 := Hid.mk (RInts.ownBelow og_22.out hb23)
  have B_23 := B_22.trans (hb23.mono B_22.size)
  have zz23 : w22.heap.size ≤ w23.heap.size := hb23.size
  clear p00_22 p01_22 p10_22 p11_22 X00_22 X01_22 X10_22 X11_22 oo_22 ox0_22 ox1_22 ox2_22 og_22 B_22
  clear hb23
  clear ox0_23
  clear ox1_23
  clear ox2_23
  go_wp2_with fail
  refine (markInts_rep (From (w11.heap.size) (w12.heap.size)) _ na _ ta 1 _ (by omega) (by omega) (by omega) og_23.out).mono ?_
  rintro e w24 ⟨rfl, ho24, hg24⟩
  have og_24 := Hid.mk ho24
  clear ho24
  have p00_24 := hg24.cell p00_23 (show ¬ From (w11.heap.size) (w12.heap.size) (w.heap.size) from fun h => by have h1 := h.1; have h2 := h.2; omega)
  have p01_24 := hg24.cell p01_23 (show ¬ From (w11.heap.size) (w12.heap.size) (w.heap.size) from fun h => by have h1 := h.1; have h2 := h.2; omega)
  have p10_24 := hg24.cell p10_23 (show ¬ From (w11.heap.size) (w12.heap.size) (w.heap.size + 1) from fun h => by have h1 := h.1; have h2 := h.2; omega)
  have p11_24 := hg24.cell p11_23 (show ¬ From (w11.heap.size) (w12.heap.size) (w.heap.size + 1) from fun h => by have h1 := h.1; have h2 := h.2; omega)
  have X00_24 := hg24.cell X00_23 (show ¬ From (w11.heap.size) (w12.heap.size) (w7.heap.size) from fun h => by have h1 := h.1; have h2 := h.2; omega)
  have X01_24 := hg24.cell X01_23 (show ¬ From (w11.heap.size) (w12.heap.size) (w7.heap.size) from fun h => by have h1 := h.1; have h2 := h.2; omega)
  have X10_24 := hg24.cell X10_23 (show ¬ From (w11.heap.size) (w12.heap.size) (w9.heap.size) from fun h => by have h1 := h.1; have h2 := h.2; omega)
  have X11_24 := hg24.cell X11_23 (show ¬ From (w11.heap.size) (w12.heap.size) (w9.heap.size) from fun h => by have h1 := h.1; have h2 := h.2; omega)
  have oo_24 := Hid.mk (RInts.ownOff oo_23.out hg24 (fun b h1 h2 => by have h3 := h1.1; have h4 := h1.2; have h5 := h2.1; have h6 := h2.2; omega))
  have B_24 := B_23.trans (hg24.toBelow (by omega) B_23.size)
  have zz24 : w23.heap.size ≤ w24.heap.size := hg24.size
  clear p00_23 p01_23 p10_23 p11_23 X00_23 X01_23 X10_23 X11_23 oo_23 og_23 B_23
  clear hg24
  have gpos : ¬ (1 : Int) + (na : Int) < 0 := by omega
  go_wp2_with fail
  refine (heldInts_rep _ na _ ta 1 _ HNA.out (by omega) (by omega) (by omega) (ints_at og_24.out)).mono ?_
  rintro e w25 ⟨rfl, hb25⟩
  have p00_25 := cell_later hb25 p00_24
  have p01_25 := cell_later hb25 p01_24
  have p10_25 := cell_later hb25 p10_24
  have p11_25 := cell_later hb25 p11_24
  have X00_25 := cell_later hb25 X00_24
  have X01_25 := cell_later hb25 X01_24
  have X10_25 := cell_later hb25 X10_24
  have X11_25 := cell_later hb25 X11_24
  have oo_25 := Hid.mk (RInts.ownBelow oo_24.out hb25)
  have og_25 := Hid.mk (RInts.ownBelow og_24.out hb25)
  have B_25 := B_24.trans (hb25.mono B_24.size)
  have zz25 : w24.heap.size ≤ w25.heap.size := hb25.size
  clear p00_24 p01_24 p10_24 p11_24 X00_24 X01_24 X10_24 X11_24 oo_24 og_24 B_24
  clear hb25
  go_wp2_with fail
  refine wp_region_held_drew (S := fun w' => w'.cell? ⟨w.heap.size, 0, none⟩ = some (.slice fa0 fn0 fc0) ∧ w'.cell? ⟨w.heap.size, 1, none⟩ = some (.slice ta0 tn0 tc0) ∧ w'.cell? ⟨w.heap.size + 1, 0, none⟩ = some (.slice fa1 fn1 fc1) ∧ w'.cell? ⟨w.heap.size + 1, 1, none⟩ = some (.slice ta1 tn1 tc1)) (by kernel_rfl) ?_ (fun hHeld => ?_)
  · (try dsimp only)
    exact ⟨p00_25, p01_25, p10_25, p11_25⟩
  refine tk 0 ?_
  refine tk 2 ?_
  refine tk 4 ?_
  refine wpAnyH_ready (rs := [1]) (by kernel_rfl) (by simp) ?_
  refine AllReadyH.cons (o := ?_) ?_ (fun K hK => ?_) AllReadyH.nil
  rotate_left
  · (simp only [List.getElem?_toArray, List.getElem?_cons_zero, List.getElem?_cons_succ]; rfl)
  go_simp
  go_at_call 9
  refine (toQuery_any fa0 fn0 fc0 ta0 tn0 tc0 zf0 zt0 _ HZ0.out.1 HZ0.out.2 hs10 hs20 (fun _ _ h => HSM0.out.2.1.each h) (At.below HA0.out.1 B_25.drew) (AtSl.below HA0.out.2 B_25.drew)).mono ?_
  rintro e w26 ⟨g26_1, g26_2, rfl, ho26, hd26⟩
  have hb26 : Below w25.heap.size w25 w26 := (Below.refl _ _).drew.trans hd26
  clear hd26
  have oh0_26 := Hid.mk ho26
  clear ho26
  have p00_26 := cell_later hb26 p00_25
  have p01_26 := cell_later hb26 p01_25
  have p10_26 := cell_later hb26 p10_25
  have p11_26 := cell_later hb26 p11_25
  have X00_26 := cell_later hb26 X00_25
  have X01_26 := cell_later hb26 X01_25
  have X10_26 := cell_later hb26 X10_25
  have X11_26 := cell_later hb26 X11_25
  have oo_26 := Hid.mk (RInts.ownBelow oo_25.out hb26)
  have og_26 := Hid.mk (RInts.ownBelow og_25.out hb26)
  have B_26 := B_25.trans (hb26.mono B_25.size)
  have zz26 : w25.heap.size ≤ w26.heap.size := hb26.size
  clear p00_25 p01_25 p10_25 p11_25 X00_25 X01_25 X10_25 X11_25 oo_25 og_25 B_25
  clear hb26
  (try go_wp2_with fail)
  refine hK.out _ _ ?_ (fun hHeld' => ?_)
  · (try dsimp only)
    exact ⟨p00_26, p01_26, p10_26, p11_26⟩
  clear hK K hHeld
  have hHeld := hHeld'
  clear hHeld'
  (try simp only [Act.put, List.setIfInBounds_toArray, List.set_cons_zero, List.set_cons_succ])
  refine wpAnyH_ready (rs := [3]) (by kernel_rfl) (by simp) ?_
  refine AllReadyH.cons (o := ?_) ?_ (fun K hK => ?_) AllReadyH.nil
  rotate_left
  · (simp only [List.getElem?_toArray, List.getElem?_cons_zero, List.getElem?_cons_succ]; rfl)
  go_simp
  go_at_call 9
  refine (toQuery_any fa1 fn1 fc1 ta1 tn1 tc1 zf1 zt1 _ HZ1.out.1 HZ1.out.2 hs11 hs21 (fun _ _ h => HSM1.out.2.1.each h) (At.below HA1.out.1 B_26) (AtSl.below HA1.out.2 B_26)).mono ?_
  rintro e w27 ⟨g27_1, g27_2, rfl, ho27, hb27⟩
  have oh1_27 := Hid.mk ho27
  clear ho27
  have p00_27 := cell_later hb27 p00_26
  have p01_27 := cell_later hb27 p01_26
  have p10_27 := cell_later hb27 p10_26
  have p11_27 := cell_later hb27 p11_26
  have X00_27 := cell_later hb27 X00_26
  have X01_27 := cell_later hb27 X01_26
  have X10_27 := cell_later hb27 X10_26
  have X11_27 := cell_later hb27 X11_26
  have oo_27 := Hid.mk (RInts.ownBelow oo_26.out hb27)
  have og_27 := Hid.mk (RInts.ownBelow og_26.out hb27)
  have oh0_27 := Hid.mk (RQry.ownBelow oh0_26.out hb27)
  have B_27 := B_26.trans (hb27.mono B_26.size)
  have zz27 : w26.heap.size ≤ w27.heap.size := hb27.size
  clear p00_26 p01_26 p10_26 p11_26 X00_26 X01_26 X10_26 X11_26 oo_26 og_26 oh0_26 B_26
  clear hb27
  (try go_wp2_with fail)
  refine hK.out _ _ ?_ (fun hHeld' => ?_)
  · (try dsimp only)
    exact ⟨p00_27, p01_27, p10_27, p11_27⟩
  clear hK K hHeld
  have hHeld := hHeld'
  clear hHeld'
  (try simp only [Act.put, List.setIfInBounds_toArray, List.set_cons_zero, List.set_cons_succ])
  refine wpAnyH_ready (rs := [5]) (by kernel_rfl) (by simp) ?_
  refine AllReadyH.cons (o := ?_) ?_ (fun K hK => ?_) AllReadyH.nil
  rotate_left
  · (simp only [List.getElem?_toArray, List.getElem?_cons_zero, List.getElem?_cons_succ]; rfl)
  go_simp
  go_at_call 10
  refine (toInts_rep a2 n2 c2 z2 _ HZ2.out hsn2 (At.below HA2.out B_27)).mono ?_
  rintro e w28 ⟨g28, rfl, ho28, hb28⟩
  have oh2_28 := Hid.mk ho28
  clear ho28
  have p00_28 := cell_later hb28 p00_27
  have p01_28 := cell_later hb28 p01_27
  have p10_28 := cell_later hb28 p10_27
  have p11_28 := cell_later hb28 p11_27
  have X00_28 := cell_later hb28 X00_27
  have X01_28 := cell_later hb28 X01_27
  have X10_28 := cell_later hb28 X10_27
  have X11_28 := cell_later hb28 X11_27
  have oo_28 := Hid.mk (RInts.ownBelow oo_27.out hb28)
  have og_28 := Hid.mk (RInts.ownBelow og_27.out hb28)
  have oh0_28 := Hid.mk (RQry.ownBelow oh0_27.out hb28)
  have oh1_28 := Hid.mk (RQry.ownBelow oh1_27.out hb28)
  have B_28 := B_27.trans (hb28.mono B_27.size)
  have zz28 : w27.heap.size ≤ w28.heap.size := hb28.size
  clear p00_27 p01_27 p10_27 p11_27 X00_27 X01_27 X10_27 X11_27 oo_27 og_27 oh0_27 oh1_27 B_27
  clear hb28
  (try go_wp2_with fail)
  refine hK.out _ _ ?_ (fun hHeld' => ?_)
  · (try dsimp only)
    exact ⟨p00_28, p01_28, p10_28, p11_28⟩
  clear hK K hHeld
  have hHeld := hHeld'
  clear hHeld'
  (try simp only [Act.put, List.setIfInBounds_toArray, List.set_cons_zero, List.set_cons_succ])
  refine wpAnyH_ready (rs := [6]) (by kernel_rfl) (by simp) ?_
  refine AllReadyH.cons (o := ?_) ?_ (fun K hK => ?_) AllReadyH.nil
  rotate_left
  · (simp only [List.getElem?_toArray, List.getElem?_cons_zero, List.getElem?_cons_succ]; rfl)
  go_simp
  go_at_call 15
  refine (HI.out _ _ _ _ _ _ _ _ _ oh0_28.out oh1_28.out oh2_28.out).mono ?_
  rintro e w29 ⟨⟨r29, m29, d29, rfl, hm29, ho29⟩, hb29⟩
  clear oh0_28
  clear oh1_28
  clear oh2_28
  obtain rfl : na = m29 := HNA.out.symm.trans hm29
  have ohg_29 := Hid.mk (RInts.of_owns HNA.out (by omega) ho29)
  clear ho29 hm29
  have p00_29 := cell_later hb29 p00_28
  have p01_29 := cell_later hb29 p01_28
  have p10_29 := cell_later hb29 p10_28
  have p11_29 := cell_later hb29 p11_28
  have X00_29 := cell_later hb29 X00_28
  have X01_29 := cell_later hb29 X01_28
  have X10_29 := cell_later hb29 X10_28
  have X11_29 := cell_later hb29 X11_28
  have oo_29 := Hid.mk (RInts.ownBelow oo_28.out hb29)
  have og_29 := Hid.mk (RInts.ownBelow og_28.out hb29)
  have B_29 := B_28.trans (hb29.mono B_28.size)
  have zz29 : w28.heap.size ≤ w29.heap.size := hb29.size
  clear p00_28 p01_28 p10_28 p11_28 X00_28 X01_28 X10_28 X11_28 oo_28 og_28 B_28
  clear hb29
  (try go_wp2_with fail)
  refine hK.out _ _ ?_ (fun hHeld' => ?_)
  · (try dsimp only)
    exact ⟨p00_29, p01_29, p10_29, p11_29⟩
  clear hK K hHeld
  have hHeld := hHeld'
  clear hHeld'
  (try simp only [Act.put, List.setIfInBounds_toArray, List.set_cons_zero, List.set_cons_succ])
  refine tk 7 ?_
  refine tk 8 ?_
  refine tk 9 ?_
  refine tk 10 ?_
  refine tk 11 ?_
  refine tk 12 ?_
  refine tk 13 ?_
  refine wpAnyH_done (by kernel_rfl) ?_ _
  clear hHeld
  go_wp2_with fail
  refine (eqIntS_same _ _ na _ _ ta _ HNA.out (by omega) (ints_at ohg_29.out) (ints_at oo_29.out)).mono ?_
  rintro e w30 ⟨rfl, hb30⟩
  have p00_30 := cell_later hb30 p00_29
  have p01_30 := cell_later hb30 p01_29
  have p10_30 := cell_later hb30 p10_29
  have p11_30 := cell_later hb30 p11_29
  have X00_30 := cell_later hb30 X00_29
  have X01_30 := cell_later hb30 X01_29
  have X10_30 := cell_later hb30 X10_29
  have X11_30 := cell_later hb30 X11_29
  have oo_30 := Hid.mk (RInts.ownBelow oo_29.out hb30)
  have og_30 := Hid.mk (RInts.ownBelow og_29.out hb30)
  have ohg_30 := Hid.mk (RInts.ownBelow ohg_29.out hb30)
  have B_30 := B_29.trans (hb30.mono B_29.size)
  have zz30 : w29.heap.size ≤ w30.heap.size := hb30.size
  clear p00_29 p01_29 p10_29 p11_29 X00_29 X01_29 X10_29 X11_29 oo_29 og_29 ohg_29 B_29
  clear hb30
  go_wp2_with fail
  refine (heldInts_rep _ na _ ta 1 _ HNA.out (by omega) (by omega) (by omega) (ints_at og_30.out)).mono ?_
  rintro e w31 ⟨rfl, hb31⟩
  have p00_31 := cell_later hb31 p00_30
  have p01_31 := cell_later hb31 p01_30
  have p10_31 := cell_later hb31 p10_30
  have p11_31 := cell_later hb31 p11_30
  have X00_31 := cell_later hb31 X00_30
  have X01_31 := cell_later hb31 X01_30
  have X10_31 := cell_later hb31 X10_30
  have X11_31 := cell_later hb31 X11_30
  have oo_31 := Hid.mk (RInts.ownBelow oo_30.out hb31)
  have og_31 := Hid.mk (RInts.ownBelow og_30.out hb31)
  have ohg_31 := Hid.mk (RInts.ownBelow ohg_30.out hb31)
  have B_31 := B_30.trans (hb31.mono B_30.size)
  have zz31 : w30.heap.size ≤ w31.heap.size := hb31.size
  clear p00_30 p01_30 p10_30 p11_30 X00_30 X01_30 X10_30 X11_30 oo_30 og_30 ohg_30 B_30
  clear hb31
  go_wp2
  go_ret
  exact ⟨rfl, B_31⟩

end Go.Proofs.Ytfodcjlekbdfhaa
