/- Several texts of one proof, in build order: LawSameQueries, Open, OpenP. -/
import Derived.Test.YtfodcjlekbdfhabM19
import Derived.Test.YtfodcjlekbdfhabM20
import Derived.Test.YtfodcjlekbdfhabM0
import Derived.ProofKit
import Derived.OpenShut
import Derived.ShutString
import Derived.ChangeOld
import Derived.Lib.SmallJoins
import Derived.Test.YtfodcjlekbdfhabM3

/- The law FnExactSameQueries returns true at every input, and writes nothing that was there. -/
namespace Go.Proofs.Ytfodcjlekbdfhab
open Go.RowKit

set_option maxRecDepth 100000 in
set_option maxHeartbeats 16000000 in
theorem lawSameQueries (fa0 : Option Addr) (fn0 fc0 : Nat) (ta0 : Option Addr) (tn0 tc0 : Nat) (z0 : Qry) (fa1 : Option Addr) (fn1 fc1 : Nat) (ta1 : Option Addr) (tn1 tc1 : Nat) (z1 : Qry) (a2 : Option Addr) (n2 c2 : Nat) (z2 : List Int) (w : World) (ha0 : RQry.At w [.slice fa0 fn0 fc0, .slice ta0 tn0 tc0] z0) (ha1 : RQry.At w [.slice fa1 fn1 fc1, .slice ta1 tn1 tc1] z1) (hz2 : z2.length = n2) (hn2 : n2 ≤ 9223372036854775807) (ha2 : At w a2 z2) :
    Calls Try.prog 3 #[.agg #[.slice fa0 fn0 fc0, .slice ta0 tn0 tc0], .agg #[.slice fa1 fn1 fc1, .slice ta1 tn1 tc1], .slice a2 n2 c2] w fun e w' => e = .returned (.bool true) ∧ Below w.heap.size w w' := by
  obtain ⟨zf0, zt0⟩ := z0
  obtain ⟨⟨h10, h20, h30, _⟩, ⟨k10, k20, k30, _⟩⟩ := RQry.at_iff ha0
  have HA0 := Hid.mk (And.intro h30 k30)
  have HZ0 : Hid (zf0.length = fn0 ∧ zt0.length = tn0) := ⟨h10, k10⟩
  clear ha0 h10 h30 k10 k30
  obtain ⟨zf1, zt1⟩ := z1
  obtain ⟨⟨h11, h21, h31, _⟩, ⟨k11, k21, k31, _⟩⟩ := RQry.at_iff ha1
  have HA1 := Hid.mk (And.intro h31 k31)
  have HZ1 : Hid (zf1.length = fn1 ∧ zt1.length = tn1) := ⟨h11, k11⟩
  clear ha1 h11 h31 k11 k31
  have HA2 := Hid.mk ha2
  have HZ2 := Hid.mk hz2
  clear ha2 hz2
  obtain ⟨W, hW⟩ : ∃ W, W = (w.alloc (.cells #[.slice fa0 fn0 fc0, .slice ta0 tn0 tc0] 25)).alloc (.cells #[.slice fa1 fn1 fc1, .slice ta1 tn1 tc1] 25) := ⟨_, rfl⟩
  have B0 : Below w.heap.size w W := by rw [hW]; exact ((Below.refl _ _).alloc (Nat.le_refl _) _).alloc (by simp) _
  have zW : w.heap.size + 1 < W.heap.size := by rw [hW]; simp
  have p00_0 : W.cell? ⟨w.heap.size, 0, none⟩ = some (.slice fa0 fn0 fc0) := by rw [hW]; simp
  have p01_0 : W.cell? ⟨w.heap.size, 1, none⟩ = some (.slice ta0 tn0 tc0) := by rw [hW]; simp
  have p10_0 : W.cell? ⟨w.heap.size + 1, 0, none⟩ = some (.slice fa1 fn1 fc1) := by rw [hW]; simp
  have p11_0 : W.cell? ⟨w.heap.size + 1, 1, none⟩ = some (.slice ta1 tn1 tc1) := by rw [hW]; simp
  by_cases big2 : 1048576 < n2
  · have big2' : (1048576 : Int) < (n2 : Int) := by omega
    go_enter Try.func3, Try.ntmps3
    go_wp2
    go_ret
    exact ⟨rfl, by rw [← hW]; exact B0⟩
  have hb2' : ¬ (1048576 : Int) < (n2 : Int) := by omega
  have hsn2 : n2 ≤ 1048576 := by omega
  have HVB2 := hsn2
  obtain ⟨C0, hC0⟩ : ∃ C : Nat, qcost (zf0, zt0) = C := ⟨_, rfl⟩
  have HC0 := Hid.mk hC0
  clear hC0
  obtain ⟨C1, hC1⟩ : ∃ C : Nat, qcost (zf1, zt1) = C := ⟨_, rfl⟩
  have HC1 := Hid.mk hC1
  clear hC1
  by_cases big0 : (1048576 : Int) < (C0 : Int)
  · go_enter Try.func3, Try.ntmps3
    go_wp2_with fail
    rw [← hW]
    clear hW
    refine (szQuery_any fa0 fn0 fc0 ta0 tn0 tc0 zf0 zt0 _ _ HZ0.out.1 h20 HZ0.out.2 k20 (by omega) (by omega) (AtSl.below HA0.out.2 B0)).mono ?_
    rintro e v0 ⟨rfl, hv0⟩
    rw [HC0.out, leftOf_no big0]
    have y0 := B0.trans (hv0.mono B0.size)
    go_wp2
    go_ret
    exact ⟨rfl, y0⟩
  have hl0 : ¬ (1048576 : Int) - (C0 : Int) < 0 := by omega
  have HSM0 : Hid (fn0 ≤ 1048576 ∧ SmA zt0 tn0 ∧ qmk (zf0, zt0) ≤ 1048576) := qry_small HZ0.out.1 HZ0.out.2 (by have := HC0.out; omega)
  have hs10 := HSM0.out.1
  have hs20 : tn0 ≤ 1048576 := HSM0.out.2.1.n
  have HVB0 := HSM0.out.2.2
  by_cases big1 : (1048576 : Int) - (C0 : Int) < (C1 : Int)
  · go_enter Try.func3, Try.ntmps3
    go_wp2_with fail
    rw [← hW]
    clear hW
    refine (szQuery_any fa0 fn0 fc0 ta0 tn0 tc0 zf0 zt0 _ _ HZ0.out.1 h20 HZ0.out.2 k20 (by omega) (by omega) (AtSl.below HA0.out.2 B0)).mono ?_
    rintro e v0 ⟨rfl, hv0⟩
    rw [HC0.out, leftOf_yes (by omega)]
    have y0 := B0.trans (hv0.mono B0.size)
    have qp00_0 := cell_later hv0 p00_0
    have qp01_0 := cell_later hv0 p01_0
    have qp10_0 := cell_later hv0 p10_0
    have qp11_0 := cell_later hv0 p11_0
    go_wp2_with fail
    refine (szQuery_any fa1 fn1 fc1 ta1 tn1 tc1 zf1 zt1 _ _ HZ1.out.1 h21 HZ1.out.2 k21 (by omega) (by omega) (AtSl.below HA1.out.2 y0)).mono ?_
    rintro e v1 ⟨rfl, hv1⟩
    rw [HC1.out, leftOf_no big1]
    have y1 := y0.trans (hv1.mono y0.size)
    go_wp2
    go_ret
    exact ⟨rfl, y1⟩
  have hl1 : ¬ (1048576 : Int) - (C0 : Int) - (C1 : Int) < 0 := by omega
  have HSM1 : Hid (fn1 ≤ 1048576 ∧ SmA zt1 tn1 ∧ qmk (zf1, zt1) ≤ 1048576) := qry_small HZ1.out.1 HZ1.out.2 (by have := HC1.out; omega)
  have hs11 := HSM1.out.1
  have hs21 : tn1 ≤ 1048576 := HSM1.out.2.1.n
  have HVB1 := HSM1.out.2.2
  obtain ⟨V0, hV0⟩ : ∃ V : Nat, qmk (zf0, zt0) = V := ⟨_, rfl⟩
  rw [hV0] at HVB0
  have HV0 := Hid.mk hV0
  clear hV0
  obtain ⟨V1, hV1⟩ : ∃ V : Nat, qmk (zf1, zt1) = V := ⟨_, rfl⟩
  rw [hV1] at HVB1
  have HV1 := Hid.mk hV1
  clear hV1
  obtain ⟨b1, b2, HS, HI⟩ : ∃ (b1 b2 : Bool), Hid (∀ (x0 y0 : Nat) (x1 y1 : Nat) (x2 : Nat) (w : World) (F0 F1 F2 : Nat → Prop), RQry.Own w F0 [.slice (some ⟨x0, 0, none⟩) fn0 fn0, .slice (some ⟨y0, 0, none⟩) tn0 tn0] (zf0, zt0) → RQry.Own w F1 [.slice (some ⟨x1, 0, none⟩) fn1 fn1, .slice (some ⟨y1, 0, none⟩) tn1 tn1] (zf1, zt1) → RInts.Own w F2 [.slice (some ⟨x2, 0, none⟩) n2 n2] z2 → Calls Try.prog 6 #[.agg #[.slice (some ⟨x0, 0, none⟩) fn0 fn0, .slice (some ⟨y0, 0, none⟩) tn0 tn0], .agg #[.slice (some ⟨x1, 0, none⟩) fn1 fn1, .slice (some ⟨y1, 0, none⟩) tn1 tn1], .slice (some ⟨x2, 0, none⟩) n2 n2] w fun e w' => e = .returned (.tuple #[.bool b1, .bool b2]) ∧ Below w.heap.size w w') ∧ Hid (∀ (x0 y0 : Nat) (x1 y1 : Nat) (x2 : Nat) (w : World) (F0 F1 F2 : Nat → Prop), RQry.Own w F0 [.slice (some ⟨x0, 0, none⟩) fn0 fn0, .slice (some ⟨y0, 0, none⟩) tn0 tn0] (zf0, zt0) → RQry.Own w F1 [.slice (some ⟨x1, 0, none⟩) fn1 fn1, .slice (some ⟨y1, 0, none⟩) tn1 tn1] (zf1, zt1) → RInts.Own w F2 [.slice (some ⟨x2, 0, none⟩) n2 n2] z2 → Calls Try.prog 9 #[.agg #[.slice (some ⟨x0, 0, none⟩) fn0 fn0, .slice (some ⟨y0, 0, none⟩) tn0 tn0], .agg #[.slice (some ⟨x1, 0, none⟩) fn1 fn1, .slice (some ⟨y1, 0, none⟩) tn1 tn1], .slice (some ⟨x2, 0, none⟩) n2 n2] w fun e w' => e = .returned (.tuple #[.bool b1, .bool b2]) ∧ Below w.heap.size w w') := ⟨smV zf0 zt0 zf1 zt1 z2, icB zf0 zt0 zf1 zt1 z2, fun x0 y0 x1 y1 x2 w F0 F1 F2 o0 o1 o2 => specSameQueries (some ⟨x0, 0, none⟩) fn0 fn0 zf0 (some ⟨y0, 0, none⟩) tn0 tn0 zt0 (some ⟨x1, 0, none⟩) fn1 fn1 zf1 (some ⟨y1, 0, none⟩) tn1 tn1 zt1 (some ⟨x2, 0, none⟩) n2 n2 z2 w HZ0.out.1 h20 (qry_at o0).1 HZ0.out.2 k20 (qry_at o0).2 HZ1.out.1 h21 (qry_at o1).1 HZ1.out.2 k21 (qry_at o1).2 HZ2.out hn2 (ints_at o2), fun x0 y0 x1 y1 x2 w F0 F1 F2 o0 o1 o2 => implSameQueries (some ⟨x0, 0, none⟩) fn0 fn0 zf0 (some ⟨y0, 0, none⟩) tn0 tn0 zt0 (some ⟨x1, 0, none⟩) fn1 fn1 zf1 (some ⟨y1, 0, none⟩) tn1 tn1 zt1 (some ⟨x2, 0, none⟩) n2 n2 z2 w HZ0.out.1 h20 (qry_at o0).1 HZ0.out.2 k20 (qry_at o0).2 HZ1.out.1 h21 (qry_at o1).1 HZ1.out.2 k21 (qry_at o1).2 HZ2.out hn2 (ints_at o2)⟩
  go_enter Try.func3, Try.ntmps3
  go_wp2_with fail
  rw [← hW]
  clear hW
  refine (szQuery_any fa0 fn0 fc0 ta0 tn0 tc0 zf0 zt0 _ _ HZ0.out.1 h20 HZ0.out.2 k20 (by omega) (by omega) (AtSl.below HA0.out.2 B0)).mono ?_
  rintro e w1 ⟨rfl, hb1⟩
  rw [HC0.out, leftOf_yes (by omega)]
  have p00_1 := cell_later hb1 p00_0
  have p01_1 := cell_later hb1 p01_0
  have p10_1 := cell_later hb1 p10_0
  have p11_1 := cell_later hb1 p11_0
  have B_1 := B0.trans (hb1.mono B0.size)
  have zz1 : W.heap.size ≤ w1.heap.size := hb1.size
  clear p00_0 p01_0 p10_0 p11_0
  clear hb1
  go_wp2_with fail
  refine (szQuery_any fa1 fn1 fc1 ta1 tn1 tc1 zf1 zt1 _ _ HZ1.out.1 h21 HZ1.out.2 k21 (by omega) (by omega) (AtSl.below HA1.out.2 B_1)).mono ?_
  rintro e w2 ⟨rfl, hb2⟩
  rw [HC1.out, leftOf_yes (by omega)]
  have p00_2 := cell_later hb2 p00_1
  have p01_2 := cell_later hb2 p01_1
  have p10_2 := cell_later hb2 p10_1
  have p11_2 := cell_later hb2 p11_1
  have B_2 := B_1.trans (hb2.mono B_1.size)
  have zz2 : w1.heap.size ≤ w2.heap.size := hb2.size
  clear p00_1 p01_1 p10_1 p11_1 B_1
  clear hb2
  go_wp2_with fail
  refine wp_region_held_drew (S := fun w' => w'.cell? ⟨w.heap.size, 0, none⟩ = some (.slice fa0 fn0 fc0) ∧ w'.cell? ⟨w.heap.size, 1, none⟩ = some (.slice ta0 tn0 tc0) ∧ w'.cell? ⟨w.heap.size + 1, 0, none⟩ = some (.slice fa1 fn1 fc1) ∧ w'.cell? ⟨w.heap.size + 1, 1, none⟩ = some (.slice ta1 tn1 tc1)) (by kernel_rfl) ?_ (fun hHeld => ?_)
  · (try dsimp only)
    exact ⟨p00_2, p01_2, p10_2, p11_2⟩
  refine tk 0 ?_
  refine tk 2 ?_
  refine tk 4 ?_
  refine wpAnyH_ready (rs := [1]) (by kernel_rfl) (by simp) ?_
  refine AllReadyH.cons (o := ?_) ?_ (fun K hK => ?_) AllReadyH.nil
  rotate_left
  · (simp only [List.getElem?_toArray, List.getElem?_cons_zero, List.getElem?_cons_succ]; rfl)
  go_simp
  go_at_call 7
  refine (toQuery_any fa0 fn0 fc0 ta0 tn0 tc0 zf0 zt0 _ HZ0.out.1 HZ0.out.2 hs10 hs20 (fun _ _ h => HSM0.out.2.1.each h) (At.below HA0.out.1 B_2.drew) (AtSl.below HA0.out.2 B_2.drew)).mono ?_
  rintro e w3 ⟨g3_1, g3_2, rfl, ho3, hd3⟩
  have hb3 : Below w2.heap.size w2 w3 := (Below.refl _ _).drew.trans hd3
  clear hd3
  have ot0_3 := Hid.mk ho3
  clear ho3
  have p00_3 := cell_later hb3 p00_2
  have p01_3 := cell_later hb3 p01_2
  have p10_3 := cell_later hb3 p10_2
  have p11_3 := cell_later hb3 p11_2
  have B_3 := B_2.trans (hb3.mono B_2.size)
  have zz3 : w2.heap.size ≤ w3.heap.size := hb3.size
  clear p00_2 p01_2 p10_2 p11_2 B_2
  clear hb3
  (try go_wp2_with fail)
  refine hK.out _ _ ?_ (fun hHeld' => ?_)
  · (try dsimp only)
    exact ⟨p00_3, p01_3, p10_3, p11_3⟩
  clear hK K hHeld
  have hHeld := hHeld'
  clear hHeld'
  (try simp only [Act.put, List.setIfInBounds_toArray, List.set_cons_zero, List.set_cons_succ])
  refine wpAnyH_ready (rs := [3]) (by kernel_rfl) (by simp) ?_
  refine AllReadyH.cons (o := ?_) ?_ (fun K hK => ?_) AllReadyH.nil
  rotate_left
  · (simp only [List.getElem?_toArray, List.getElem?_cons_zero, List.getElem?_cons_succ]; rfl)
  go_simp
  go_at_call 7
  refine (toQuery_any fa1 fn1 fc1 ta1 tn1 tc1 zf1 zt1 _ HZ1.out.1 HZ1.out.2 hs11 hs21 (fun _ _ h => HSM1.out.2.1.each h) (At.below HA1.out.1 B_3) (AtSl.below HA1.out.2 B_3)).mono ?_
  rintro e w4 ⟨g4_1, g4_2, rfl, ho4, hb4⟩
  have ot1_4 := Hid.mk ho4
  clear ho4
  have p00_4 := cell_later hb4 p00_3
  have p01_4 := cell_later hb4 p01_3
  have p10_4 := cell_later hb4 p10_3
  have p11_4 := cell_later hb4 p11_3
  have ot0_4 := Hid.mk (RQry.ownBelow ot0_3.out hb4)
  have B_4 := B_3.trans (hb4.mono B_3.size)
  have zz4 : w3.heap.size ≤ w4.heap.size := hb4.size
  clear p00_3 p01_3 p10_3 p11_3 ot0_3 B_3
  clear hb4
  (try go_wp2_with fail)
  refine hK.out _ _ ?_ (fun hHeld' => ?_)
  · (try dsimp only)
    exact ⟨p00_4, p01_4, p10_4, p11_4⟩
  clear hK K hHeld
  have hHeld := hHeld'
  clear hHeld'
  (try simp only [Act.put, List.setIfInBounds_toArray, List.set_cons_zero, List.set_cons_succ])
  refine wpAnyH_ready (rs := [5]) (by kernel_rfl) (by simp) ?_
  refine AllReadyH.cons (o := ?_) ?_ (fun K hK => ?_) AllReadyH.nil
  rotate_left
  · (simp only [List.getElem?_toArray, List.getElem?_cons_zero, List.getElem?_cons_succ]; rfl)
  go_simp
  go_at_call 8
  refine (toInts_rep a2 n2 c2 z2 _ HZ2.out hsn2 (At.below HA2.out B_4)).mono ?_
  rintro e w5 ⟨g5, rfl, ho5, hb5⟩
  have ot2_5 := Hid.mk ho5
  clear ho5
  have p00_5 := cell_later hb5 p00_4
  have p01_5 := cell_later hb5 p01_4
  have p10_5 := cell_later hb5 p10_4
  have p11_5 := cell_later hb5 p11_4
  have ot0_5 := Hid.mk (RQry.ownBelow ot0_4.out hb5)
  have ot1_5 := Hid.mk (RQry.ownBelow ot1_4.out hb5)
  have B_5 := B_4.trans (hb5.mono B_4.size)
  have zz5 : w4.heap.size ≤ w5.heap.size := hb5.size
  clear p00_4 p01_4 p10_4 p11_4 ot0_4 ot1_4 B_4
  clear hb5
  (try go_wp2_with fail)
  refine hK.out _ _ ?_ (fun hHeld' => ?_)
  · (try dsimp only)
    exact ⟨p00_5, p01_5, p10_5, p11_5⟩
  clear hK K hHeld
  have hHeld := hHeld'
  clear hHeld'
  (try simp only [Act.put, List.setIfInBounds_toArray, List.set_cons_zero, List.set_cons_succ])
  refine wpAnyH_ready (rs := [6]) (by kernel_rfl) (by simp) ?_
  refine AllReadyH.cons (o := ?_) ?_ (fun K hK => ?_) AllReadyH.nil
  rotate_left
  · (simp only [List.getElem?_toArray, List.getElem?_cons_zero, List.getElem?_cons_succ]; rfl)
  go_simp
  go_at_call 6
  refine (HS.out _ _ _ _ _ _ _ _ _ ot0_5.out ot1_5.out ot2_5.out).mono ?_
  rintro e w6 ⟨rfl, hb6⟩
  clear ot0_5
  clear ot1_5
  clear ot2_5
  have p00_6 := cell_later hb6 p00_5
  have p01_6 := cell_later hb6 p01_5
  have p10_6 := cell_later hb6 p10_5
  have p11_6 := cell_later hb6 p11_5
  have B_6 := B_5.trans (hb6.mono B_5.size)
  have zz6 : w5.heap.size ≤ w6.heap.size := hb6.size
  clear p00_5 p01_5 p10_5 p11_5 B_5
  clear hb6
  (try go_wp2_with fail)
  refine hK.out _ _ ?_ (fun hHeld' => ?_)
  · (try dsimp only)
    exact ⟨p00_6, p01_6, p10_6, p11_6⟩
  clear hK K hHeld
  have hHeld := hHeld'
  clear hHeld'
  (try simp only [Act.put, List.setIfInBounds_toArray, List.set_cons_zero, List.set_cons_succ])
  refine tk 7 ?_
  refine tk 8 ?_
  refine tk 9 ?_
  refine tk 10 ?_
  refine tk 11 ?_
  refine wpAnyH_done (by kernel_rfl) ?_ _
  clear hHeld
  go_wp2_with fail
  refine (toQuery_any fa0 fn0 fc0 ta0 tn0 tc0 zf0 zt0 _ HZ0.out.1 HZ0.out.2 hs10 hs20 (fun _ _ h => HSM0.out.2.1.each h) (At.below HA0.out.1 B_6) (AtSl.below HA0.out.2 B_6)).mono ?_
  rintro e w7 ⟨g7_1, g7_2, rfl, ho7, hb7⟩
  have ox0_7 := Hid.mk ho7
  clear ho7
  have p00_7 := cell_later hb7 p00_6
  have p01_7 := cell_later hb7 p01_6
  have p10_7 := cell_later hb7 p10_6
  have p11_7 := cell_later hb7 p11_6
  have B_7 := B_6.trans (hb7.mono B_6.size)
  have zz7 : w6.heap.size ≤ w7.heap.size := hb7.size
  clear p00_6 p01_6 p10_6 p11_6 B_6
  clear hb7
  obtain ⟨w8, hU8⟩ : ∃ u, u = w7.alloc (.cells #[.slice (some ⟨g7_1, 0, none⟩) fn0 fn0, .slice (some ⟨g7_2, 0, none⟩) tn0 tn0] 31) := ⟨_, rfl⟩
  have hb8 : Below w7.heap.size w7 w8 := by rw [hU8]; exact (Below.refl _ _).alloc (Nat.le_refl _) _
  have zl8 : w7.heap.size < w8.heap.size := by rw [hU8]; simp
  have nX00 : w8.cell? ⟨w7.heap.size, 0, none⟩ = some (.slice (some ⟨g7_1, 0, none⟩) fn0 fn0) := by rw [hU8]; simp
  have nX01 : w8.cell? ⟨w7.heap.size, 1, none⟩ = some (.slice (some ⟨g7_2, 0, none⟩) tn0 tn0) := by rw [hU8]; simp
  have p00_8 := cell_later hb8 p00_7
  have p01_8 := cell_later hb8 p01_7
  have p10_8 := cell_later hb8 p10_7
  have p11_8 := cell_later hb8 p11_7
  have ox0_8 := Hid.mk (RQry.ownBelow ox0_7.out hb8)
  have B_8 := B_7.trans (hb8.mono B_7.size)
  have zz8 : w7.heap.size ≤ w8.heap.size := hb8.size
  clear p00_7 p01_7 p10_7 p11_7 ox0_7 B_7
  clear hb8
  have xp00 := p00_8
  rw [hU8] at xp00
  have xp01 := p01_8
  rw [hU8] at xp01
  have xp10 := p10_8
  rw [hU8] at xp10
  have xp11 := p11_8
  rw [hU8] at xp11
  have xX00 := nX00
  rw [hU8] at xX00
  have xX01 := nX01
  rw [hU8] at xX01
  go_wp2_with fail
  rw [← hU8]
  clear hU8
  clear xp00 xp01 xp10 xp11 xX00 xX01
  refine (toQuery_any fa1 fn1 fc1 ta1 tn1 tc1 zf1 zt1 _ HZ1.out.1 HZ1.out.2 hs11 hs21 (fun _ _ h => HSM1.out.2.1.each h) (At.below HA1.out.1 B_8) (AtSl.below HA1.out.2 B_8)).mono ?_
  rintro e w9 ⟨g9_1, g9_2, rfl, ho9, hb9⟩
  have ox1_9 := Hid.mk ho9
  clear ho9
  have p00_9 := cell_later hb9 p00_8
  have p01_9 := cell_later hb9 p01_8
  have p10_9 := cell_later hb9 p10_8
  have p11_9 := cell_later hb9 p11_8
  have X00_9 := cell_later hb9 nX00
  have X01_9 := cell_later hb9 nX01
  have ox0_9 := Hid.mk (RQry.ownBelow ox0_8.out hb9)
  have B_9 := B_8.trans (hb9.mono B_8.size)
  have zz9 : w8.heap.size ≤ w9.heap.size := hb9.size
  clear p00_8 p01_8 p10_8 p11_8 nX00 nX01 ox0_8 B_8
  clear hb9
  obtain ⟨w10, hU10⟩ : ∃ u, u = w9.alloc (.cells #[.slice (some ⟨g9_1, 0, none⟩) fn1 fn1, .slice (some ⟨g9_2, 0, none⟩) tn1 tn1] 31) := ⟨_, rfl⟩
  have hb10 : Below w9.heap.size w9 w10 := by rw [hU10]; exact (Below.refl _ _).alloc (Nat.le_refl _) _
  have zl10 : w9.heap.size < w10.heap.size := by rw [hU10]; simp
  have nX10 : w10.cell? ⟨w9.heap.size, 0, none⟩ = some (.slice (some ⟨g9_1, 0, none⟩) fn1 fn1) := by rw [hU10]; simp
  have nX11 : w10.cell? ⟨w9.heap.size, 1, none⟩ = some (.slice (some ⟨g9_2, 0, none⟩) tn1 tn1) := by rw [hU10]; simp
  have p00_10 := cell_later hb10 p00_9
  have p01_10 := cell_later hb10 p01_9
  have p10_10 := cell_later hb10 p10_9
  have p11_10 := cell_later hb10 p11_9
  have X00_10 := cell_later hb10 X00_9
  have X01_10 := cell_later hb10 X01_9
  have ox0_10 := Hid.mk (RQry.ownBelow ox0_9.out hb10)
  have ox1_10 := Hid.mk (RQry.ownBelow ox1_9.out hb10)
  have B_10 := B_9.trans (hb10.mono B_9.size)
  have zz10 : w9.heap.size ≤ w10.heap.size := hb10.size
  clear p00_9 p01_9 p10_9 p11_9 X00_9 X01_9 ox0_9 ox1_9 B_9
  clear hb10
  have xp00 := p00_10
  rw [hU10] at xp00
  have xp01 := p01_10
  rw [hU10] at xp01
  have xp10 := p10_10
  rw [hU10] at xp10
  have xp11 := p11_10
  rw [hU10] at xp11
  have xX00 := X00_10
  rw [hU10] at xX00
  have xX01 := X01_10
  rw [hU10] at xX01
  have xX10 := nX10
  rw [hU10] at xX10
  have xX11 := nX11
  rw [hU10] at xX11
  go_wp2_with fail
  rw [← hU10]
  clear hU10
  clear xp00 xp01 xp10 xp11 xX00 xX01 xX10 xX11
  refine (toInts_rep a2 n2 c2 z2 _ HZ2.out hsn2 (At.below HA2.out B_10)).mono ?_
  rintro e w11 ⟨g11, rfl, ho11, hb11⟩
  have ox2_11 := Hid.mk ho11
  clear ho11
  have p00_11 := cell_later hb11 p00_10
  have p01_11 := cell_later hb11 p01_10
  have p10_11 := cell_later hb11 p10_10
  have p11_11 := cell_later hb11 p11_10
  have X00_11 := cell_later hb11 X00_10
  have X01_11 := cell_later hb11 X01_10
  have X10_11 := cell_later hb11 nX10
  have X11_11 := cell_later hb11 nX11
  have ox0_11 := Hid.mk (RQry.ownBelow ox0_10.out hb11)
  have ox1_11 := Hid.mk (RQry.ownBelow ox1_10.out hb11)
  have B_11 := B_10.trans (hb11.mono B_10.size)
  have zz11 : w10.heap.size ≤ w11.heap.size := hb11.size
  clear p00_10 p01_10 p10_10 p11_10 X00_10 X01_10 nX10 nX11 ox0_10 ox1_10 B_10
  clear hb11
  go_wp2_with fail
  refine (HI.out _ _ _ _ _ _ _ _ _ ox0_11.out ox1_11.out ox2_11.out).mono ?_
  rintro e w12 ⟨rfl, hb12⟩
  have p00_12 := cell_later hb12 p00_11
  have p01_12 := cell_later hb12 p01_11
  have p10_12 := cell_later hb12 p10_11
  have p11_12 := cell_later hb12 p11_11
  have X00_12 := cell_later hb12 X00_11
  have X01_12 := cell_later hb12 X01_11
  have X10_12 := cell_later hb12 X10_11
  have X11_12 := cell_later hb12 X11_11
  have ox0_12 := Hid.mk (RQry.ownBelow ox0_11.out hb12)
  have ox1_12 := Hid.mk (RQry.ownBelow ox1_11.out hb12)
  have ox2_12 := Hid.mk (RInts.ownBelow ox2_11.out hb12)
  have B_12 := B_11.trans (hb12.mono B_11.size)
  have zz12 : w11.heap.size ≤ w12.heap.size := hb12.size
  clear p00_11 p01_11 p10_11 p11_11 X00_11 X01_11 X10_11 X11_11 ox0_11 ox1_11 ox2_11 B_11
  clear hb12
  go_wp2_with fail
  refine wp_region_held_drew (S := fun w' => w'.cell? ⟨w7.heap.size, 0, none⟩ = some (.slice (some ⟨g7_1, 0, none⟩) fn0 fn0) ∧ w'.cell? ⟨w7.heap.size, 1, none⟩ = some (.slice (some ⟨g7_2, 0, none⟩) tn0 tn0) ∧ w'.cell? ⟨w.heap.size, 0, none⟩ = some (.slice fa0 fn0 fc0) ∧ w'.cell? ⟨w.heap.size, 1, none⟩ = some (.slice ta0 tn0 tc0)) (by kernel_rfl) ?_ (fun hHeld => ?_)
  · (try dsimp only)
    exact ⟨X00_12, X01_12, p00_12, p01_12⟩
  refine tk 0 ?_
  refine tk 1 ?_
  refine wpAnyH_ready (rs := [2]) (by kernel_rfl) (by simp) ?_
  refine AllReadyH.cons (o := ?_) ?_ (fun K hK => ?_) AllReadyH.nil
  rotate_left
  · (simp only [List.getElem?_toArray, List.getElem?_cons_zero, List.getElem?_cons_succ]; rfl)
  go_simp
  go_at_call 7
  refine (toQuery_any fa0 fn0 fc0 ta0 tn0 tc0 zf0 zt0 _ HZ0.out.1 HZ0.out.2 hs10 hs20 (fun _ _ h => HSM0.out.2.1.each h) (At.below HA0.out.1 B_12.drew) (AtSl.below HA0.out.2 B_12.drew)).mono ?_
  rintro e w13 ⟨g13_1, g13_2, rfl, ho13, hd13⟩
  have hb13 : Below w12.heap.size w12 w13 := (Below.refl _ _).drew.trans hd13
  clear hd13
  have oy_13 := Hid.mk ho13
  clear ho13
  have p00_13 := cell_later hb13 p00_12
  have p01_13 := cell_later hb13 p01_12
  have p10_13 := cell_later hb13 p10_12
  have p11_13 := cell_later hb13 p11_12
  have X00_13 := cell_later hb13 X00_12
  have X01_13 := cell_later hb13 X01_12
  have X10_13 := cell_later hb13 X10_12
  have X11_13 := cell_later hb13 X11_12
  have ox0_13 := Hid.mk (RQry.ownBelow ox0_12.out hb13)
  have ox1_13 := Hid.mk (RQry.ownBelow ox1_12.out hb13)
  have ox2_13 := Hid.mk (RInts.ownBelow ox2_12.out hb13)
  have B_13 := B_12.trans (hb13.mono B_12.size)
  have zz13 : w12.heap.size ≤ w13.heap.size := hb13.size
  clear p00_12 p01_12 p10_12 p11_12 X00_12 X01_12 X10_12 X11_12 ox0_12 ox1_12 ox2_12 B_12
  clear hb13
  (try go_wp2_with fail)
  refine hK.out _ _ ?_ (fun hHeld' => ?_)
  · (try dsimp only)
    exact ⟨X00_13, X01_13, p00_13, p01_13⟩
  clear hK K hHeld
  have hHeld := hHeld'
  clear hHeld'
  (try simp only [Act.put, List.setIfInBounds_toArray, List.set_cons_zero, List.set_cons_succ])
  refine wpAnyH_ready (rs := [3]) (by kernel_rfl) (by simp) ?_
  refine AllReadyH.cons (o := ?_) ?_ (fun K hK => ?_) AllReadyH.nil
  rotate_left
  · (simp only [List.getElem?_toArray, List.getElem?_cons_zero, List.getElem?_cons_succ]; rfl)
  go_simp
  go_at_call 10
  refine (eqQuery_same _ _ fn0 _ _ _ _ tn0 _ _ zf0 zt0 _ HZ0.out.1 HZ0.out.2 hs10 hs20 (fun _ _ h => HSM0.out.2.1.each h) (qry_at ox0_13.out).1 (qry_at ox0_13.out).2 (qry_at oy_13.out).1 (qry_at oy_13.out).2).mono ?_
  rintro e w14 ⟨rfl, hb14⟩
  clear oy_13
  have p00_14 := cell_later hb14 p00_13
  have p01_14 := cell_later hb14 p01_13
  have p10_14 := cell_later hb14 p10_13
  have p11_14 := cell_later hb14 p11_13
  have X00_14 := cell_later hb14 X00_13
  have X01_14 := cell_later hb14 X01_13
  have X10_14 := cell_later hb14 X10_13
  have X11_14 := cell_later hb14 X11_13
  have ox0_14 := Hid.mk (RQry.ownBelow ox0_13.out hb14)
  have ox1_14 := Hid.mk (RQry.ownBelow ox1_13.out hb14)
  have ox2_14 := Hid.mk (RInts.ownBelow ox2_13.out hb14)
  have B_14 := B_13.trans (hb14.mono B_13.size)
  have zz14 : w13.heap.size ≤ w14.heap.size := hb14.size
  clear p00_13 p01_13 p10_13 p11_13 X00_13 X01_13 X10_13 X11_13 ox0_13 ox1_13 ox2_13 B_13
  clear hb14
  (try go_wp2_with fail)
  refine hK.out _ _ ?_ (fun hHeld' => ?_)
  · (try dsimp only)
    exact ⟨X00_14, X01_14, p00_14, p01_14⟩
  clear hK K hHeld
  have hHeld := hHeld'
  clear hHeld'
  (try simp only [Act.put, List.setIfInBounds_toArray, List.set_cons_zero, List.set_cons_succ])
  refine tk 4 ?_
  refine wpAnyH_done (by kernel_rfl) ?_ _
  clear hHeld
  go_wp2_with fail
  refine wp_region_held_drew (S := fun w' => w'.cell? ⟨w9.heap.size, 0, none⟩ = some (.slice (some ⟨g9_1, 0, none⟩) fn1 fn1) ∧ w'.cell? ⟨w9.heap.size, 1, none⟩ = some (.slice (some ⟨g9_2, 0, none⟩) tn1 tn1) ∧ w'.cell? ⟨w.heap.size + 1, 0, none⟩ = some (.slice fa1 fn1 fc1) ∧ w'.cell? ⟨w.heap.size + 1, 1, none⟩ = some (.slice ta1 tn1 tc1)) (by kernel_rfl) ?_ (fun hHeld => ?_)
  · (try dsimp only)
    exact ⟨X10_14, X11_14, p10_14, p11_14⟩
  refine tk 0 ?_
  refine tk 1 ?_
  refine wpAnyH_ready (rs := [2]) (by kernel_rfl) (by simp) ?_
  refine AllReadyH.cons (o := ?_) ?_ (fun K hK => ?_) AllReadyH.nil
  rotate_left
  · (simp only [List.getElem?_toArray, List.getElem?_cons_zero, List.getElem?_cons_succ]; rfl)
  go_simp
  go_at_call 7
  refine (toQuery_any fa1 fn1 fc1 ta1 tn1 tc1 zf1 zt1 _ HZ1.out.1 HZ1.out.2 hs11 hs21 (fun _ _ h => HSM1.out.2.1.each h) (At.below HA1.out.1 B_14.drew) (AtSl.below HA1.out.2 B_14.drew)).mono ?_
  rintro e w15 ⟨g15_1, g15_2, rfl, ho15, hd15⟩
  have hb15 : Below w14.heap.size w14 w15 := (Below.refl _ _).drew.trans hd15
  clear hd15
  have oy_15 := Hid.mk ho15
  clear ho15
  have p00_15 := cell_later hb15 p00_14
  have p01_15 := cell_later hb15 p01_14
  have p10_15 := cell_later hb15 p10_14
  have p11_15 := cell_later hb15 p11_14
  have X00_15 := cell_later hb15 X00_14
  have X01_15 := cell_later hb15 X01_14
  have X10_15 := cell_later hb15 X10_14
  have X11_15 := cell_later hb15 X11_14
  have ox0_15 := Hid.mk (RQry.ownBelow ox0_14.out hb15)
  have ox1_15 := Hid.mk (RQry.ownBelow ox1_14.out hb15)
  have ox2_15 := Hid.mk (RInts.ownBelow ox2_14.out hb15)
  have B_15 := B_14.trans (hb15.mono B_14.size)
  have zz15 : w14.heap.size ≤ w15.heap.size := hb15.size
  clear p00_14 p01_14 p10_14 p11_14 X00_14 X01_14 X10_14 X11_14 ox0_14 ox1_14 ox2_14 B_14
  clear hb15
  (try go_wp2_with fail)
  refine hK.out _ _ ?_ (fun hHeld' => ?_)
  · (try dsimp only)
    exact ⟨X10_15, X11_15, p10_15, p11_15⟩
  clear hK K hHeld
  have hHeld := hHeld'
  clear hHeld'
  (try simp only [Act.put, List.setIfInBounds_toArray, List.set_cons_zero, List.set_cons_succ])
  refine wpAnyH_ready (rs := [3]) (by kernel_rfl) (by simp) ?_
  refine AllReadyH.cons (o := ?_) ?_ (fun K hK => ?_) AllReadyH.nil
  rotate_left
  · (simp only [List.getElem?_toArray, List.getElem?_cons_zero, List.getElem?_cons_succ]; rfl)
  go_simp
  go_at_call 10
  refine (eqQuery_same _ _ fn1 _ _ _ _ tn1 _ _ zf1 zt1 _ HZ1.out.1 HZ1.out.2 hs11 hs21 (fun _ _ h => HSM1.out.2.1.each h) (qry_at ox1_15.out).1 (qry_at ox1_15.out).2 (qry_at oy_15.out).1 (qry_at oy_15.out).2).mono ?_
  rintro e w16 ⟨rfl, hb16⟩
  clear oy_15
  have p00_16 := cell_later hb16 p00_15
  have p01_16 := cell_later hb16 p01_15
  have p10_16 := cell_later hb16 p10_15
  have p11_16 := cell_later hb16 p11_15
  have X00_16 := cell_later hb16 X00_15
  have X01_16 := cell_later hb16 X01_15
  have X10_16 := cell_later hb16 X10_15
  have X11_16 := cell_later hb16 X11_15
  have ox0_16 := Hid.mk (RQry.ownBelow ox0_15.out hb16)
  have ox1_16 := Hid.mk (RQry.ownBelow ox1_15.out hb16)
  have ox2_16 := Hid.mk (RInts.ownBelow ox2_15.out hb16)
  have B_16 := B_15.trans (hb16.mono B_15.size)
  have zz16 : w15.heap.size ≤ w16.heap.size := hb16.size
  clear p00_15 p01_15 p10_15 p11_15 X00_15 X01_15 X10_15 X11_15 ox0_15 ox1_15 ox2_15 B_15
  clear hb16
  (try go_wp2_with fail)
  refine hK.out _ _ ?_ (fun hHeld' => ?_)
  · (try dsimp only)
    exact ⟨X10_16, X11_16, p10_16, p11_16⟩
  clear hK K hHeld
  have hHeld := hHeld'
  clear hHeld'
  (try simp only [Act.put, List.setIfInBounds_toArray, List.set_cons_zero, List.set_cons_succ])
  refine tk 4 ?_
  refine wpAnyH_done (by kernel_rfl) ?_ _
  clear hHeld
  go_wp2_with fail
  refine (toInts_rep a2 n2 c2 z2 _ HZ2.out hsn2 (At.below HA2.out B_16)).mono ?_
  rintro e w17 ⟨g17, rfl, ho17, hb17⟩
  have oy_17 := Hid.mk ho17
  clear ho17
  have p00_17 := cell_later hb17 p00_16
  have p01_17 := cell_later hb17 p01_16
  have p10_17 := cell_later hb17 p10_16
  have p11_17 := cell_later hb17 p11_16
  have X00_17 := cell_later hb17 X00_16
  have X01_17 := cell_later hb17 X01_16
  have X10_17 := cell_later hb17 X10_16
  have X11_17 := cell_later hb17 X11_16
  have ox0_17 := Hid.mk (RQry.ownBelow ox0_16.out hb17)
  have ox1_17 := Hid.mk (RQry.ownBelow ox1_16.out hb17)
  have ox2_17 := Hid.mk (RInts.ownBelow ox2_16.out hb17)
  have B_17 := B_16.trans (hb17.mono B_16.size)
  have zz17 : w16.heap.size ≤ w17.heap.size := hb17.size
  clear p00_16 p01_16 p10_16 p11_16 X00_16 X01_16 X10_16 X11_16 ox0_16 ox1_16 ox2_16 B_16
  clear hb17
  go_wp2_with fail
  refine (eqIntS_same _ _ n2 _ _ z2 _ HZ2.out hsn2 (ints_at ox2_17.out) (ints_at oy_17.out)).mono ?_
  rintro e w18 ⟨rfl, hb18⟩
  clear oy_17
  have p00_18 := cell_later hb18 p00_17
  have p01_18 := cell_later hb18 p01_17
  have p10_18 := cell_later hb18 p10_17
  have p11_18 := cell_later hb18 p11_17
  have X00_18 := cell_later hb18 X00_17
  have X01_18 := cell_later hb18 X01_17
  have X10_18 := cell_later hb18 X10_17
  have X11_18 := cell_later hb18 X11_17
  have ox0_18 := Hid.mk (RQry.ownBelow ox0_17.out hb18)
  have ox1_18 := Hid.mk (RQry.ownBelow ox1_17.out hb18)
  have ox2_18 := Hid.mk (RInts.ownBelow ox2_17.out hb18)
  have B_18 := B_17.trans (hb18.mono B_17.size)
  have zz18 : w17.heap.size ≤ w18.heap.size := hb18.size
  clear p00_17 p01_17 p10_17 p11_17 X00_17 X01_17 X10_17 X11_17 ox0_17 ox1_17 ox2_17 B_17
  clear hb18
  go_wp2
  go_ret
  exact ⟨rfl, B_18⟩

end Go.Proofs.Ytfodcjlekbdfhab

/- Opening the laws' arguments: rows, slices of ints; plain facts on readings. -/
namespace Go.Proofs.Ytfodcjlekbdfhab
open Go.ChangeShapes Go.WideShapes Go.ChangeAt Go.RowKit Go.Joins Go.Deep

section
variable {H : Type} {enc : TypeId × Value → H} {P : Program} {w : World} {base : Nat} {spare : Nat → Bool} {held : Bool}

theorem array1 {α : Type} {cs : Array α} (h : cs.size = 1) : ∃ c0, cs = #[c0] := by
  obtain ⟨l⟩ := cs
  match l, h with
  | [c0], _ => exact ⟨c0, rfl⟩

theorem open_agg1 {r : Reach} {b0 : Nat} {t : TypeId} {f0 : Field} {v : Value} {d : DataW H} {p : List MemPlace} (hs : P.underlying t = some (.struct #[f0])) (hone : oneCellFields P #[f0] = true) (hC : P.cellsOf t = 1)
    (hv : Value.okWide P w r b0 t v) (h : DataW.Trod enc P w base spare held t v d p) :
    ∃ (v0 : Value) (y0 : DataW H × List MemPlace) (n : Nat), v = .agg #[v0] ∧ d = .agg [y0.1] ∧ p = y0.2 ∧ DataW.trod enc P w base spare held n f0.type [v0] = some y0 := by
  obtain ⟨cs, rfl, hsz⟩ := okWide_struct hs hv
  obtain ⟨c0, rfl⟩ := array1 (hsz.trans hC)
  obtain ⟨fuel, hf⟩ := h
  obtain ⟨y0, n, hx, _, h0⟩ := trod_struct1 hs hf
  obtain ⟨o0, k0⟩ := hone_of hone 0 f0 rfl
  simp only [Prod.mk.injEq] at hx
  exact ⟨c0, y0, n, rfl, hx.1, hx.2, by simpa [Value.cells, o0, k0] using h0⟩

/-- A slice of ints that reads: its numbers. -/
theorem open_at {t e : TypeId} {fuel n c : Nat} {a : Option Addr} {x : DataW H × List MemPlace} (ht : P.underlying t = some (.slice e)) (he : P.underlying e = some (.int .i64)) (hC : P.cellsOf e = 1)
    (h : DataW.trod enc P w base spare held fuel t [.slice a n c] = some x) : ∃ zs : List Int, zs.length = n ∧ n ≤ 9223372036854775807 ∧ At w a zs := by
  rcases open_ints ht he hC h with ⟨hcs, _⟩ | ⟨ad, l, c', zs, hcs, _, hl, hm, hz, _, hcell, _⟩
  · simp at hcs
    obtain ⟨rfl, rfl, rfl⟩ := hcs
    exact ⟨[], rfl, by omega, At.nil _ _⟩
  · simp at hcs
    obtain ⟨rfl, rfl, rfl⟩ := hcs
    unfold maxLen at hm
    have hz' : n ≤ zs.length := by split at hz <;> omega
    refine ⟨zs.take n, by simp; omega, by omega, ?_⟩
    by_cases h0 : n = 0
    · left; simp [h0]
    · right
      obtain ⟨b, off, spot⟩ := ad
      have hc := hcell 0 (by omega)
      have hspot : spot = none := by simpa [Addr.add] using World.cell?_spot hc
      subst hspot
      refine ⟨b, off, rfl, fun i hi => ?_⟩
      have hin : i < n := by simp at hi; omega
      have := hcell i (by omega)
      rw [show (zs.take n).getD i 0 = zs.getD i 0 by simp [List.getD, hin]]
      rw [Addr.add_lit] at this
      exact this

/-- A struct of one slice of ints, by value. -/
theorem open_row {r : Reach} {b0 : Nat} {t ts e : TypeId} {f0 : Field} {v : Value} {d : DataW H} {p : List MemPlace} (hs : P.underlying t = some (.struct #[f0])) (hf0 : f0.type = ts) (hone : oneCellFields P #[f0] = true) (hC : P.cellsOf t = 1)
    (ht : P.underlying ts = some (.slice e)) (he : P.underlying e = some (.int .i64)) (hCe : P.cellsOf e = 1)
    (hv : Value.okWide P w r b0 t v) (h : DataW.Trod enc P w base spare held t v d p) : ∃ a n c, v = .agg #[.slice a n c] ∧ ∃ zs : List Int, zs.length = n ∧ n ≤ 9223372036854775807 ∧ At w a zs := by
  obtain ⟨v0, y0, m, rfl, _, _, h0⟩ := open_agg1 hs hone hC hv h
  subst hf0
  obtain ⟨a, n, c, hcs⟩ := slice_form ht h0
  obtain rfl : v0 = .slice a n c := by simpa using hcs
  exact ⟨a, n, c, rfl, open_at ht he hCe h0⟩
end

end Go.Proofs.Ytfodcjlekbdfhab

/- Opening things in memory among the laws' arguments, by their shape. -/
namespace Go.Proofs.Ytfodcjlekbdfhab
open Go.ChangeShapes Go.WideShapes Go.ChangeAt Go.RowKit Go.Joins Go.Deep

section
variable {H : Type} (enc : TypeId × Value → H) (P : Program) (w : World) (base : Nat) (held : Bool)
/-- Whatever reads as a value of type t is such a thing. -/
def Opens {α : Type} (t : TypeId) (A : Rep α) : Prop := ∀ fuel cs x, DataW.trod enc P w base (fun _ => true) held fuel t cs = some x → ∃ y, A.At w cs y
variable {enc P w base held}

theorem Opens.int {t : TypeId} (ht : P.underlying t = some (.int .i64)) : Opens enc P w base held t Rep.int := fun fuel cs x h => by
  obtain ⟨z, hz, _, _⟩ := DataW.trod_int ht h
  exact ⟨z, hz⟩

theorem Opens.slice {α : Type} [Inhabited α] {A : Rep α} {t e e' : TypeId} (ht : P.underlying t = some (.slice e)) (ce : P.cellsOf e = A.k) (hA : Opens enc P w base held e A) (hk : 0 < A.k) : Opens enc P w base held t (Rep.slice e' A) := fun fuel cs x h => by
  rcases open_slice ht h with ⟨rfl, _⟩ | ⟨ad, len, cap, m, k, D, Pl, rfl, _, hl, hm, hmm, _, hx⟩
  · exact ⟨[], none, 0, 0, rfl, rfl, by omega, .inl rfl, fun _ => rfl⟩
  · simp only [if_true] at hmm
    subst hmm
    unfold maxLen at hm
    have each : ∀ i, i < len → ∃ y : α × List Value, (∀ j v, y.2[j]? = some v → w.cell? (ad.add (i * A.k + j)) = some v) ∧ A.At w y.2 y.1 ∧ y.2.length = A.k := by
      intro i hi
      obtain ⟨cs', h1, h2⟩ := hx i (by omega)
      rw [ce] at h1
      obtain ⟨_, hlen, hcell⟩ := World.cells?_some h1
      obtain ⟨y, hy⟩ := hA _ _ _ h2
      refine ⟨(y, cs'), fun j v hv => ?_, hy, by simpa using hlen⟩
      have hj := (List.getElem?_eq_some_iff.1 hv).1
      have := hcell j (by have h5 : cs'.length = A.k := hlen; have h6 : j < cs'.length := hj; omega)
      rw [add_add] at this
      rw [this]
      simpa using hv
    obtain ⟨y, hy⟩ := choose_lt each
    refine ⟨(List.range len).map fun i => (y i).1, some ad, len, _, rfl, by simp, by omega, ?_, fun h => by cases h⟩
    by_cases h0 : len = 0
    · left; simp [h0]
    · right
      obtain ⟨b, off, spot⟩ := ad
      obtain ⟨e1, _, e3⟩ := hy 0 (by omega)
      obtain ⟨v0, hv0⟩ : ∃ v0, (y 0).2[0]? = some v0 := ⟨_, List.getElem?_eq_getElem (by omega)⟩
      have hc0 := e1 0 v0 hv0
      have hspot : spot = none := by simpa [Addr.add] using World.cell?_spot hc0
      subst hspot
      refine ⟨b, off, rfl, fun i x hx' => ?_⟩
      have hi : i < len := by have := (List.getElem?_eq_some_iff.1 hx').1; simpa using this
      obtain ⟨k1, k2, _⟩ := hy i hi
      have hxe : (y i).1 = x := by simpa [hi] using hx'
      refine ⟨(y i).2, fun j v hv => ?_, hxe ▸ k2⟩
      have := k1 j v hv
      rw [Addr.add_lit] at this
      rw [Nat.add_assoc]; exact this

theorem take_one {cs : List Value} {v : Value} (i : Nat) (h : cs[i]? = some v) : (cs.drop i).take 1 = [v] := by
  obtain ⟨hi, rfl⟩ := List.getElem?_eq_some_iff.1 h
  rw [List.drop_eq_getElem_cons hi]; rfl

theorem Opens.struct2 {α β : Type} {A : Rep α} {B : Rep β} {t : TypeId} {f0 f1 : Field} (ht : P.underlying t = some (.struct #[f0, f1])) (hC : P.cellsOf t = 2) (o0 : f0.offset = 0) (o1 : f1.offset = 1)
    (c0 : P.cellsOf f0.type = 1) (c1 : P.cellsOf f1.type = 1) (h0 : Opens enc P w base held f0.type A) (h1 : Opens enc P w base held f1.type B) : Opens enc P w base held t (Rep.pair A B) := fun fuel cs x h => by
  obtain ⟨xs, n, _, rfl, hl, hlen, hf⟩ := DataW.trod_struct ht h
  match xs, hlen, cs, hl.trans hC with
  | [y0, y1], _, [v0, v1], _ =>
    have g0 := hf 0 f0 rfl
    have g1 := hf 1 f1 rfl
    simp [o0, o1, c0, c1] at g0 g1
    obtain ⟨x0, q0⟩ := h0 _ _ _ g0
    obtain ⟨x1, q1⟩ := h1 _ _ _ g1
    exact ⟨(x0, x1), [v0], [v1], rfl, q0, q1⟩

theorem Opens.struct3 {α β γ : Type} {A : Rep α} {B : Rep β} {C : Rep γ} {t : TypeId} {f0 f1 f2 : Field} (ht : P.underlying t = some (.struct #[f0, f1, f2])) (hC : P.cellsOf t = 3) (o0 : f0.offset = 0) (o1 : f1.offset = 1) (o2 : f2.offset = 2)
    (c0 : P.cellsOf f0.type = 1) (c1 : P.cellsOf f1.type = 1) (c2 : P.cellsOf f2.type = 1) (h0 : Opens enc P w base held f0.type A) (h1 : Opens enc P w base held f1.type B) (h2 : Opens enc P w base held f2.type C) : Opens enc P w base held t (Rep.pair A (Rep.pair B C)) := fun fuel cs x h => by
  obtain ⟨xs, n, _, rfl, hl, hlen, hf⟩ := DataW.trod_struct ht h
  match xs, hlen, cs, hl.trans hC with
  | [y0, y1, y2], _, [v0, v1, v2], _ =>
    have g0 := hf 0 f0 rfl
    have g1 := hf 1 f1 rfl
    have g2 := hf 2 f2 rfl
    simp [o0, o1, o2, c0, c1, c2] at g0 g1 g2
    obtain ⟨x0, q0⟩ := h0 _ _ _ g0
    obtain ⟨x1, q1⟩ := h1 _ _ _ g1
    obtain ⟨x2, q2⟩ := h2 _ _ _ g2
    exact ⟨(x0, x1, x2), [v0], _, rfl, q0, [v1], [v2], rfl, q1, q2⟩

theorem Opens.struct6 {α β γ δ ε ζ : Type} {A : Rep α} {B : Rep β} {C : Rep γ} {D : Rep δ} {E : Rep ε} {Z : Rep ζ} {t : TypeId} {f0 f1 f2 f3 f4 f5 : Field} (ht : P.underlying t = some (.struct #[f0, f1, f2, f3, f4, f5])) (hC : P.cellsOf t = 6)
    (o0 : f0.offset = 0) (o1 : f1.offset = 1) (o2 : f2.offset = 2) (o3 : f3.offset = 3) (o4 : f4.offset = 4) (o5 : f5.offset = 5)
    (c0 : P.cellsOf f0.type = 1) (c1 : P.cellsOf f1.type = 1) (c2 : P.cellsOf f2.type = 1) (c3 : P.cellsOf f3.type = 1) (c4 : P.cellsOf f4.type = 1) (c5 : P.cellsOf f5.type = 1)
    (h0 : Opens enc P w base held f0.type A) (h1 : Opens enc P w base held f1.type B) (h2 : Opens enc P w base held f2.type C) (h3 : Opens enc P w base held f3.type D) (h4 : Opens enc P w base held f4.type E) (h5 : Opens enc P w base held f5.type Z) :
    Opens enc P w base held t (Rep.pair A (Rep.pair B (Rep.pair C (Rep.pair D (Rep.pair E Z))))) := fun fuel cs x h => by
  obtain ⟨xs, n, _, rfl, hl, hlen, hf⟩ := DataW.trod_struct ht h
  match xs, hlen, cs, hl.trans hC with
  | [y0, y1, y2, y3, y4, y5], _, [v0, v1, v2, v3, v4, v5], _ =>
    have g0 := hf 0 f0 rfl
    have g1 := hf 1 f1 rfl
    have g2 := hf 2 f2 rfl
    have g3 := hf 3 f3 rfl
    have g4 := hf 4 f4 rfl
    have g5 := hf 5 f5 rfl
    simp [o0, o1, o2, o3, o4, o5, c0, c1, c2, c3, c4, c5] at g0 g1 g2 g3 g4 g5
    obtain ⟨x0, q0⟩ := h0 _ _ _ g0
    obtain ⟨x1, q1⟩ := h1 _ _ _ g1
    obtain ⟨x2, q2⟩ := h2 _ _ _ g2
    obtain ⟨x3, q3⟩ := h3 _ _ _ g3
    obtain ⟨x4, q4⟩ := h4 _ _ _ g4
    obtain ⟨x5, q5⟩ := h5 _ _ _ g5
    exact ⟨(x0, x1, x2, x3, x4, x5), [v0], _, rfl, q0, [v1], _, rfl, q1, [v2], _, rfl, q2, [v3], _, rfl, q3, [v4], [v5], rfl, q4, q5⟩

/-- A struct by value. -/
theorem open_struct {α : Type} {A : Rep α} {r : Reach} {b0 : Nat} {t : TypeId} {fs : Array Field} {v : Value} {d : DataW H} {p : List MemPlace} (hs : P.underlying t = some (.struct fs)) (hA : Opens enc P w base held t A) (hv : Value.okWide P w r b0 t v)
    (h : DataW.Trod enc P w base (fun _ => true) held t v d p) : ∃ cs x, v = .agg cs.toArray ∧ A.At w cs x := by
  obtain ⟨cs, rfl, _⟩ := okWide_struct hs hv
  obtain ⟨fuel, hf⟩ := h
  obtain ⟨x, hx⟩ := hA _ _ _ hf
  exact ⟨_, x, by simp [Value.cells], hx⟩
end

end Go.Proofs.Ytfodcjlekbdfhab
