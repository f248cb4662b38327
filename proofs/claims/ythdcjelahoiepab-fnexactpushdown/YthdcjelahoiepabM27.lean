/- Several texts of one proof, in build order: LawPushDown, Open, OpenP, OpenW. -/
import Derived.Test.YthdcjelahoiepabM25
import Derived.Test.YthdcjelahoiepabM26
import Derived.Test.YthdcjelahoiepabM0
import Derived.ProofKit
import Derived.OpenShut
import Derived.ShutString
import Derived.ChangeOld
import Derived.Lib.SmallJoins
import Derived.Test.YthdcjelahoiepabM1
import Derived.Test.YthdcjelahoiepabM7

/- The law FnExactPushDown returns true at every input, and writes nothing that was there. -/
namespace Go.Proofs.Ythdcjelahoiepab
open Go.RowKit

set_option maxRecDepth 100000 in
set_option maxHeartbeats 16000000 in
theorem lawPushDown (sa0 : Option Addr) (sn0 sc0 : Nat) (pa0 : Option Addr) (pn0 pc0 : Nat) (ss0 : List Int) (xs0 : List PartD) (w : World) (hs0 : ss0.length = sn0) (hsn0 : sn0 ≤ 9223372036854775807) (hz0 : xs0.length = pn0) (hn0 : pn0 ≤ 9223372036854775807) (hat0 : At w sa0 ss0) (ha0 : AtSl RPart w pa0 xs0) :
    Calls Try.prog 4 #[.agg #[.slice sa0 sn0 sc0, .slice pa0 pn0 pc0]] w fun e w' => e = .returned (.bool true) ∧ Below w.heap.size w w' := by
  obtain ⟨W, hW⟩ : ∃ W, W = (w.alloc (.cells #[.slice sa0 sn0 sc0, .slice pa0 pn0 pc0] 25)) := ⟨_, rfl⟩
  have B0 : Below w.heap.size w W := by rw [hW]; exact (Below.refl _ _).alloc (Nat.le_refl _) _
  have zW : w.heap.size < W.heap.size := by rw [hW]; simp
  have p00_0 : W.cell? ⟨w.heap.size, 0, none⟩ = some (.slice sa0 sn0 sc0) := by rw [hW]; simp
  have p01_0 : W.cell? ⟨w.heap.size, 1, none⟩ = some (.slice pa0 pn0 pc0) := by rw [hW]; simp
  have HA0 := Hid.mk (And.intro hat0 ha0)
  clear hat0 ha0
  by_cases big0 : (1048576 : Int) < (vcost (ss0, xs0) : Nat)
  · go_enter Try.func4, Try.ntmps4
    go_wp2_with fail
    rw [← hW]
    clear hW
    refine (szView_any sa0 sn0 sc0 pa0 pn0 pc0 ss0 xs0 _ _ hs0 hsn0 hz0 hn0 (by omega) (by omega) (HA0.out.2.below B0)).mono ?_
    rintro e v0 ⟨rfl, hv0⟩
    rw [leftOf_no big0]
    have y0 := B0.trans (hv0.mono B0.size)
    go_wp2
    go_ret
    exact ⟨rfl, y0⟩
  have HSM0 : Hid (SmView (ss0, xs0)) := by show vcost _ ≤ _; omega
  have hl0 : ¬ (1048576 : Int) - (vcost (ss0, xs0) : Nat) < 0 := by omega
  have hge0 : ¬ (1048576 : Int) < (vcost (ss0, xs0) : Nat) := big0
  clear big0
  have HSZ0 := HSM0.out.size.2
  obtain ⟨C0, hC0⟩ : ∃ C : Nat, vcost (ss0, xs0) = C := ⟨_, rfl⟩
  rw [hC0] at hl0 hge0
  have HC0 := Hid.mk hC0
  clear hC0
  obtain ⟨V0, hV0⟩ : ∃ C : Nat, vsize (ss0, xs0) = C := ⟨_, rfl⟩
  rw [hV0] at HSZ0
  have HV0 := Hid.mk hV0
  clear hV0
  obtain ⟨ok, t1, t2, hsm2, HS, HI⟩ : ∃ (ok : Bool) (t1 : List Int) (t2 : List PartD), Sm2 (t1, t2) ∧ Hid (∀ (x1 x2 : Nat) (w : World) (F : Nat → Prop), RView.Own w F [.slice (some ⟨x1, 0, none⟩) sn0 sn0, .slice (some ⟨x2, 0, none⟩) pn0 pn0] (ss0, xs0) → Calls Try.prog 10 #[.agg #[.slice (some ⟨x1, 0, none⟩) sn0 sn0, .slice (some ⟨x2, 0, none⟩) pn0 pn0]] w fun e w' => (∃ sa sn sc pa pn pc, e = .returned (.tuple #[.agg #[.slice sa sn sc, .slice pa pn pc], .bool ok]) ∧ t1.length = sn ∧ t2.length = pn ∧ RView.Own w' (From w.heap.size w'.heap.size) [.slice sa sn sc, .slice pa pn pc] (t1, t2)) ∧ Below w.heap.size w w') ∧ Hid (∀ (x1 x2 : Nat) (w : World) (F : Nat → Prop), RView.Own w F [.slice (some ⟨x1, 0, none⟩) sn0 sn0, .slice (some ⟨x2, 0, none⟩) pn0 pn0] (ss0, xs0) → Calls Try.prog 11 #[.agg #[.slice (some ⟨x1, 0, none⟩) sn0 sn0, .slice (some ⟨x2, 0, none⟩) pn0 pn0]] w fun e w' => (∃ sa sn sc pa pn pc, e = .returned (.tuple #[.agg #[.slice sa sn sc, .slice pa pn pc], .bool ok]) ∧ t1.length = sn ∧ t2.length = pn ∧ RView.Own w' (From w.heap.size w'.heap.size) [.slice sa sn sc, .slice pa pn pc] (t1, t2)) ∧ Below w.heap.size w w') := ⟨ckB (ss0, xs0), (pdV (ss0, xs0)).1, (pdV (ss0, xs0)).2, pd_small HSM0.out, fun x1 x2 w F o => specPushDown (some ⟨x1, 0, none⟩) sn0 sn0 (some ⟨x2, 0, none⟩) pn0 pn0 ss0 xs0 w hs0 hz0 HSM0.out (view_at o).1 (view_at o).2 (fun h => by cases h), fun x1 x2 w F o => implPushDown (some ⟨x1, 0, none⟩) sn0 sn0 (some ⟨x2, 0, none⟩) pn0 pn0 ss0 xs0 w hs0 hz0 HSM0.out (view_at o).1 (view_at o).2 (fun h => by cases h)⟩
  have hna0 : t1.length ≤ 1048576 := hsm2.src
  have hnb0 : t2.length ≤ 1048576 := hsm2.len
  obtain ⟨G0, hG0⟩ : ∃ C : Nat, vsize (t1, t2) = C := ⟨_, rfl⟩
  have hGs : G0 ≤ 17825792 := by have h9 := hsm2.size.2; omega
  have HG0 := Hid.mk hG0
  have HS2 := Hid.mk hsm2
  obtain ⟨na, hna⟩ : ∃ na, t1.length = na := ⟨_, rfl⟩
  obtain ⟨nb, hnb⟩ : ∃ nb, t2.length = nb := ⟨_, rfl⟩
  have HNA := Hid.mk hna
  have HNB := Hid.mk hnb
  clear hsm2 hG0 hna hnb hna0 hnb0
  go_enter Try.func4, Try.ntmps4
  go_wp2_with fail
  rw [← hW]
  clear hW
  refine (szView_any sa0 sn0 sc0 pa0 pn0 pc0 ss0 xs0 _ _ hs0 hsn0 hz0 hn0 (by omega) (by omega) (HA0.out.2.below B0)).mono ?_
  rintro e w1 ⟨rfl, hb1⟩
  rw [HC0.out, leftOf_yes (by omega)]
  have p00_1 := cell_later hb1 p00_0
  have p01_1 := cell_later hb1 p01_0
  have B_1 := B0.trans (hb1.mono B0.size)
  have zz1 : W.heap.size ≤ w1.heap.size := hb1.size
  clear p00_0 p01_0
  clear hb1
  go_wp2_with fail
  refine (toView_any sa0 sn0 sc0 pa0 pn0 pc0 ss0 xs0 _ hs0 hz0 HSM0.out (HA0.out.1.below B_1) (HA0.out.2.below B_1)).mono ?_
  rintro e w2 ⟨g2_1, g2_2, rfl, ho2, hb2⟩
  have ot_2 := Hid.mk ho2
  clear ho2
  have p00_2 := cell_later hb2 p00_1
  have p01_2 := cell_later hb2 p01_1
  have B_2 := B_1.trans (hb2.mono B_1.size)
  have zz2 : w1.heap.size ≤ w2.heap.size := hb2.size
  clear p00_1 p01_1 B_1
  clear hb2
  go_wp2_with fail
  refine (HS.out _ _ _ _ ot_2.out).mono ?_
  rintro e w3 ⟨⟨s3, m3, c3, q3, l3, d3, rfl, h13, h23, ho3⟩, hb3⟩
  obtain rfl : na = m3 := HNA.out.symm.trans h13
  obtain rfl : nb = l3 := HNB.out.symm.trans h23
  have oo_3 := Hid.mk ho3
  clear ho3 h13 h23
  clear ot_2
  have p00_3 := cell_later hb3 p00_2
  have p01_3 := cell_later hb3 p01_2
  have B_3 := B_2.trans (hb3.mono B_2.size)
  have zz3 : w2.heap.size ≤ w3.heap.size := hb3.size
  clear p00_2 p01_2 B_2
  clear hb3
  obtain ⟨w4, hU4⟩ : ∃ u, u = w3.alloc (.cells #[.slice s3 na c3, .slice q3 nb d3] 31) := ⟨_, rfl⟩
  have hb4 : Below w3.heap.size w3 w4 := by rw [hU4]; exact (Below.refl _ _).alloc (Nat.le_refl _) _
  have zl4 : w3.heap.size < w4.heap.size := by rw [hU4]; simp
  have nov0 : w4.cell? ⟨w3.heap.size, 0, none⟩ = some (.slice s3 na c3) := by rw [hU4]; simp
  have nov1 : w4.cell? ⟨w3.heap.size, 1, none⟩ = some (.slice q3 nb d3) := by rw [hU4]; simp
  have p00_4 := cell_later hb4 p00_3
  have p01_4 := cell_later hb4 p01_3
  have oo_4 := Hid.mk (RView.ownBelow oo_3.out hb4)
  have B_4 := B_3.trans (hb4.mono B_3.size)
  have zz4 : w3.heap.size ≤ w4.heap.size := hb4.size
  clear p00_3 p01_3 oo_3 B_3
  clear hb4
  go_upto_region 6 with fail
  rw [← hU4]
  clear hU4
  go_wp2_with fail
  refine (toView_any sa0 sn0 sc0 pa0 pn0 pc0 ss0 xs0 _ hs0 hz0 HSM0.out (HA0.out.1.below B_4) (HA0.out.2.below B_4)).mono ?_
  rintro e w5 ⟨g5_1, g5_2, rfl, ho5, hb5⟩
  have ox_5 := Hid.mk ho5
  clear ho5
  have p00_5 := cell_later hb5 p00_4
  have p01_5 := cell_later hb5 p01_4
  have ov0_5 := cell_later hb5 nov0
  have ov1_5 := cell_later hb5 nov1
  have oo_5 := Hid.mk (RView.ownBelow oo_4.out hb5)
  have B_5 := B_4.trans (hb5.mono B_4.size)
  have zz5 : w4.heap.size ≤ w5.heap.size := hb5.size
  clear p00_4 p01_4 nov0 nov1 oo_4 B_4
  clear hb5
  obtain ⟨w6, hU6⟩ : ∃ u, u = w5.alloc (.cells #[.slice (some ⟨g5_1, 0, none⟩) sn0 sn0, .slice (some ⟨g5_2, 0, none⟩) pn0 pn0] 31) := ⟨_, rfl⟩
  have hb6 : Below w5.heap.size w5 w6 := by rw [hU6]; exact (Below.refl _ _).alloc (Nat.le_refl _) _
  have zl6 : w5.heap.size < w6.heap.size := by rw [hU6]; simp
  have nx0 : w6.cell? ⟨w5.heap.size, 0, none⟩ = some (.slice (some ⟨g5_1, 0, none⟩) sn0 sn0) := by rw [hU6]; simp
  have nx1 : w6.cell? ⟨w5.heap.size, 1, none⟩ = some (.slice (some ⟨g5_2, 0, none⟩) pn0 pn0) := by rw [hU6]; simp
  have p00_6 := cell_later hb6 p00_5
  have p01_6 := cell_later hb6 p01_5
  have ov0_6 := cell_later hb6 ov0_5
  have ov1_6 := cell_later hb6 ov1_5
  have oo_6 := Hid.mk (RView.ownBelow oo_5.out hb6)
  have ox_6 := Hid.mk (RView.ownBelow ox_5.out hb6)
  have B_6 := B_5.trans (hb6.mono B_5.size)
  have zz6 : w5.heap.size ≤ w6.heap.size := hb6.size
  clear p00_5 p01_5 ov0_5 ov1_5 oo_5 ox_5 B_5
  clear hb6
  go_wp2_with fail
  rw [← hU6]
  clear hU6
  refine (HI.out _ _ _ _ ox_6.out).mono ?_
  rintro e w7 ⟨⟨s7, m7, c7, q7, l7, d7, rfl, h17, h27, ho7⟩, hb7⟩
  obtain rfl : na = m7 := HNA.out.symm.trans h17
  obtain rfl : nb = l7 := HNB.out.symm.trans h27
  have og_7 := Hid.mk ho7
  clear ho7 h17 h27
  have p00_7 := cell_later hb7 p00_6
  have p01_7 := cell_later hb7 p01_6
  have ov0_7 := cell_later hb7 ov0_6
  have ov1_7 := cell_later hb7 ov1_6
  have x0_7 := cell_later hb7 nx0
  have x1_7 := cell_later hb7 nx1
  have oo_7 := Hid.mk (RView.ownBelow oo_6.out hb7)
  have ox_7 := Hid.mk (RView.ownBelow ox_6.out hb7)
  have B_7 := B_6.trans (hb7.mono B_6.size)
  have zz7 : w6.heap.size ≤ w7.heap.size := hb7.size
  clear p00_6 p01_6 ov0_6 ov1_6 nx0 nx1 oo_6 ox_6 B_6
  clear hb7
  obtain ⟨w8, hU8⟩ : ∃ u, u = w7.alloc (.cells #[.slice s7 na c7, .slice q7 nb d7] 31) := ⟨_, rfl⟩
  have hb8 : Below w7.heap.size w7 w8 := by rw [hU8]; exact (Below.refl _ _).alloc (Nat.le_refl _) _
  have zl8 : w7.heap.size < w8.heap.size := by rw [hU8]; simp
  have ngv0 : w8.cell? ⟨w7.heap.size, 0, none⟩ = some (.slice s7 na c7) := by rw [hU8]; simp
  have ngv1 : w8.cell? ⟨w7.heap.size, 1, none⟩ = some (.slice q7 nb d7) := by rw [hU8]; simp
  have p00_8 := cell_later hb8 p00_7
  have p01_8 := cell_later hb8 p01_7
  have ov0_8 := cell_later hb8 ov0_7
  have ov1_8 := cell_later hb8 ov1_7
  have x0_8 := cell_later hb8 x0_7
  have x1_8 := cell_later hb8 x1_7
  have oo_8 := Hid.mk (RView.ownBelow oo_7.out hb8)
  have ox_8 := Hid.mk (RView.ownBelow ox_7.out hb8)
  have og_8 := Hid.mk (RView.ownBelow og_7.out hb8)
  have B_8 := B_7.trans (hb8.mono B_7.size)
  have zz8 : w7.heap.size ≤ w8.heap.size := hb8.size
  clear p00_7 p01_7 ov0_7 ov1_7 x0_7 x1_7 oo_7 ox_7 og_7 B_7
  clear hb8
  go_upto_region 8 with fail
  rw [← hU8]
  clear hU8
  go_wp2_with fail
  refine (eqView_same _ _ na _ _ _ _ nb _ _ t1 t2 _ HNA.out HNB.out HS2.out (view_at og_8.out).1 (view_at og_8.out).2 (view_at oo_8.out).1 (view_at oo_8.out).2).mono ?_
  rintro e w9 ⟨rfl, hb9⟩
  have p00_9 := cell_later hb9 p00_8
  have p01_9 := cell_later hb9 p01_8
  have ov0_9 := cell_later hb9 ov0_8
  have ov1_9 := cell_later hb9 ov1_8
  have x0_9 := cell_later hb9 x0_8
  have x1_9 := cell_later hb9 x1_8
  have gv0_9 := cell_later hb9 ngv0
  have gv1_9 := cell_later hb9 ngv1
  have oo_9 := Hid.mk (RView.ownBelow oo_8.out hb9)
  have ox_9 := Hid.mk (RView.ownBelow ox_8.out hb9)
  have og_9 := Hid.mk (RView.ownBelow og_8.out hb9)
  have B_9 := B_8.trans (hb9.mono B_8.size)
  have zz9 : w8.heap.size ≤ w9.heap.size := hb9.size
  clear p00_8 p01_8 ov0_8 ov1_8 x0_8 x1_8 ngv0 ngv1 oo_8 ox_8 og_8 B_8
  clear hb9
  go_wp2_with fail
  refine wp_region_held_drew (S := fun w' => w'.cell? ⟨w5.heap.size, 0, none⟩ = some (.slice (some ⟨g5_1, 0, none⟩) sn0 sn0) ∧ w'.cell? ⟨w5.heap.size, 1, none⟩ = some (.slice (some ⟨g5_2, 0, none⟩) pn0 pn0) ∧ w'.cell? ⟨w.heap.size, 0, none⟩ = some (.slice sa0 sn0 sc0) ∧ w'.cell? ⟨w.heap.size, 1, none⟩ = some (.slice pa0 pn0 pc0)) (by kernel_rfl) ?_ (fun hHeld => ?_)
  · (try dsimp only)
    exact ⟨x0_9, x1_9, p00_9, p01_9⟩
  refine wpAnyH_take (i := 0) (oi := ?_) (v := ?_) ?_ (by kernel_rfl) (by kernel_rfl) (by kernel_rfl) ?_ (Or.inl ⟨?_, ?_⟩) (by assumption) ?_
  rotate_left 2
  · (simp only [List.getElem?_toArray, List.getElem?_cons_zero]; rfl)
  · exact fun _ _ _ h => h
  · rfl
  · (intro wS hSw; (try dsimp only at hSw); go_simp; (try with_reducible rfl))
  (try simp only [Act.put, List.setIfInBounds_toArray, List.set_cons_zero, List.set_cons_succ])
  refine wpAnyH_take (i := 1) (oi := ?_) (v := ?_) ?_ (by kernel_rfl) (by kernel_rfl) (by kernel_rfl) ?_ (Or.inl ⟨?_, ?_⟩) (by assumption) ?_
  rotate_left 2
  · (simp only [List.getElem?_toArray, List.getElem?_cons_zero, List.getElem?_cons_succ]; rfl)
  · exact fun _ _ _ h => h
  · rfl
  · (intro wS hSw; (try dsimp only at hSw); go_simp; (try with_reducible rfl))
  (try simp only [Act.put, List.setIfInBounds_toArray, List.set_cons_zero, List.set_cons_succ])
  refine wpAnyH_ready (rs := [2]) (by kernel_rfl) (by simp) ?_
  refine AllReadyH.cons (o := ?_) ?_ (fun K hK => ?_) AllReadyH.nil
  rotate_left
  · (simp only [List.getElem?_toArray, List.getElem?_cons_zero, List.getElem?_cons_succ]; rfl)
  go_simp
  go_at_call 7
  refine (toView_any sa0 sn0 sc0 pa0 pn0 pc0 ss0 xs0 _ hs0 hz0 HSM0.out (HA0.out.1.below B_9.drew) (HA0.out.2.below B_9.drew)).mono ?_
  rintro e w10 ⟨g10_1, g10_2, rfl, ho10, hd10⟩
  have hb10 : Below w9.heap.size w9 w10 := (Below.refl _ _).drew.trans hd10
  clear hd10
  have oy_10 := Hid.mk ho10
  clear ho10
  have p00_10 := cell_later hb10 p00_9
  have p01_10 := cell_later hb10 p01_9
  have ov0_10 := cell_later hb10 ov0_9
  have ov1_10 := cell_later hb10 ov1_9
  have x0_10 := cell_later hb10 x0_9
  have x1_10 := cell_later hb10 x1_9
  have gv0_10 := cell_later hb10 gv0_9
  have gv1_10 := cell_later hb10 gv1_9
  have oo_10 := Hid.mk (RView.ownBelow oo_9.out hb10)
  have ox_10 := Hid.mk (RView.ownBelow ox_9.out hb10)
  have og_10 := Hid.mk (RView.ownBelow og_9.out hb10)
  have B_10 := B_9.trans (hb10.mono B_9.size)
  have zz10 : w9.heap.size ≤ w10.heap.size := hb10.size
  clear p00_9 p01_9 ov0_9 ov1_9 x0_9 x1_9 gv0_9 gv1_9 oo_9 ox_9 og_9 B_9
  clear hb10
  (try go_wp2_with fail)
  refine hK.out _ _ ?_ (fun hHeld' => ?_)
  · (try dsimp only)
    exact ⟨x0_10, x1_10, p00_10, p01_10⟩
  clear hK K hHeld
  have hHeld := hHeld'
  clear hHeld'
  (try simp only [Act.put, List.setIfInBounds_toArray, List.set_cons_zero, List.set_cons_succ])
  refine wpAnyH_ready (rs := [3]) (by kernel_rfl) (by simp) ?_
  refine AllReadyH.cons (o := ?_) ?_ (fun K hK => ?_) AllReadyH.nil
  rotate_left
  · (simp only [List.getElem?_toArray, List.getElem?_cons_zero, List.getElem?_cons_succ]; rfl)
  go_simp
  go_at_call 9
  refine (eqView_same _ _ _ _ _ _ _ _ _ _ ss0 xs0 _ hs0 hz0 HSM0.out.two (view_at ox_10.out).1 (view_at ox_10.out).2 (view_at oy_10.out).1 (view_at oy_10.out).2).mono ?_
  rintro e w11 ⟨rfl, hb11⟩
  clear oy_10
  have p00_11 := cell_later hb11 p00_10
  have p01_11 := cell_later hb11 p01_10
  have ov0_11 := cell_later hb11 ov0_10
  have ov1_11 := cell_later hb11 ov1_10
  have x0_11 := cell_later hb11 x0_10
  have x1_11 := cell_later hb11 x1_10
  have gv0_11 := cell_later hb11 gv0_10
  have gv1_11 := cell_later hb11 gv1_10
  have oo_11 := Hid.mk (RView.ownBelow oo_10.out hb11)
  have ox_11 := Hid.mk (RView.ownBelow ox_10.out hb11)
  have og_11 := Hid.mk (RView.ownBelow og_10.out hb11)
  have B_11 := B_10.trans (hb11.mono B_10.size)
  have zz11 : w10.heap.size ≤ w11.heap.size := hb11.size
  clear p00_10 p01_10 ov0_10 ov1_10 x0_10 x1_10 gv0_10 gv1_10 oo_10 ox_10 og_10 B_10
  clear hb11
  (try go_wp2_with fail)
  refine hK.out _ _ ?_ (fun hHeld' => ?_)
  · (try dsimp only)
    exact ⟨x0_11, x1_11, p00_11, p01_11⟩
  clear hK K hHeld
  have hHeld := hHeld'
  clear hHeld'
  (try simp only [Act.put, List.setIfInBounds_toArray, List.set_cons_zero, List.set_cons_succ])
  refine wpAnyH_take (i := 4) (oi := ?_) (v := ?_) ?_ (by kernel_rfl) (by kernel_rfl) (by kernel_rfl) ?_ (Or.inl ⟨?_, ?_⟩) (by assumption) ?_
  rotate_left 2
  · (simp only [List.getElem?_toArray, List.getElem?_cons_zero, List.getElem?_cons_succ]; rfl)
  · exact fun _ _ _ h => h
  · rfl
  · (intro wS hSw; (try dsimp only at hSw); go_simp; (try with_reducible rfl))
  (try simp only [Act.put, List.setIfInBounds_toArray, List.set_cons_zero, List.set_cons_succ])
  refine wpAnyH_done (by kernel_rfl) ?_ _
  clear hHeld
  go_wp2_with fail
  refine (markView_rep (From (w4.heap.size) (w5.heap.size)) _ _ _ _ _ _ ss0 xs0 _ _ HSM0.out.two (by omega) (by omega) (fun b h => by have h2 := h.2; omega) ox_11.out).mono ?_
  rintro e w12 ⟨rfl, ho12, hg12⟩
  rw [HV0.out]
  have ox_12 := Hid.mk ho12
  clear ho12
  have p00_12 := hg12.cell p00_11 (show ¬ From (w4.heap.size) (w5.heap.size) (w.heap.size) from fun h => by have h1 := h.1; have h2 := h.2; omega)
  have p01_12 := hg12.cell p01_11 (show ¬ From (w4.heap.size) (w5.heap.size) (w.heap.size) from fun h => by have h1 := h.1; have h2 := h.2; omega)
  have ov0_12 := hg12.cell ov0_11 (show ¬ From (w4.heap.size) (w5.heap.size) (w3.heap.size) from fun h => by have h1 := h.1; have h2 := h.2; omega)
  have ov1_12 := hg12.cell ov1_11 (show ¬ From (w4.heap.size) (w5.heap.size) (w3.heap.size) from fun h => by have h1 := h.1; have h2 := h.2; omega)
  have x0_12 := hg12.cell x0_11 (show ¬ From (w4.heap.size) (w5.heap.size) (w5.heap.size) from fun h => by have h1 := h.1; have h2 := h.2; omega)
  have x1_12 := hg12.cell x1_11 (show ¬ From (w4.heap.size) (w5.heap.size) (w5.heap.size) from fun h => by have h1 := h.1; have h2 := h.2; omega)
  have gv0_12 := hg12.cell gv0_11 (show ¬ From (w4.heap.size) (w5.heap.size) (w7.heap.size) from fun h => by have h1 := h.1; have h2 := h.2; omega)
  have gv1_12 := hg12.cell gv1_11 (show ¬ From (w4.heap.size) (w5.heap.size) (w7.heap.size) from fun h => by have h1 := h.1; have h2 := h.2; omega)
  have oo_12 := Hid.mk (RView.ownOff oo_11.out hg12 (fun b h1 h2 => by have h3 := h1.1; have h4 := h1.2; have h5 := h2.1; have h6 := h2.2; omega))
  have og_12 := Hid.mk (RView.ownOff og_11.out hg12 (fun b h1 h2 => by have h3 := h1.1; have h4 := h1.2; have h5 := h2.1; have h6 := h2.2; omega))
  have B_12 := B_11.trans (hg12.toBelow (by omega) B_11.size)
  have zz12 : w11.heap.size ≤ w12.heap.size := hg12.size
  clear p00_11 p01_11 ov0_11 ov1_11 x0_11 x1_11 gv0_11 gv1_11 oo_11 ox_11 og_11 B_11
  clear hg12
  have kpos : ¬ (1 : Int) + (V0 : Int) < 0 := by omega
  go_wp2_with fail
  refine (eqView_same _ _ na _ _ _ _ nb _ _ t1 t2 _ HNA.out HNB.out HS2.out (view_at og_12.out).1 (view_at og_12.out).2 (view_at oo_12.out).1 (view_at oo_12.out).2).mono ?_
  rintro e w13 ⟨rfl, hb13⟩
  have p00_13 := cell_later hb13 p00_12
  have p01_13 := cell_later hb13 p01_12
  have ov0_13 := cell_later hb13 ov0_12
  have ov1_13 := cell_later hb13 ov1_12
  have x0_13 := cell_later hb13 x0_12
  have x1_13 := cell_later hb13 x1_12
  have gv0_13 := cell_later hb13 gv0_12
  have gv1_13 := cell_later hb13 gv1_12
  have oo_13 := Hid.mk (RView.ownBelow oo_12.out hb13)
  have ox_13 := Hid.mk (RView.ownBelow ox_12.out hb13)
  have og_13 := Hid.mk (RView.ownBelow og_12.out hb13)
  have B_13 := B_12.trans (hb13.mono B_12.size)
  have zz13 : w12.heap.size ≤ w13.heap.size := hb13.size
  clear p00_12 p01_12 ov0_12 ov1_12 x0_12 x1_12 gv0_12 gv1_12 oo_12 ox_12 og_12 B_12
  clear hb13
  clear ox_13
  go_wp2_with fail
  refine (markView_rep (From (w6.heap.size) (w7.heap.size)) _ na _ _ nb _ t1 t2 1 _ HS2.out (by omega) (by omega) (fun b h => by have h2 := h.2; omega) og_13.out).mono ?_
  rintro e w14 ⟨rfl, ho14, hg14⟩
  rw [HG0.out]
  have og_14 := Hid.mk ho14
  clear ho14
  have p00_14 := hg14.cell p00_13 (show ¬ From (w6.heap.size) (w7.heap.size) (w.heap.size) from fun h => by have h1 := h.1; have h2 := h.2; omega)
  have p01_14 := hg14.cell p01_13 (show ¬ From (w6.heap.size) (w7.heap.size) (w.heap.size) from fun h => by have h1 := h.1; have h2 := h.2; omega)
  have ov0_14 := hg14.cell ov0_13 (show ¬ From (w6.heap.size) (w7.heap.size) (w3.heap.size) from fun h => by have h1 := h.1; have h2 := h.2; omega)
  have ov1_14 := hg14.cell ov1_13 (show ¬ From (w6.heap.size) (w7.heap.size) (w3.heap.size) from fun h => by have h1 := h.1; have h2 := h.2; omega)
  have x0_14 := hg14.cell x0_13 (show ¬ From (w6.heap.size) (w7.heap.size) (w5.heap.size) from fun h => by have h1 := h.1; have h2 := h.2; omega)
  have x1_14 := hg14.cell x1_13 (show ¬ From (w6.heap.size) (w7.heap.size) (w5.heap.size) from fun h => by have h1 := h.1; have h2 := h.2; omega)
  have gv0_14 := hg14.cell gv0_13 (show ¬ From (w6.heap.size) (w7.heap.size) (w7.heap.size) from fun h => by have h1 := h.1; have h2 := h.2; omega)
  have gv1_14 := hg14.cell gv1_13 (show ¬ From (w6.heap.size) (w7.heap.size) (w7.heap.size) from fun h => by have h1 := h.1; have h2 := h.2; omega)
  have oo_14 := Hid.mk (RView.ownOff oo_13.out hg14 (fun b h1 h2 => by have h3 := h1.1; have h4 := h1.2; have h5 := h2.1; have h6 := h2.2; omega))
  have B_14 := B_13.trans (hg14.toBelow (by omega) B_13.size)
  have zz14 : w13.heap.size ≤ w14.heap.size := hg14.size
  clear p00_13 p01_13 ov0_13 ov1_13 x0_13 x1_13 gv0_13 gv1_13 oo_13 og_13 B_13
  clear hg14
  have gpos : ¬ (1 : Int) + (G0 : Int) < 0 := by omega
  go_wp2_with fail
  refine (heldView_rep _ na _ _ nb _ t1 t2 1 _ HS2.out HNA.out HNB.out (by omega) (by omega) (view_at (ss := mkInts 1 t1) (xs := mkParts (1 + t1.length) t2) og_14.out).1 (view_at (ss := mkInts 1 t1) (xs := mkParts (1 + t1.length) t2) og_14.out).2).mono ?_
  rintro e w15 ⟨rfl, hb15⟩
  rw [HG0.out]
  have p00_15 := cell_later hb15 p00_14
  have p01_15 := cell_later hb15 p01_14
  have ov0_15 := cell_later hb15 ov0_14
  have ov1_15 := cell_later hb15 ov1_14
  have x0_15 := cell_later hb15 x0_14
  have x1_15 := cell_later hb15 x1_14
  have gv0_15 := cell_later hb15 gv0_14
  have gv1_15 := cell_later hb15 gv1_14
  have oo_15 := Hid.mk (RView.ownBelow oo_14.out hb15)
  have og_15 := Hid.mk (RView.ownBelow og_14.out hb15)
  have B_15 := B_14.trans (hb15.mono B_14.size)
  have zz15 : w14.heap.size ≤ w15.heap.size := hb15.size
  clear p00_14 p01_14 ov0_14 ov1_14 x0_14 x1_14 gv0_14 gv1_14 oo_14 og_14 B_14
  clear hb15
  go_wp2_with fail
  refine (toView_any sa0 sn0 sc0 pa0 pn0 pc0 ss0 xs0 _ hs0 hz0 HSM0.out (HA0.out.1.below B_15) (HA0.out.2.below B_15)).mono ?_
  rintro e w16 ⟨g16_1, g16_2, rfl, ho16, hb16⟩
  have oh_16 := Hid.mk ho16
  clear ho16
  have p00_16 := cell_later hb16 p00_15
  have p01_16 := cell_later hb16 p01_15
  have ov0_16 := cell_later hb16 ov0_15
  have ov1_16 := cell_later hb16 ov1_15
  have x0_16 := cell_later hb16 x0_15
  have x1_16 := cell_later hb16 x1_15
  have gv0_16 := cell_later hb16 gv0_15
  have gv1_16 := cell_later hb16 gv1_15
  have oo_16 := Hid.mk (RView.ownBelow oo_15.out hb16)
  have og_16 := Hid.mk (RView.ownBelow og_15.out hb16)
  have B_16 := B_15.trans (hb16.mono B_15.size)
  have zz16 : w15.heap.size ≤ w16.heap.size := hb16.size
  clear p00_15 p01_15 ov0_15 ov1_15 x0_15 x1_15 gv0_15 gv1_15 oo_15 og_15 B_15
  clear hb16
  go_wp2_with fail
  refine (HI.out _ _ _ _ oh_16.out).mono ?_
  rintro e w17 ⟨⟨s17, m17, c17, q17, l17, d17, rfl, h117, h217, ho17⟩, hb17⟩
  obtain rfl : na = m17 := HNA.out.symm.trans h117
  obtain rfl : nb = l17 := HNB.out.symm.trans h217
  have ohg_17 := Hid.mk ho17
  clear ho17 h117 h217
  clear oh_16
  have p00_17 := cell_later hb17 p00_16
  have p01_17 := cell_later hb17 p01_16
  have ov0_17 := cell_later hb17 ov0_16
  have ov1_17 := cell_later hb17 ov1_16
  have x0_17 := cell_later hb17 x0_16
  have x1_17 := cell_later hb17 x1_16
  have gv0_17 := cell_later hb17 gv0_16
  have gv1_17 := cell_later hb17 gv1_16
  have oo_17 := Hid.mk (RView.ownBelow oo_16.out hb17)
  have og_17 := Hid.mk (RView.ownBelow og_16.out hb17)
  have B_17 := B_16.trans (hb17.mono B_16.size)
  have zz17 : w16.heap.size ≤ w17.heap.size := hb17.size
  clear p00_16 p01_16 ov0_16 ov1_16 x0_16 x1_16 gv0_16 gv1_16 oo_16 og_16 B_16
  clear hb17
  obtain ⟨w18, hU18⟩ : ∃ u, u = w17.alloc (.cells #[.slice s17 na c17, .slice q17 nb d17] 31) := ⟨_, rfl⟩
  have hb18 : Below w17.heap.size w17 w18 := by rw [hU18]; exact (Below.refl _ _).alloc (Nat.le_refl _) _
  have zl18 : w17.heap.size < w18.heap.size := by rw [hU18]; simp
  have nhgv0 : w18.cell? ⟨w17.heap.size, 0, none⟩ = some (.slice s17 na c17) := by rw [hU18]; simp
  have nhgv1 : w18.cell? ⟨w17.heap.size, 1, none⟩ = some (.slice q17 nb d17) := by rw [hU18]; simp
  have p00_18 := cell_later hb18 p00_17
  have p01_18 := cell_later hb18 p01_17
  have ov0_18 := cell_later hb18 ov0_17
  have ov1_18 := cell_later hb18 ov1_17
  have x0_18 := cell_later hb18 x0_17
  have x1_18 := cell_later hb18 x1_17
  have gv0_18 := cell_later hb18 gv0_17
  have gv1_18 := cell_later hb18 gv1_17
  have oo_18 := Hid.mk (RView.ownBelow oo_17.out hb18)
  have og_18 := Hid.mk (RView.ownBelow og_17.out hb18)
  have ohg_18 := Hid.mk (RView.ownBelow ohg_17.out hb18)
  have B_18 := B_17.trans (hb18.mono B_17.size)
  have zz18 : w17.heap.size ≤ w18.heap.size := hb18.size
  clear p00_17 p01_17 ov0_17 ov1_17 x0_17 x1_17 gv0_17 gv1_17 oo_17 og_17 ohg_17 B_17
  clear hb18
  go_upto_region 25 with fail
  rw [← hU18]
  clear hU18
  go_wp2_with fail
  refine (eqView_same _ _ na _ _ _ _ nb _ _ t1 t2 _ HNA.out HNB.out HS2.out (view_at ohg_18.out).1 (view_at ohg_18.out).2 (view_at oo_18.out).1 (view_at oo_18.out).2).mono ?_
  rintro e w19 ⟨rfl, hb19⟩
  have p00_19 := cell_later hb19 p00_18
  have p01_19 := cell_later hb19 p01_18
  have ov0_19 := cell_later hb19 ov0_18
  have ov1_19 := cell_later hb19 ov1_18
  have x0_19 := cell_later hb19 x0_18
  have x1_19 := cell_later hb19 x1_18
  have gv0_19 := cell_later hb19 gv0_18
  have gv1_19 := cell_later hb19 gv1_18
  have hgv0_19 := cell_later hb19 nhgv0
  have hgv1_19 := cell_later hb19 nhgv1
  have oo_19 := Hid.mk (RView.ownBelow oo_18.out hb19)
  have og_19 := Hid.mk (RView.ownBelow og_18.out hb19)
  have ohg_19 := Hid.mk (RView.ownBelow ohg_18.out hb19)
  have B_19 := B_18.trans (hb19.mono B_18.size)
  have zz19 : w18.heap.size ≤ w19.heap.size := hb19.size
  clear p00_18 p01_18 ov0_18 ov1_18 x0_18 x1_18 gv0_18 gv1_18 nhgv0 nhgv1 oo_18 og_18 ohg_18 B_18
  clear hb19
  go_wp2_with fail
  refine (heldView_rep _ na _ _ nb _ t1 t2 1 _ HS2.out HNA.out HNB.out (by omega) (by omega) (view_at (ss := mkInts 1 t1) (xs := mkParts (1 + t1.length) t2) og_19.out).1 (view_at (ss := mkInts 1 t1) (xs := mkParts (1 + t1.length) t2) og_19.out).2).mono ?_
  rintro e w20 ⟨rfl, hb20⟩
  rw [HG0.out]
  have p00_20 := cell_later hb20 p00_19
  have p01_20 := cell_later hb20 p01_19
  have ov0_20 := cell_later hb20 ov0_19
  have ov1_20 := cell_later hb20 ov1_19
  have x0_20 := cell_later hb20 x0_19
  have x1_20 := cell_later hb20 x1_19
  have gv0_20 := cell_later hb20 gv0_19
  have gv1_20 := cell_later hb20 gv1_19
  have hgv0_20 := cell_later hb20 hgv0_19
  have hgv1_20 := cell_later hb20 hgv1_19
  have oo_20 := Hid.mk (RView.ownBelow oo_19.out hb20)
  have og_20 := Hid.mk (RView.ownBelow og_19.out hb20)
  have ohg_20 := Hid.mk (RView.ownBelow ohg_19.out hb20)
  have B_20 := B_19.trans (hb20.mono B_19.size)
  have zz20 : w19.heap.size ≤ w20.heap.size := hb20.size
  clear p00_19 p01_19 ov0_19 ov1_19 x0_19 x1_19 gv0_19 gv1_19 hgv0_19 hgv1_19 oo_19 og_19 ohg_19 B_19
  clear hb20
  go_wp2
  go_ret
  exact ⟨rfl, B_20⟩

end Go.Proofs.Ythdcjelahoiepab

/- Opening the laws' arguments: rows, slices of ints; plain facts on readings. -/
namespace Go.Proofs.Ythdcjelahoiepab
open Go.ChangeShapes Go.WideShapes Go.ChangeAt Go.RowKit Go.Joins Go.Deep

section
variable {H : Type} {enc : TypeId × Value → H} {P : Program} {w : World} {base : Nat} {spare : Nat → Bool} {held : Bool}

theorem array1 {α : Type} {cs : Array α} (h : cs.size = 1) : ∃ c0, cs = #[c0] := by
  obtain ⟨l⟩ := cs
  match l, h with
  | [c0], _ => exact ⟨c0, rfl⟩

theorem open_agg1 {r : Reach} {b0 : Nat} {t : TypeId} {f0 : Field} {v : Value} {d : DataW H} {p : List MemPlace} (hs : P.underlying t = some (.struct #[f0])) (hone : oneCellFields P #[f0] = true) (hC : P.cellsOf t = 1)
    (hv : Value.okWide P w r b0 t v) (h : DataW.Trod enc P w base spare held t v d p) :
    ∃ (v0 : Value) (y0 : DataW H × List MemPlace) (n : Nat), v = .agg #[v0] ∧ d = .agg [y0.1] ∧ p = y0.2 ∧ DataW.trod enc P w base spare held n f0.type [v0] = some y0 := by
  obtain ⟨cs, rfl, hsz⟩ := okWide_struct hs hv
  obtain ⟨c0, rfl⟩ := array1 (hsz.trans hC)
  obtain ⟨fuel, hf⟩ := h
  obtain ⟨y0, n, hx, _, h0⟩ := trod_struct1 hs hf
  obtain ⟨o0, k0⟩ := hone_of hone 0 f0 rfl
  simp only [Prod.mk.injEq] at hx
  exact ⟨c0, y0, n, rfl, hx.1, hx.2, by simpa [Value.cells, o0, k0] using h0⟩

/-- A slice of ints that reads: its numbers. -/
theorem open_at {t e : TypeId} {fuel n c : Nat} {a : Option Addr} {x : DataW H × List MemPlace} (ht : P.underlying t = some (.slice e)) (he : P.underlying e = some (.int .i64)) (hC : P.cellsOf e = 1)
    (h : DataW.trod enc P w base spare held fuel t [.slice a n c] = some x) : ∃ zs : List Int, zs.length = n ∧ n ≤ 9223372036854775807 ∧ At w a zs := by
  rcases open_ints ht he hC h with ⟨hcs, _⟩ | ⟨ad, l, c', zs, hcs, _, hl, hm, hz, _, hcell, _⟩
  · simp at hcs
    obtain ⟨rfl, rfl, rfl⟩ := hcs
    exact ⟨[], rfl, by omega, At.nil _ _⟩
  · simp at hcs
    obtain ⟨rfl, rfl, rfl⟩ := hcs
    unfold maxLen at hm
    have hz' : n ≤ zs.length := by split at hz <;> omega
    refine ⟨zs.take n, by simp; omega, by omega, ?_⟩
    by_cases h0 : n = 0
    · left; simp [h0]
    · right
      obtain ⟨b, off, spot⟩ := ad
      have hc := hcell 0 (by omega)
      have hspot : spot = none := by simpa [Addr.add] using World.cell?_spot hc
      subst hspot
      refine ⟨b, off, rfl, fun i hi => ?_⟩
      have hin : i < n := by simp at hi; omega
      have := hcell i (by omega)
      rw [show (zs.take n).getD i 0 = zs.getD i 0 by simp [List.getD, hin]]
      rw [Addr.add_lit] at this
      exact this

/-- A struct of one slice of ints, by value. -/
theorem open_row {r : Reach} {b0 : Nat} {t ts e : TypeId} {f0 : Field} {v : Value} {d : DataW H} {p : List MemPlace} (hs : P.underlying t = some (.struct #[f0])) (hf0 : f0.type = ts) (hone : oneCellFields P #[f0] = true) (hC : P.cellsOf t = 1)
    (ht : P.underlying ts = some (.slice e)) (he : P.underlying e = some (.int .i64)) (hCe : P.cellsOf e = 1)
    (hv : Value.okWide P w r b0 t v) (h : DataW.Trod enc P w base spare held t v d p) : ∃ a n c, v = .agg #[.slice a n c] ∧ ∃ zs : List Int, zs.length = n ∧ n ≤ 9223372036854775807 ∧ At w a zs := by
  obtain ⟨v0, y0, m, rfl, _, _, h0⟩ := open_agg1 hs hone hC hv h
  subst hf0
  obtain ⟨a, n, c, hcs⟩ := slice_form ht h0
  obtain rfl : v0 = .slice a n c := by simpa using hcs
  exact ⟨a, n, c, rfl, open_at ht he hCe h0⟩
end

end Go.Proofs.Ythdcjelahoiepab

/- Opening things in memory among the laws' arguments, by their shape. -/
namespace Go.Proofs.Ythdcjelahoiepab
open Go.ChangeShapes Go.WideShapes Go.ChangeAt Go.RowKit Go.Joins Go.Deep

section
variable {H : Type} (enc : TypeId × Value → H) (P : Program) (w : World) (base : Nat) (held : Bool)
/-- Whatever reads as a value of type t is such a thing. -/
def Opens {α : Type} (t : TypeId) (A : Rep α) : Prop := ∀ fuel cs x, DataW.trod enc P w base (fun _ => true) held fuel t cs = some x → ∃ y, A.At w cs y
variable {enc P w base held}

theorem Opens.int {t : TypeId} (ht : P.underlying t = some (.int .i64)) : Opens enc P w base held t Rep.int := fun fuel cs x h => by
  obtain ⟨z, hz, _, _⟩ := DataW.trod_int ht h
  exact ⟨z, hz⟩

theorem Opens.slice {α : Type} [Inhabited α] {A : Rep α} {t e e' : TypeId} (ht : P.underlying t = some (.slice e)) (ce : P.cellsOf e = A.k) (hA : Opens enc P w base held e A) (hk : 0 < A.k) : Opens enc P w base held t (Rep.slice e' A) := fun fuel cs x h => by
  rcases open_slice ht h with ⟨rfl, _⟩ | ⟨ad, len, cap, m, k, D, Pl, rfl, _, hl, hm, hmm, _, hx⟩
  · exact ⟨[], none, 0, 0, rfl, rfl, by omega, .inl rfl, fun _ => rfl⟩
  · simp only [if_true] at hmm
    subst hmm
    unfold maxLen at hm
    have each : ∀ i, i < len → ∃ y : α × List Value, (∀ j v, y.2[j]? = some v → w.cell? (ad.add (i * A.k + j)) = some v) ∧ A.At w y.2 y.1 ∧ y.2.length = A.k := by
      intro i hi
      obtain ⟨cs', h1, h2⟩ := hx i (by omega)
      rw [ce] at h1
      obtain ⟨_, hlen, hcell⟩ := World.cells?_some h1
      obtain ⟨y, hy⟩ := hA _ _ _ h2
      refine ⟨(y, cs'), fun j v hv => ?_, hy, by simpa using hlen⟩
      have hj := (List.getElem?_eq_some_iff.1 hv).1
      have := hcell j (by have h5 : cs'.length = A.k := hlen; have h6 : j < cs'.length := hj; omega)
      rw [add_add] at this
      rw [this]
      simpa using hv
    obtain ⟨y, hy⟩ := choose_lt each
    refine ⟨(List.range len).map fun i => (y i).1, some ad, len, _, rfl, by simp, by omega, ?_, fun h => by cases h⟩
    by_cases h0 : len = 0
    · left; simp [h0]
    · right
      obtain ⟨b, off, spot⟩ := ad
      obtain ⟨e1, _, e3⟩ := hy 0 (by omega)
      obtain ⟨v0, hv0⟩ : ∃ v0, (y 0).2[0]? = some v0 := ⟨_, List.getElem?_eq_getElem (by omega)⟩
      have hc0 := e1 0 v0 hv0
      have hspot : spot = none := by simpa [Addr.add] using World.cell?_spot hc0
      subst hspot
      refine ⟨b, off, rfl, fun i x hx' => ?_⟩
      have hi : i < len := by have := (List.getElem?_eq_some_iff.1 hx').1; simpa using this
      obtain ⟨k1, k2, _⟩ := hy i hi
      have hxe : (y i).1 = x := by simpa [hi] using hx'
      refine ⟨(y i).2, fun j v hv => ?_, hxe ▸ k2⟩
      have := k1 j v hv
      rw [Addr.add_lit] at this
      rw [Nat.add_assoc]; exact this

theorem take_one {cs : List Value} {v : Value} (i : Nat) (h : cs[i]? = some v) : (cs.drop i).take 1 = [v] := by
  obtain ⟨hi, rfl⟩ := List.getElem?_eq_some_iff.1 h
  rw [List.drop_eq_getElem_cons hi]; rfl

theorem Opens.struct2 {α β : Type} {A : Rep α} {B : Rep β} {t : TypeId} {f0 f1 : Field} (ht : P.underlying t = some (.struct #[f0, f1])) (hC : P.cellsOf t = 2) (o0 : f0.offset = 0) (o1 : f1.offset = 1)
    (c0 : P.cellsOf f0.type = 1) (c1 : P.cellsOf f1.type = 1) (h0 : Opens enc P w base held f0.type A) (h1 : Opens enc P w base held f1.type B) : Opens enc P w base held t (Rep.pair A B) := fun fuel cs x h => by
  obtain ⟨xs, n, _, rfl, hl, hlen, hf⟩ := DataW.trod_struct ht h
  match xs, hlen, cs, hl.trans hC with
  | [y0, y1], _, [v0, v1], _ =>
    have g0 := hf 0 f0 rfl
    have g1 := hf 1 f1 rfl
    simp [o0, o1, c0, c1] at g0 g1
    obtain ⟨x0, q0⟩ := h0 _ _ _ g0
    obtain ⟨x1, q1⟩ := h1 _ _ _ g1
    exact ⟨(x0, x1), [v0], [v1], rfl, q0, q1⟩

theorem Opens.struct3 {α β γ : Type} {A : Rep α} {B : Rep β} {C : Rep γ} {t : TypeId} {f0 f1 f2 : Field} (ht : P.underlying t = some (.struct #[f0, f1, f2])) (hC : P.cellsOf t = 3) (o0 : f0.offset = 0) (o1 : f1.offset = 1) (o2 : f2.offset = 2)
    (c0 : P.cellsOf f0.type = 1) (c1 : P.cellsOf f1.type = 1) (c2 : P.cellsOf f2.type = 1) (h0 : Opens enc P w base held f0.type A) (h1 : Opens enc P w base held f1.type B) (h2 : Opens enc P w base held f2.type C) : Opens enc P w base held t (Rep.pair A (Rep.pair B C)) := fun fuel cs x h => by
  obtain ⟨xs, n, _, rfl, hl, hlen, hf⟩ := DataW.trod_struct ht h
  match xs, hlen, cs, hl.trans hC with
  | [y0, y1, y2], _, [v0, v1, v2], _ =>
    have g0 := hf 0 f0 rfl
    have g1 := hf 1 f1 rfl
    have g2 := hf 2 f2 rfl
    simp [o0, o1, o2, c0, c1, c2] at g0 g1 g2
    obtain ⟨x0, q0⟩ := h0 _ _ _ g0
    obtain ⟨x1, q1⟩ := h1 _ _ _ g1
    obtain ⟨x2, q2⟩ := h2 _ _ _ g2
    exact ⟨(x0, x1, x2), [v0], _, rfl, q0, [v1], [v2], rfl, q1, q2⟩

theorem Opens.struct6 {α β γ δ ε ζ : Type} {A : Rep α} {B : Rep β} {C : Rep γ} {D : Rep δ} {E : Rep ε} {Z : Rep ζ} {t : TypeId} {f0 f1 f2 f3 f4 f5 : Field} (ht : P.underlying t = some (.struct #[f0, f1, f2, f3, f4, f5])) (hC : P.cellsOf t = 6)
    (o0 : f0.offset = 0) (o1 : f1.offset = 1) (o2 : f2.offset = 2) (o3 : f3.offset = 3) (o4 : f4.offset = 4) (o5 : f5.offset = 5)
    (c0 : P.cellsOf f0.type = 1) (c1 : P.cellsOf f1.type = 1) (c2 : P.cellsOf f2.type = 1) (c3 : P.cellsOf f3.type = 1) (c4 : P.cellsOf f4.type = 1) (c5 : P.cellsOf f5.type = 1)
    (h0 : Opens enc P w base held f0.type A) (h1 : Opens enc P w base held f1.type B) (h2 : Opens enc P w base held f2.type C) (h3 : Opens enc P w base held f3.type D) (h4 : Opens enc P w base held f4.type E) (h5 : Opens enc P w base held f5.type Z) :
    Opens enc P w base held t (Rep.pair A (Rep.pair B (Rep.pair C (Rep.pair D (Rep.pair E Z))))) := fun fuel cs x h => by
  obtain ⟨xs, n, _, rfl, hl, hlen, hf⟩ := DataW.trod_struct ht h
  match xs, hlen, cs, hl.trans hC with
  | [y0, y1, y2, y3, y4, y5], _, [v0, v1, v2, v3, v4, v5], _ =>
    have g0 := hf 0 f0 rfl
    have g1 := hf 1 f1 rfl
    have g2 := hf 2 f2 rfl
    have g3 := hf 3 f3 rfl
    have g4 := hf 4 f4 rfl
    have g5 := hf 5 f5 rfl
    simp [o0, o1, o2, o3, o4, o5, c0, c1, c2, c3, c4, c5] at g0 g1 g2 g3 g4 g5
    obtain ⟨x0, q0⟩ := h0 _ _ _ g0
    obtain ⟨x1, q1⟩ := h1 _ _ _ g1
    obtain ⟨x2, q2⟩ := h2 _ _ _ g2
    obtain ⟨x3, q3⟩ := h3 _ _ _ g3
    obtain ⟨x4, q4⟩ := h4 _ _ _ g4
    obtain ⟨x5, q5⟩ := h5 _ _ _ g5
    exact ⟨(x0, x1, x2, x3, x4, x5), [v0], _, rfl, q0, [v1], _, rfl, q1, [v2], _, rfl, q2, [v3], _, rfl, q3, [v4], [v5], rfl, q4, q5⟩

/-- A struct by value. -/
theorem open_struct {α : Type} {A : Rep α} {r : Reach} {b0 : Nat} {t : TypeId} {fs : Array Field} {v : Value} {d : DataW H} {p : List MemPlace} (hs : P.underlying t = some (.struct fs)) (hA : Opens enc P w base held t A) (hv : Value.okWide P w r b0 t v)
    (h : DataW.Trod enc P w base (fun _ => true) held t v d p) : ∃ cs x, v = .agg cs.toArray ∧ A.At w cs x := by
  obtain ⟨cs, rfl, _⟩ := okWide_struct hs hv
  obtain ⟨fuel, hf⟩ := h
  obtain ⟨x, hx⟩ := hA _ _ _ hf
  exact ⟨_, x, by simp [Value.cells], hx⟩
end

end Go.Proofs.Ythdcjelahoiepab

/- Opening a view among the laws' arguments. -/
namespace Go.Proofs.Ythdcjelahoiepab
open Go.ChangeShapes Go.WideShapes Go.ChangeAt Go.RowKit Go.Joins Go.Deep

set_option maxRecDepth 100000 in
theorem open_view {H : Type} {enc : TypeId × Value → H} {w : World} {base b0 : Nat} {held : Bool} {r : Reach} {v : Value} {d : DataW H} {p : List MemPlace} (hv : Value.okWide Try.prog w r b0 25 v) (h : DataW.Trod enc Try.prog w base (fun _ => true) held 25 v d p) :
    ∃ sa sn sc pa pn pc ss xs, v = .agg #[.slice sa sn sc, .slice pa pn pc] ∧ ss.length = sn ∧ sn ≤ 9223372036854775807 ∧ xs.length = pn ∧ pn ≤ 9223372036854775807 ∧ At w sa ss ∧ AtSl RPart w pa xs := by
  have oi : Opens enc Try.prog w base held 3 Rep.int := Opens.int Try.underlying3
  have ois : Opens enc Try.prog w base held 22 RInts := Opens.slice Try.underlying22 (by kernel_rfl) oi (by decide)
  have oss : Opens enc Try.prog w base held 43 RPairs := Opens.slice Try.underlying43 (by kernel_rfl) ois (by decide)
  have ot : Opens enc Try.prog w base held 104 RTest := Opens.struct3 Try.underlying104 (by kernel_rfl) rfl rfl rfl (by kernel_rfl) (by kernel_rfl) (by kernel_rfl) oi oi oi
  have ots : Opens enc Try.prog w base held 62 RTests := Opens.slice Try.underlying62 (by kernel_rfl) ot (by decide)
  have op : Opens enc Try.prog w base held 64 RPart := Opens.struct6 Try.underlying64 (by kernel_rfl) rfl rfl rfl rfl rfl rfl (by kernel_rfl) (by kernel_rfl) (by kernel_rfl) (by kernel_rfl) (by kernel_rfl) (by kernel_rfl) oi oi oi ots ois oss
  have ops : Opens enc Try.prog w base held 23 RParts := Opens.slice Try.underlying23 (by kernel_rfl) op (by decide)
  have ov : Opens enc Try.prog w base held 25 RView := Opens.struct2 Try.underlying25 (by kernel_rfl) rfl rfl (by kernel_rfl) (by kernel_rfl) ois ops
  obtain ⟨cs, ⟨ss, xs⟩, rfl, c1, c2, rfl, ⟨sa, sn, sc, rfl, h1, h2, h3, _⟩, ⟨pa, pn, pc, rfl, g1, g2, g3, _⟩⟩ := open_struct Try.underlying25 ov hv h
  exact ⟨sa, sn, sc, pa, pn, pc, ss, xs, rfl, h1, h2, g1, g2, atSl_int.1 h3, g3⟩

end Go.Proofs.Ythdcjelahoiepab
