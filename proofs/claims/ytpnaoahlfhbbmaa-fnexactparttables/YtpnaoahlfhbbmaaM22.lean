/- Contract of impl.ProjectTable. -/
import Derived.Test.YtpnaoahlfhbbmaaM21
namespace Go.Proofs.Ytpnaoahlfhbbmaa
open Go.RowKit Go.Shelf

theorem noughts_pick {q : Nat} (h6 : q ≤ 6) (cols : List Int) : pickOk (List.replicate q 0) cols = colsOk cols q := by
  unfold pickOk
  rw [good_noughts h6, List.length_replicate]; rfl

set_option maxRecDepth 100000 in
set_option maxHeartbeats 4000000 in
theorem implProjectTable (a a' : Option Addr) (n n' c c' : Nat) (ts : List WRow) (p : Int) (cols : List Int) (w : World) (hz : ts.length = n) (hz' : cols.length = n') (hn : n ≤ 1048576) (hn' : n' ≤ 1048576) (ha : AtM w a ts) (ha' : At w a' cols) :
    Calls Try.prog 55 #[.agg #[.int .i64 p, .slice a n c], .slice a' n' c'] w fun e w' => TabAns e w' w.heap.size (projB p ts cols) cols.length (projW ts cols) ∧ Below w.heap.size w w' := by
  obtain ⟨W, hW⟩ : ∃ W, W = (w.alloc (.cells #[.int .i64 p, .slice a n c] 36)).alloc (.cells #[.int .i64 0, .slice none 0 0] 36) := ⟨_, rfl⟩
  have zW : W.heap.size = w.heap.size + 1 + 1 := by rw [hW]; simp
  have B0 : Below w.heap.size w W := by rw [hW]; exact ((Below.refl _ _).alloc (Nat.le_refl _) _).alloc (by simp) _
  have c0 : W.cell? ⟨w.heap.size, 0, none⟩ = some (.int .i64 p) := by rw [hW]; exact alloc_keeps (pair0 w _ _ _) _
  have c1 : W.cell? ⟨w.heap.size, 1, none⟩ = some (.slice a n c) := by rw [hW]; exact alloc_keeps (pair1 w _ _ _) _
  have q0 : W.heap[w.heap.size + 1]? = some (.cells #[.int .i64 0, .slice none 0 0] 36 (0, 0)) := by
    rw [hW]
    have := heap_alloc_new (w.alloc (.cells #[.int .i64 p, .slice a n c] 36)) (.cells #[.int .i64 0, .slice none 0 0] 36)
    rwa [World.size_alloc] at this
  have e0 : W.cell? ⟨w.heap.size + 1, 0, none⟩ = some (.int .i64 0) := by rw [cell_of_row _ _ 0 _ _ (0, 0) q0]; rfl
  have e1 : W.cell? ⟨w.heap.size + 1, 1, none⟩ = some (.slice none 0 0) := by rw [cell_of_row _ _ 1 _ _ (0, 0) q0]; rfl
  have f0 : W.frozen? ⟨w.heap.size + 1, 0, none⟩ = false := frozen_of_row _ _ 0 _ _ q0
  have f1 : W.frozen? ⟨w.heap.size + 1, 1, none⟩ = false := frozen_of_row _ _ 1 _ _ q0
  have HA := ha.below B0
  clear ha q0
  have HC := ha'.below B0
  clear ha'
  cases hg : goodT p ts with
  | false =>
    have HG := Hid.mk hg
    clear hg
    go_enter Try.func55, Try.ntmps55
    go_wp2_with fail
    rw [← hW]
    clear hW
    refine (implGoodTable_any _ _ _ ts _ _ hz hn HA.atW).mono ?_
    rintro e w1 ⟨rfl, hb1⟩
    rw [HG.out]
    have B1 := B0.trans (hb1.mono B0.size)
    have f0 := frozen_later hb1 e0 f0
    have f1 := frozen_later hb1 e1 f1
    have e0 := cell_later hb1 e0
    have e1 := cell_later hb1 e1
    have c0 := cell_later hb1 c0
    have c1 := cell_later hb1 c1
    go_wp2
    refine bodyPost_ret (v := .tuple #[.agg #[.int .i64 0, .slice none 0 0], .bool false]) (by simp [results, Try.results55, go_sem, e0, e1]) rfl ⟨TabAns.zero (projB_no HG.out) rfl, ?_⟩
    exact (B1.setCell (by show w.heap.size ≤ w.heap.size + 1; omega) _).setCell (by show w.heap.size ≤ w.heap.size + 1; omega) _
  | true =>
    obtain ⟨q, hq⟩ : ∃ q : Nat, p = q := ⟨p.toNat, by have := inc_range (goodT_parts hg).1; omega⟩
    subst hq
    have h6 : q ≤ 6 := by have := inc_range (goodT_parts hg).1; omega
    have n60 := goodT_len60 hg
    have HG := Hid.mk hg
    clear hg
    go_enter Try.func55, Try.ntmps55
    go_wp2_with fail
    rw [← hW]
    clear hW
    refine (implGoodTable_any _ _ _ ts _ _ hz hn HA.atW).mono ?_
    rintro e w1 ⟨rfl, hb1⟩
    rw [HG.out]
    have B1 := B0.trans (hb1.mono B0.size)
    have f0 := frozen_later hb1 e0 f0
    have f1 := frozen_later hb1 e1 f1
    have e0 := cell_later hb1 e0
    have e1 := cell_later hb1 e1
    have c0 := cell_later hb1 c0
    have c1 := cell_later hb1 c1
    have HA := HA.below hb1
    have HC := HC.below hb1
    clear hb1
    go_wp2_with fail
    refine (noughts_any q _ h6).mono ?_
    rintro e w2 ⟨rn, dn, rfl, _, han, hb2⟩
    have B2 := B1.trans (hb2.mono B1.size)
    have f0 := frozen_later hb2 e0 f0
    have f1 := frozen_later hb2 e1 f1
    have e0 := cell_later hb2 e0
    have e1 := cell_later hb2 e1
    have c0 := cell_later hb2 c0
    have c1 := cell_later hb2 c1
    have HA := HA.below hb2
    have HC := HC.below hb2
    clear hb2
    go_wp2_with fail
    refine (implPickCells _ _ _ _ _ _ (List.replicate q 0) cols _ (by simp) hz' (by omega) (by omega) han HC).mono ?_
    rintro e w3 ⟨rs, ms, ds, rfl, hms, hos, hb3⟩
    rw [noughts_pick h6] at *
    have B3 := B2.trans (hb3.mono B2.size)
    have f0 := frozen_later hb3 e0 f0
    have f1 := frozen_later hb3 e1 f1
    have e0 := cell_later hb3 e0
    have e1 := cell_later hb3 e1
    have c0 := cell_later hb3 c0
    have c1 := cell_later hb3 c1
    have HA := HA.below hb3
    have HC := HC.below hb3
    clear hb3 han
    have ZS : Hid (w.heap.size + 1 < w3.heap.size) := World.block_lt_of_cell? _ _ e0
    have hbL : Below w3.heap.size w3 (w3.alloc (.cells #[.slice rs ms ds] 69)) := (Below.refl _ _).alloc (Nat.le_refl _) _
    obtain ⟨w4, hw4⟩ : ∃ w4, w4 = w3.alloc (.cells #[.slice rs ms ds] 69) := ⟨_, rfl⟩
    have z4 : w4.heap.size = w3.heap.size + 1 := by rw [hw4]; simp
    have s4 : w4.cell? ⟨w3.heap.size, 0, none⟩ = some (.slice rs ms ds) := by rw [hw4]; simp
    have B4 : Below w.heap.size w w4 := by rw [hw4]; exact B3.alloc B3.size _
    have f0 := frozen_later hbL e0 f0
    have f1 := frozen_later hbL e1 f1
    have e0 := cell_later hbL e0
    have e1 := cell_later hbL e1
    have c0 := cell_later hbL c0
    have c1 := cell_later hbL c1
    have HA := HA.below hbL
    have HC := HC.below hbL
    cases hc : colsOk cols q with
    | false =>
      have HCO : Hid (colsOk cols (q : Int).toNat = false) := by show _ = _; simpa using hc
      clear hc
      go_wp2_with fail
      rw [← hw4] at hbL e0 e1 f0 f1 c0 c1 HA HC ⊢
      clear hw4
      (try go_wp2)
      refine bodyPost_ret (v := .tuple #[.agg #[.int .i64 0, .slice none 0 0], .bool false]) (by simp [results, Try.results55, go_sem, e0, e1]) rfl ⟨TabAns.zero (projB_not HCO.out) rfl, ?_⟩
      exact (B4.setCell (by show w.heap.size ≤ w.heap.size + 1; omega) _).setCell (by show w.heap.size ≤ w.heap.size + 1; omega) _
    | true =>
      have HCO : Hid (colsOk cols (q : Int).toNat = true) := by show _ = _; simpa using hc
      have HCN := Hid.mk hc
      have hpz : pickZ (List.replicate q 0) cols = pick (List.replicate q 0) cols := by unfold pickZ; rw [noughts_pick h6, if_pos hc]
      rw [hpz] at hms
      obtain rfl : n' = ms := by rw [← hms]; simp [pick, hz']
      have n6' : n' ≤ 6 := by have := colsOk_len hc; omega
      clear hc hpz hms hos
      have HNB : Hid (projB q ts cols = goodT cols.length (projW ts cols)) := projB_yes HG.out HCO.out
      go_wp2_with fail
      rw [← hw4] at hbL e0 e1 f0 f1 c0 c1 HA HC ⊢
      clear hw4
      have zS := ZS.out
      have HQ : Hid (∀ k, k < ts.length → pickOk (wat ts k).1 cols = true ∧ (wat ts k).1.length ≤ 6) := fun k hk => by
        have h1 := at_of_mem (goodT_mem HG.out) k hk
        refine ⟨?_, by omega⟩
        unfold pickOk
        rw [h1.1, h1.2, HCN.out]; rfl
      have HG1 : Hid (∀ k, k < (projL ts cols).length → good (wat (projL ts cols) k).1 = true ∧ -1000000000000 ≤ (wat (projL ts cols) k).2 ∧ (wat (projL ts cols) k).2 ≤ 1000000000000) := fun k hk => by
        have h1 := at_of_mem (projL_rows HG.out HCN.out) k hk
        exact ⟨h1.1, by omega, by omega⟩
      have HG2 : Hid (∀ t ∈ projL ts cols, t.1.length = n') := fun t ht => by have := (projL_rows HG.out HCN.out t ht).2.1; omega
      have HTN : Hid (Tells n' (sumAt (projL ts cols) (projL ts cols).length 1) (projW ts cols)) := by
        have := tells_new (q := cols.length) (rfl : (projL ts cols).length = _) (projL_goodL HG.out HCN.out)
        rw [hz'] at this
        exact this
      refine wp_region_held_drew (S := fun w' => w'.cell? ⟨w.heap.size, 0, none⟩ = some (.int .i64 q) ∧ w'.cell? ⟨w.heap.size, 1, none⟩ = some (.slice a n c) ∧ w'.cell? ⟨w3.heap.size, 0, none⟩ = some (.slice rs n' ds)) (by kernel_rfl) ?_ (fun hHeld => ?_)
      · (try dsimp only)
        exact ⟨c0, c1, s4⟩
      refine wpAnyH_take (i := 0) (oi := ?_) (v := ?_) ?_ (by kernel_rfl) (by kernel_rfl) (by kernel_rfl) ?_ (Or.inl ⟨?_, ?_⟩) (by assumption) ?_
      rotate_left 2
      · (simp only [List.getElem?_toArray, List.getElem?_cons_zero]; rfl)
      · exact fun _ _ _ h => h
      · rfl
      · (intro wS hSw; (try dsimp only at hSw); go_simp; (try with_reducible rfl))
      (try simp only [Act.put, List.setIfInBounds_toArray, List.set_cons_zero, List.set_cons_succ])
      refine wpAnyH_take (i := 2) (oi := ?_) (v := ?_) ?_ (by kernel_rfl) (by kernel_rfl) (by kernel_rfl) ?_ (Or.inl ⟨?_, ?_⟩) (by assumption) ?_
      rotate_left 2
      · (simp only [List.getElem?_toArray, List.getElem?_cons_zero, List.getElem?_cons_succ]; rfl)
      · exact fun _ _ _ h => h
      · rfl
      · (intro wS hSw; (try dsimp only at hSw); go_simp; (try with_reducible rfl))
      (try simp only [Act.put, List.setIfInBounds_toArray, List.set_cons_zero, List.set_cons_succ])
      refine wpAnyH_take (i := 4) (oi := ?_) (v := ?_) ?_ (by kernel_rfl) (by kernel_rfl) (by kernel_rfl) ?_ (Or.inl ⟨?_, ?_⟩) (by assumption) ?_
      rotate_left 2
      · (simp only [List.getElem?_toArray, List.getElem?_cons_zero, List.getElem?_cons_succ]; rfl)
      · exact fun _ _ _ h => h
      · rfl
      · (intro wS hSw; (try dsimp only at hSw); go_simp; (try with_reducible rfl))
      (try simp only [Act.put, List.setIfInBounds_toArray, List.set_cons_zero, List.set_cons_succ])
      refine wpAnyH_take (i := 5) (oi := ?_) (v := ?_) ?_ (by kernel_rfl) (by kernel_rfl) (by kernel_rfl) ?_ (Or.inl ⟨?_, ?_⟩) (by assumption) ?_
      rotate_left 2
      · (simp only [List.getElem?_toArray, List.getElem?_cons_zero, List.getElem?_cons_succ]; rfl)
      · exact fun _ _ _ h => h
      · rfl
      · (intro wS hSw; (try dsimp only at hSw); go_simp; (try with_reducible rfl))
      (try simp only [Act.put, List.setIfInBounds_toArray, List.set_cons_zero, List.set_cons_succ])
      refine wpAnyH_take (i := 6) (oi := ?_) (v := ?_) ?_ (by kernel_rfl) (by kernel_rfl) (by kernel_rfl) ?_ (Or.inl ⟨?_, ?_⟩) (by assumption) ?_
      rotate_left 2
      · (simp only [List.getElem?_toArray, List.getElem?_cons_zero, List.getElem?_cons_succ]; rfl)
      · exact fun _ _ _ h => h
      · rfl
      · (intro wS hSw; (try dsimp only at hSw); go_simp; (try with_reducible rfl))
      (try simp only [Act.put, List.setIfInBounds_toArray, List.set_cons_zero, List.set_cons_succ])
      refine wpAnyH_ready (rs := [1]) (by kernel_rfl) (by simp) ?_
      refine AllReadyH.cons (o := ?_) ?_ (fun K hK => ?_) AllReadyH.nil
      rotate_left
      · (simp only [List.getElem?_toArray, List.getElem?_cons_zero, List.getElem?_cons_succ]; rfl)
      go_simp
      go_at_call 70; refine (rowsOf_any _ _ _ _ _).mono ?_; rintro e w5 ⟨rfl, hw5⟩; have hb5 : Below w4.drew.heap.size w4.drew w5 := (by rw [hw5]; exact (Below.refl _ _).alloc (Nat.le_refl _) _); have t5 : w5.cell? ⟨w4.heap.size, 1, none⟩ = some (.slice a n c) := (by rw [hw5]; exact pair1 w4.drew _ _ _); have f0 := frozen_later (w := w4.drew) hb5 e0 f0; have f1 := frozen_later (w := w4.drew) hb5 e1 f1; have e0 := cell_later hb5 e0; have e1 := cell_later hb5 e1; have c0 := cell_later hb5 c0; have c1 := cell_later hb5 c1; have s4 := cell_later hb5 s4; have HA3 := HA.drew.below hb5; have HC3 := HC.drew.below hb5; have B5 := B4.drew.trans (hb5.mono B4.size); have hR := rowsOf1_hands w4.heap.size a n c ts w5 hz hn t5 HA3; clear hw5
      (try go_wp2_with fail)
      refine hK.out _ _ ?_ (fun hHeld' => ?_)
      · (try dsimp only)
        exact ⟨c0, c1, s4⟩
      clear hK K hHeld
      have hHeld := hHeld'
      clear hHeld'
      (try simp only [Act.put, List.setIfInBounds_toArray, List.set_cons_zero, List.set_cons_succ])
      refine wpAnyH_ready (rs := [3]) (by kernel_rfl) (by simp) ?_
      refine AllReadyH.cons (o := ?_) ?_ (fun K hK => ?_) AllReadyH.nil
      rotate_left
      · (simp only [List.getElem?_toArray, List.getElem?_cons_zero, List.getElem?_cons_succ]; rfl)
      go_simp
      go_at_call 69; refine (pickedRows_any _ _ _ _ _ _).mono ?_; rintro e w6 ⟨rfl, hw6⟩; have hb6 : Below w5.heap.size w5 w6 := (by rw [hw6]; exact ((Below.refl _ _).alloc (Nat.le_refl _) _).alloc (by simp) _); have t6 : w6.cell? ⟨w5.heap.size, 0, none⟩ = some (.func (.func 75) #[] #[.pointer (some ⟨w4.heap.size, 0, none⟩)]) := (by rw [hw6]; exact alloc_keeps (by simp) _); have u6 : w6.cell? ⟨w5.heap.size + 1, 0, none⟩ = some (.slice a' n' c') := (by rw [hw6]; simp); have f0 := frozen_later hb6 e0 f0; have f1 := frozen_later hb6 e1 f1; have e0 := cell_later hb6 e0; have e1 := cell_later hb6 e1; have c0 := cell_later hb6 c0; have c1 := cell_later hb6 c1; have s4 := cell_later hb6 s4; have B6 := B5.trans (hb6.mono B5.size); have hP := pickedRows1_hands w5.heap.size (w5.heap.size + 1) 75 #[.pointer (some ⟨w4.heap.size, 0, none⟩)] ts a' n' c' cols w6 t6 u6 (enters_of Try.func75 (by kernel_rfl) rfl) (hR.later hb6) hz' n6' (HC3.below hb6) (fun k hk => HQ.out k hk); clear hw6
      (try go_wp2_with fail)
      refine hK.out _ _ ?_ (fun hHeld' => ?_)
      · (try dsimp only)
        exact ⟨c0, c1, s4⟩
      clear hK K hHeld
      have hHeld := hHeld'
      clear hHeld'
      (try simp only [Act.put, List.setIfInBounds_toArray, List.set_cons_zero, List.set_cons_succ])
      refine wpAnyH_ready (rs := [7]) (by kernel_rfl) (by simp) ?_
      refine AllReadyH.cons (o := ?_) ?_ (fun K hK => ?_) AllReadyH.nil
      rotate_left
      · (simp only [List.getElem?_toArray, List.getElem?_cons_zero, List.getElem?_cons_succ]; rfl)
      go_simp
      go_at_call 68; refine (tableOf_any 74 #[.pointer (some ⟨w5.heap.size, 0, none⟩), .pointer (some ⟨w5.heap.size + 1, 0, none⟩)] (projL ts cols) n' w6 (enters_of Try.func74 (by kernel_rfl) rfl) hP n6' (by rw [projL_len]; omega) HG1.out HG2.out).mono ?_; rintro e w7 ⟨us, ⟨r4, m4, d4, cells4, rfl, ho4⟩, hTl, hb7⟩; have t0 := frozen_later hb7 e0 f0; have t1 := frozen_later hb7 e1 f1; have s0 := cell_later hb7 e0; have s1 := cell_later hb7 e1; have i0 := cell_later hb7 c0; have i1 := cell_later hb7 c1; have i4 := cell_later hb7 s4
      (try go_wp2_with fail)
      refine hK.out _ _ ?_ (fun hHeld' => ?_)
      · (try dsimp only)
        exact ⟨i0, i1, i4⟩
      clear hK K hHeld
      have hHeld := hHeld'
      clear hHeld'
      (try simp only [Act.put, List.setIfInBounds_toArray, List.set_cons_zero, List.set_cons_succ])
      refine wpAnyH_take (i := 8) (oi := ?_) (v := ?_) ?_ (by kernel_rfl) (by kernel_rfl) (by kernel_rfl) ?_ (Or.inl ⟨?_, ?_⟩) (by assumption) ?_
      rotate_left 2
      · (simp only [List.getElem?_toArray, List.getElem?_cons_zero, List.getElem?_cons_succ]; rfl)
      · exact fun _ _ _ h => h
      · rfl
      · (intro wS hSw; (try dsimp only at hSw); go_simp; (try with_reducible rfl))
      (try simp only [Act.put, List.setIfInBounds_toArray, List.set_cons_zero, List.set_cons_succ])
      refine wpAnyH_take (i := 9) (oi := ?_) (v := ?_) ?_ (by kernel_rfl) (by kernel_rfl) (by kernel_rfl) ?_ (Or.inl ⟨?_, ?_⟩) (by assumption) ?_
      rotate_left 2
      · (simp only [List.getElem?_toArray, List.getElem?_cons_zero, List.getElem?_cons_succ]; rfl)
      · exact fun _ _ _ h => h
      · rfl
      · (intro wS hSw; (try dsimp only at hSw); go_simp; (try with_reducible rfl))
      (try simp only [Act.put, List.setIfInBounds_toArray, List.set_cons_zero, List.set_cons_succ])
      refine wpAnyH_ready (rs := [10]) (by kernel_rfl) (by simp) ?_
      refine AllReadyH.cons (o := ?_) ?_ (fun K hK => ?_) AllReadyH.nil
      rotate_left
      · (simp only [List.getElem?_toArray, List.getElem?_cons_zero, List.getElem?_cons_succ]; rfl)
      go_simp
      skip
      (try go_wp2_with fail)
      refine hK.out _ _ ?_ (fun hHeld' => ?_)
      · (try dsimp only)
        exact ⟨keep_far (keep_far i0 (by omega)) (by omega), keep_far (keep_far i1 (by omega)) (by omega), keep_far (keep_far i4 (by omega)) (by omega)⟩
      clear hK K hHeld
      have hHeld := hHeld'
      clear hHeld'
      (try simp only [Act.put, List.setIfInBounds_toArray, List.set_cons_zero, List.set_cons_succ])
      refine wpAnyH_take (i := 11) (oi := ?_) (v := ?_) ?_ (by kernel_rfl) (by kernel_rfl) (by kernel_rfl) ?_ (Or.inl ⟨?_, ?_⟩) (by assumption) ?_
      rotate_left 2
      · (simp only [List.getElem?_toArray, List.getElem?_cons_zero, List.getElem?_cons_succ]; rfl)
      · exact fun _ _ _ h => h
      · rfl
      · (intro wS hSw; (try dsimp only at hSw); go_simp; (try with_reducible rfl))
      (try simp only [Act.put, List.setIfInBounds_toArray, List.set_cons_zero, List.set_cons_succ])
      refine wpAnyH_done (by kernel_rfl) ?_ _
      have hus : us = projW ts cols := hTl.unique HTN.out
      subst hus
      have B7 := B6.trans (hb7.mono B6.size)
      have zR : w.heap.size + 1 < w6.heap.size := World.block_lt_of_cell? _ _ (by assumption : w6.cell? ⟨w.heap.size + 1, 0, none⟩ = _)
      have e0 := s0
      have e1 := s1
      rw [← hz'] at ho4
      clear HA HA3 HC HC3 hb5 hb6 hb7 hHeld hR hP hTl
      go_wp2
      refine bodyPost_ret (v := .tuple #[.agg #[.int .i64 _, .slice r4 m4 d4], .bool _]) (by simp [results, Try.results55, go_sem, e0, e1, hz']) rfl ⟨TabAns.tell HNB.out ⟨r4, m4, d4, cells4, rfl, ho4.stored zR (by omega) _ _⟩, ?_⟩
      exact (B7.setCell (by show w.heap.size ≤ w.heap.size + 1; omega) _).setCell (by show w.heap.size ≤ w.heap.size + 1; omega) _
end Go.Proofs.Ytpnaoahlfhbbmaa
