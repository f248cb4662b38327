/- Several texts of one proof, in build order: ProjI, JpY. -/
import Derived.Test.YtpnaoahlfhbbmaaGreatM24
import Derived.Test.YtpnaoahlfhbbmaaGreatM25
import Derived.Test.YtpnaoahlfhbbmaaGreatM27

/- Contract of impl.ProjectTable. -/
namespace Go.Proofs.YtpnaoahlfhbbmaaGreat
open Go.RowKit Go.Shelf

theorem noughts_pick {q : Nat} (h6 : q ≤ 6) (cols : List Int) : pickOk (List.replicate q 0) cols = colsOk cols q := by
  unfold pickOk
  rw [good_noughts h6, List.length_replicate]; rfl

set_option maxRecDepth 100000 in
set_option maxHeartbeats 4000000 in
theorem implProjectTable (a a' : Option Addr) (n n' c c' : Nat) (ts : List WRow) (p : Int) (cols : List Int) (w : World) (hz : ts.length = n) (hz' : cols.length = n') (hn : n ≤ 1048576) (hn' : n' ≤ 1048576) (ha : AtM w a ts) (ha' : At w a' cols) :
    Calls Tryz.prog 54 #[.agg #[.int .i64 p, .slice a n c], .slice a' n' c'] w fun e w' => TabAns e w' w.heap.size (projB p ts cols) cols.length (projW ts cols) ∧ Below w.heap.size w w' := by
  obtain ⟨W, hW⟩ : ∃ W, W = (w.alloc (.cells #[.int .i64 p, .slice a n c] 28)).alloc (.cells #[.int .i64 0, .slice none 0 0] 28) := ⟨_, rfl⟩
  have zW : W.heap.size = w.heap.size + 1 + 1 := by rw [hW]; simp
  have B0 : Below w.heap.size w W := by rw [hW]; exact ((Below.refl _ _).alloc (Nat.le_refl _) _).alloc (by simp) _
  have c0 : W.cell? ⟨w.heap.size, 0, none⟩ = some (.int .i64 p) := by rw [hW]; exact alloc_keeps (pair0 w _ _ _) _
  have c1 : W.cell? ⟨w.heap.size, 1, none⟩ = some (.slice a n c) := by rw [hW]; exact alloc_keeps (pair1 w _ _ _) _
  have q0 : W.heap[w.heap.size + 1]? = some (.cells #[.int .i64 0, .slice none 0 0] 28 (0, 0)) := by
    rw [hW]
    have := heap_alloc_new (w.alloc (.cells #[.int .i64 p, .slice a n c] 28)) (.cells #[.int .i64 0, .slice none 0 0] 28)
    rwa [World.size_alloc] at this
  have e0 : W.cell? ⟨w.heap.size + 1, 0, none⟩ = some (.int .i64 0) := by rw [cell_of_row _ _ 0 _ _ (0, 0) q0]; rfl
  have e1 : W.cell? ⟨w.heap.size + 1, 1, none⟩ = some (.slice none 0 0) := by rw [cell_of_row _ _ 1 _ _ (0, 0) q0]; rfl
  have f0 : W.frozen? ⟨w.heap.size + 1, 0, none⟩ = false := frozen_of_row _ _ 0 _ _ q0
  have f1 : W.frozen? ⟨w.heap.size + 1, 1, none⟩ = false := frozen_of_row _ _ 1 _ _ q0
  have HA := ha.below B0
  clear ha q0
  have HC := ha'.below B0
  clear ha'
  cases hg : goodT p ts with
  | false =>
    have HG := Hid.mk hg
    clear hg
    go_enter Tryz.func54, Tryz.ntmps54
    go_wp2_with fail
    rw [← hW]
    clear hW
    refine (implGoodTable_any _ _ _ ts _ _ hz hn HA.atW).mono ?_
    rintro e w1 ⟨rfl, hb1⟩
    rw [HG.out]
    have B1 := B0.trans (hb1.mono B0.size)
    have f0 := frozen_later hb1 e0 f0
    have f1 := frozen_later hb1 e1 f1
    have e0 := cell_later hb1 e0
    have e1 := cell_later hb1 e1
    have c0 := cell_later hb1 c0
    have c1 := cell_later hb1 c1
    go_wp2
    refine bodyPost_ret (v := .tuple #[.agg #[.int .i64 0, .slice none 0 0], .bool false]) (by simp [results, Tryz.results54, go_sem, e0, e1]) rfl ⟨TabAns.zero (projB_no HG.out) rfl, ?_⟩
    exact (B1.setCell (by show w.heap.size ≤ w.heap.size + 1; omega) _).setCell (by show w.heap.size ≤ w.heap.size + 1; omega) _
  | true =>
    obtain ⟨q, hq⟩ : ∃ q : Nat, p = q := ⟨p.toNat, by have := inc_range (goodT_parts hg).1; omega⟩
    subst hq
    have h6 : q ≤ 6 := by have := inc_range (goodT_parts hg).1; omega
    have n60 := goodT_len60 hg
    have HG := Hid.mk hg
    clear hg
    go_enter Tryz.func54, Tryz.ntmps54
    go_wp2_with fail
    rw [← hW]
    clear hW
    refine (implGoodTable_any _ _ _ ts _ _ hz hn HA.atW).mono ?_
    rintro e w1 ⟨rfl, hb1⟩
    rw [HG.out]
    have B1 := B0.trans (hb1.mono B0.size)
    have f0 := frozen_later hb1 e0 f0
    have f1 := frozen_later hb1 e1 f1
    have e0 := cell_later hb1 e0
    have e1 := cell_later hb1 e1
    have c0 := cell_later hb1 c0
    have c1 := cell_later hb1 c1
    have HA := HA.below hb1
    have HC := HC.below hb1
    clear hb1
    go_wp2_with fail
    refine (noughts_any q _ h6).mono ?_
    rintro e w2 ⟨rn, dn, rfl, _, han, hb2⟩
    have B2 := B1.trans (hb2.mono B1.size)
    have f0 := frozen_later hb2 e0 f0
    have f1 := frozen_later hb2 e1 f1
    have e0 := cell_later hb2 e0
    have e1 := cell_later hb2 e1
    have c0 := cell_later hb2 c0
    have c1 := cell_later hb2 c1
    have HA := HA.below hb2
    have HC := HC.below hb2
    clear hb2
    go_wp2_with fail
    refine (implPickCells _ _ _ _ _ _ (List.replicate q 0) cols _ (by simp) hz' (by omega) (by omega) han HC).mono ?_
    rintro e w3 ⟨rs, ms, ds, rfl, hms, hos, hb3⟩
    rw [noughts_pick h6] at *
    have B3 := B2.trans (hb3.mono B2.size)
    have f0 := frozen_later hb3 e0 f0
    have f1 := frozen_later hb3 e1 f1
    have e0 := cell_later hb3 e0
    have e1 := cell_later hb3 e1
    have c0 := cell_later hb3 c0
    have c1 := cell_later hb3 c1
    have HA := HA.below hb3
    have HC := HC.below hb3
    clear hb3 han
    have ZS : Hid (w.heap.size + 1 < w3.heap.size) := World.block_lt_of_cell? _ _ e0
    have hbL : Below w3.heap.size w3 (w3.alloc (.cells #[.slice rs ms ds] 48)) := (Below.refl _ _).alloc (Nat.le_refl _) _
    obtain ⟨w4, hw4⟩ : ∃ w4, w4 = w3.alloc (.cells #[.slice rs ms ds] 48) := ⟨_, rfl⟩
    have z4 : w4.heap.size = w3.heap.size + 1 := by rw [hw4]; simp
    have s4 : w4.cell? ⟨w3.heap.size, 0, none⟩ = some (.slice rs ms ds) := by rw [hw4]; simp
    have B4 : Below w.heap.size w w4 := by rw [hw4]; exact B3.alloc B3.size _
    have f0 := frozen_later hbL e0 f0
    have f1 := frozen_later hbL e1 f1
    have e0 := cell_later hbL e0
    have e1 := cell_later hbL e1
    have c0 := cell_later hbL c0
    have c1 := cell_later hbL c1
    have HA := HA.below hbL
    have HC := HC.below hbL
    cases hc : colsOk cols q with
    | false =>
      have HCO : Hid (colsOk cols (q : Int).toNat = false) := by show _ = _; simpa using hc
      clear hc
      go_wp2_with fail
      rw [← hw4] at hbL e0 e1 f0 f1 c0 c1 HA HC ⊢
      clear hw4
      (try go_wp2)
      refine bodyPost_ret (v := .tuple #[.agg #[.int .i64 0, .slice none 0 0], .bool false]) (by simp [results, Tryz.results54, go_sem, e0, e1]) rfl ⟨TabAns.zero (projB_not HCO.out) rfl, ?_⟩
      exact (B4.setCell (by show w.heap.size ≤ w.heap.size + 1; omega) _).setCell (by show w.heap.size ≤ w.heap.size + 1; omega) _
    | true =>
      have HCO : Hid (colsOk cols (q : Int).toNat = true) := by show _ = _; simpa using hc
      have HCN := Hid.mk hc
      have hpz : pickZ (List.replicate q 0) cols = pick (List.replicate q 0) cols := by unfold pickZ; rw [noughts_pick h6, if_pos hc]
      rw [hpz] at hms
      obtain rfl : n' = ms := by rw [← hms]; simp [pick, hz']
      have n6' : n' ≤ 6 := by have := colsOk_len hc; omega
      clear hc hpz hms hos
      have HNB : Hid (projB q ts cols = goodT cols.length (projW ts cols)) := projB_yes HG.out HCO.out
      go_wp2_with fail
      rw [← hw4] at hbL e0 e1 f0 f1 c0 c1 HA HC ⊢
      clear hw4
      have zS := ZS.out
      have HQ : Hid (∀ k, k < ts.length → pickOk (wat ts k).1 cols = true ∧ (wat ts k).1.length ≤ 6) := fun k hk => by
        have h1 := at_of_mem (goodT_mem HG.out) k hk
        refine ⟨?_, by omega⟩
        unfold pickOk
        rw [h1.1, h1.2, HCN.out]; rfl
      have HG1 : Hid (∀ k, k < (projL ts cols).length → good (wat (projL ts cols) k).1 = true ∧ -1000000000000 ≤ (wat (projL ts cols) k).2 ∧ (wat (projL ts cols) k).2 ≤ 1000000000000) := fun k hk => by
        have h1 := at_of_mem (projL_rows HG.out HCN.out) k hk
        exact ⟨h1.1, by omega, by omega⟩
      have HG2 : Hid (∀ t ∈ projL ts cols, t.1.length = n') := fun t ht => by have := (projL_rows HG.out HCN.out t ht).2.1; omega
      have HTN : Hid (Tells n' (sumAt (projL ts cols) (projL ts cols).length 1) (projW ts cols)) := by
        have := tells_new (q := cols.length) (rfl : (projL ts cols).length = _) (projL_goodL HG.out HCN.out)
        rw [hz'] at this
        exact this
      refine wp_region_held_drew (S := fun w' => w'.cell? ⟨w.heap.size, 0, none⟩ = some (.int .i64 q) ∧ w'.cell? ⟨w.heap.size, 1, none⟩ = some (.slice a n c) ∧ w'.cell? ⟨w3.heap.size, 0, none⟩ = some (.slice rs n' ds)) (by kernel_rfl) ?_ (fun hHeld => ?_)
      · (try dsimp only)
        exact ⟨c0, c1, s4⟩
      refine wpAnyH_take (i := 0) (oi := ?_) (v := ?_) ?_ (by kernel_rfl) (by kernel_rfl) (by kernel_rfl) ?_ (Or.inl ⟨?_, ?_⟩) (by assumption) ?_
      rotate_left 2
      · (simp only [List.getElem?_toArray, List.getElem?_cons_zero]; rfl)
      · exact fun _ _ _ h => h
      · rfl
      · (intro wS hSw; (try dsimp only at hSw); go_simp; (try with_reducible rfl))
      (try simp only [Act.put, List.setIfInBounds_toArray, List.set_cons_zero, List.set_cons_succ])
      refine wpAnyH_take (i := 2) (oi := ?_) (v := ?_) ?_ (by kernel_rfl) (by kernel_rfl) (by kernel_rfl) ?_ (Or.inl ⟨?_, ?_⟩) (by assumption) ?_
      rotate_left 2
      · (simp only [List.getElem?_toArray, List.getElem?_cons_zero, List.getElem?_cons_succ]; rfl)
      · exact fun _ _ _ h => h
      · rfl
      · (intro wS hSw; (try dsimp only at hSw); go_simp; (try with_reducible rfl))
      (try simp only [Act.put, List.setIfInBounds_toArray, List.set_cons_zero, List.set_cons_succ])
      refine wpAnyH_take (i := 4) (oi := ?_) (v := ?_) ?_ (by kernel_rfl) (by kernel_rfl) (by kernel_rfl) ?_ (Or.inl ⟨?_, ?_⟩) (by assumption) ?_
      rotate_left 2
      · (simp only [List.getElem?_toArray, List.getElem?_cons_zero, List.getElem?_cons_succ]; rfl)
      · exact fun _ _ _ h => h
      · rfl
      · (intro wS hSw; (try dsimp only at hSw); go_simp; (try with_reducible rfl))
      (try simp only [Act.put, List.setIfInBounds_toArray, List.set_cons_zero, List.set_cons_succ])
      refine wpAnyH_take (i := 5) (oi := ?_) (v := ?_) ?_ (by kernel_rfl) (by kernel_rfl) (by kernel_rfl) ?_ (Or.inl ⟨?_, ?_⟩) (by assumption) ?_
      rotate_left 2
      · (simp only [List.getElem?_toArray, List.getElem?_cons_zero, List.getElem?_cons_succ]; rfl)
      · exact fun _ _ _ h => h
      · rfl
      · (intro wS hSw; (try dsimp only at hSw); go_simp; (try with_reducible rfl))
      (try simp only [Act.put, List.setIfInBounds_toArray, List.set_cons_zero, List.set_cons_succ])
      refine wpAnyH_take (i := 6) (oi := ?_) (v := ?_) ?_ (by kernel_rfl) (by kernel_rfl) (by kernel_rfl) ?_ (Or.inl ⟨?_, ?_⟩) (by assumption) ?_
      rotate_left 2
      · (simp only [List.getElem?_toArray, List.getElem?_cons_zero, List.getElem?_cons_succ]; rfl)
      · exact fun _ _ _ h => h
      · rfl
      · (intro wS hSw; (try dsimp only at hSw); go_simp; (try with_reducible rfl))
      (try simp only [Act.put, List.setIfInBounds_toArray, List.set_cons_zero, List.set_cons_succ])
      refine wpAnyH_ready (rs := [1]) (by kernel_rfl) (by simp) ?_
      refine AllReadyH.cons (o := ?_) ?_ (fun K hK => ?_) AllReadyH.nil
      rotate_left
      · (simp only [List.getElem?_toArray, List.getElem?_cons_zero, List.getElem?_cons_succ]; rfl)
      go_simp
      go_at_call 68; refine (rowsOf_any _ _ _ _ _).mono ?_; rintro e w5 ⟨rfl, hw5⟩; have hb5 : Below w4.drew.heap.size w4.drew w5 := (by rw [hw5]; exact (Below.refl _ _).alloc (Nat.le_refl _) _); have t5 : w5.cell? ⟨w4.heap.size, 1, none⟩ = some (.slice a n c) := (by rw [hw5]; exact pair1 w4.drew _ _ _); have f0 := frozen_later (w := w4.drew) hb5 e0 f0; have f1 := frozen_later (w := w4.drew) hb5 e1 f1; have e0 := cell_later hb5 e0; have e1 := cell_later hb5 e1; have c0 := cell_later hb5 c0; have c1 := cell_later hb5 c1; have s4 := cell_later hb5 s4; have HA3 := HA.drew.below hb5; have HC3 := HC.drew.below hb5; have B5 := B4.drew.trans (hb5.mono B4.size); have hR := rowsOf1_hands w4.heap.size a n c ts w5 hz hn t5 HA3; clear hw5
      (try go_wp2_with fail)
      refine hK.out _ _ ?_ (fun hHeld' => ?_)
      · (try dsimp only)
        exact ⟨c0, c1, s4⟩
      clear hK K hHeld
      have hHeld := hHeld'
      clear hHeld'
      (try simp only [Act.put, List.setIfInBounds_toArray, List.set_cons_zero, List.set_cons_succ])
      refine wpAnyH_ready (rs := [3]) (by kernel_rfl) (by simp) ?_
      refine AllReadyH.cons (o := ?_) ?_ (fun K hK => ?_) AllReadyH.nil
      rotate_left
      · (simp only [List.getElem?_toArray, List.getElem?_cons_zero, List.getElem?_cons_succ]; rfl)
      go_simp
      go_at_call 70; refine (pickedRows_any _ _ _ _ _ _).mono ?_; rintro e w6 ⟨rfl, hw6⟩; have hb6 : Below w5.heap.size w5 w6 := (by rw [hw6]; exact ((Below.refl _ _).alloc (Nat.le_refl _) _).alloc (by simp) _); have t6 : w6.cell? ⟨w5.heap.size, 0, none⟩ = some (.func (.func 81) #[] #[.pointer (some ⟨w4.heap.size, 0, none⟩)]) := (by rw [hw6]; exact alloc_keeps (by simp) _); have u6 : w6.cell? ⟨w5.heap.size + 1, 0, none⟩ = some (.slice a' n' c') := (by rw [hw6]; simp); have f0 := frozen_later hb6 e0 f0; have f1 := frozen_later hb6 e1 f1; have e0 := cell_later hb6 e0; have e1 := cell_later hb6 e1; have c0 := cell_later hb6 c0; have c1 := cell_later hb6 c1; have s4 := cell_later hb6 s4; have B6 := B5.trans (hb6.mono B5.size); have hP := pickedRows1_hands w5.heap.size (w5.heap.size + 1) 81 #[.pointer (some ⟨w4.heap.size, 0, none⟩)] ts a' n' c' cols w6 t6 u6 (enters_of Tryz.func81 (by kernel_rfl) rfl) (hR.later hb6) hz' n6' (HC3.below hb6) (fun k hk => HQ.out k hk); clear hw6
      (try go_wp2_with fail)
      refine hK.out _ _ ?_ (fun hHeld' => ?_)
      · (try dsimp only)
        exact ⟨c0, c1, s4⟩
      clear hK K hHeld
      have hHeld := hHeld'
      clear hHeld'
      (try simp only [Act.put, List.setIfInBounds_toArray, List.set_cons_zero, List.set_cons_succ])
      refine wpAnyH_ready (rs := [7]) (by kernel_rfl) (by simp) ?_
      refine AllReadyH.cons (o := ?_) ?_ (fun K hK => ?_) AllReadyH.nil
      rotate_left
      · (simp only [List.getElem?_toArray, List.getElem?_cons_zero, List.getElem?_cons_succ]; rfl)
      go_simp
      go_at_call 66; refine (tableOf_any 82 #[.pointer (some ⟨w5.heap.size, 0, none⟩), .pointer (some ⟨w5.heap.size + 1, 0, none⟩)] (projL ts cols) n' w6 (enters_of Tryz.func82 (by kernel_rfl) rfl) hP n6' (by rw [projL_len]; omega) HG1.out HG2.out).mono ?_; rintro e w7 ⟨us, ⟨r4, m4, d4, cells4, rfl, ho4⟩, hTl, hb7⟩; have t0 := frozen_later hb7 e0 f0; have t1 := frozen_later hb7 e1 f1; have s0 := cell_later hb7 e0; have s1 := cell_later hb7 e1; have i0 := cell_later hb7 c0; have i1 := cell_later hb7 c1; have i4 := cell_later hb7 s4
      (try go_wp2_with fail)
      refine hK.out _ _ ?_ (fun hHeld' => ?_)
      · (try dsimp only)
        exact ⟨i0, i1, i4⟩
      clear hK K hHeld
      have hHeld := hHeld'
      clear hHeld'
      (try simp only [Act.put, List.setIfInBounds_toArray, List.set_cons_zero, List.set_cons_succ])
      refine wpAnyH_take (i := 8) (oi := ?_) (v := ?_) ?_ (by kernel_rfl) (by kernel_rfl) (by kernel_rfl) ?_ (Or.inl ⟨?_, ?_⟩) (by assumption) ?_
      rotate_left 2
      · (simp only [List.getElem?_toArray, List.getElem?_cons_zero, List.getElem?_cons_succ]; rfl)
      · exact fun _ _ _ h => h
      · rfl
      · (intro wS hSw; (try dsimp only at hSw); go_simp; (try with_reducible rfl))
      (try simp only [Act.put, List.setIfInBounds_toArray, List.set_cons_zero, List.set_cons_succ])
      refine wpAnyH_take (i := 9) (oi := ?_) (v := ?_) ?_ (by kernel_rfl) (by kernel_rfl) (by kernel_rfl) ?_ (Or.inl ⟨?_, ?_⟩) (by assumption) ?_
      rotate_left 2
      · (simp only [List.getElem?_toArray, List.getElem?_cons_zero, List.getElem?_cons_succ]; rfl)
      · exact fun _ _ _ h => h
      · rfl
      · (intro wS hSw; (try dsimp only at hSw); go_simp; (try with_reducible rfl))
      (try simp only [Act.put, List.setIfInBounds_toArray, List.set_cons_zero, List.set_cons_succ])
      refine wpAnyH_ready (rs := [10]) (by kernel_rfl) (by simp) ?_
      refine AllReadyH.cons (o := ?_) ?_ (fun K hK => ?_) AllReadyH.nil
      rotate_left
      · (simp only [List.getElem?_toArray, List.getElem?_cons_zero, List.getElem?_cons_succ]; rfl)
      go_simp
      skip
      (try go_wp2_with fail)
      refine hK.out _ _ ?_ (fun hHeld' => ?_)
      · (try dsimp only)
        exact ⟨keep_far (keep_far i0 (by omega)) (by omega), keep_far (keep_far i1 (by omega)) (by omega), keep_far (keep_far i4 (by omega)) (by omega)⟩
      clear hK K hHeld
      have hHeld := hHeld'
      clear hHeld'
      (try simp only [Act.put, List.setIfInBounds_toArray, List.set_cons_zero, List.set_cons_succ])
      refine wpAnyH_take (i := 11) (oi := ?_) (v := ?_) ?_ (by kernel_rfl) (by kernel_rfl) (by kernel_rfl) ?_ (Or.inl ⟨?_, ?_⟩) (by assumption) ?_
      rotate_left 2
      · (simp only [List.getElem?_toArray, List.getElem?_cons_zero, List.getElem?_cons_succ]; rfl)
      · exact fun _ _ _ h => h
      · rfl
      · (intro wS hSw; (try dsimp only at hSw); go_simp; (try with_reducible rfl))
      (try simp only [Act.put, List.setIfInBounds_toArray, List.set_cons_zero, List.set_cons_succ])
      refine wpAnyH_done (by kernel_rfl) ?_ _
      have hus : us = projW ts cols := hTl.unique HTN.out
      subst hus
      have B7 := B6.trans (hb7.mono B6.size)
      have zR : w.heap.size + 1 < w6.heap.size := World.block_lt_of_cell? _ _ (by assumption : w6.cell? ⟨w.heap.size + 1, 0, none⟩ = _)
      have e0 := s0
      have e1 := s1
      rw [← hz'] at ho4
      clear HA HA3 HC HC3 hb5 hb6 hb7 hHeld hR hP hTl
      go_wp2
      refine bodyPost_ret (v := .tuple #[.agg #[.int .i64 _, .slice r4 m4 d4], .bool _]) (by simp [results, Tryz.results54, go_sem, e0, e1, hz']) rfl ⟨TabAns.tell HNB.out ⟨r4, m4, d4, cells4, rfl, ho4.stored zR (by omega) _ _⟩, ?_⟩
      exact (B7.setCell (by show w.heap.size ≤ w.heap.size + 1; omega) _).setCell (by show w.heap.size ≤ w.heap.size + 1; omega) _
end Go.Proofs.YtpnaoahlfhbbmaaGreat

/- Contract of joinedParts.inOrder: where its columns are 0 .. n-1 in whatever order. -/
namespace Go.Proofs.YtpnaoahlfhbbmaaGreat
open Go.RowKit

/-- The places behind k rounds. -/
def plk (C : Nat) (cols : List Int) (k : Nat) : List Int := (List.range C).map fun (c : Nat) => if (c : Int) ∈ cols.take k then (ix (c : Int) cols : Int) else 0
theorem plk_len (C : Nat) (cols : List Int) (k : Nat) : (plk C cols k).length = C := by simp [plk]
theorem plk_zero (C : Nat) (cols : List Int) : plk C cols 0 = List.replicate C 0 := by
  apply List.ext_getElem (by simp [plk])
  intro i h1 h2
  simp [plk]
theorem plk_all {C : Nat} {cols : List Int} {k : Nat} (hall : ∀ c, c < C → (c : Int) ∈ cols) (hk : cols.length ≤ k) : plk C cols k = plc C cols := by
  unfold plk plc
  apply List.map_congr_left
  intro c hc
  rw [List.take_of_length_le hk, if_pos (hall c (List.mem_range.1 hc))]
theorem plk_succ {C : Nat} {cols : List Int} {k : Nat} (hn : cols.Nodup) (hk : k < cols.length) (x : Nat) (hx : cols.getD k 0 = (x : Int)) : plk C cols (k + 1) = (plk C cols k).set x (k : Int) := by
  have hg : cols[k] = (x : Int) := by rw [← hx]; simp [List.getD, hk]
  have hix : ix (x : Int) cols = k := by rw [← hx]; exact ix_uniq hn hk
  apply List.ext_getElem (by simp [plk])
  intro i h1 h2
  rw [List.getElem_set]
  have e1 : (plk C cols (k + 1))[i] = if (i : Int) ∈ cols.take (k + 1) then (ix (i : Int) cols : Int) else 0 := by simp [plk]
  rw [e1, List.take_succ_eq_append_getElem hk, hg]
  by_cases hi : x = i
  · subst hi
    rw [if_pos rfl, if_pos (by simp), hix]
  · rw [if_neg hi]
    have e2 : (plk C cols k)[i]'(by simpa using h2) = if (i : Int) ∈ cols.take k then (ix (i : Int) cols : Int) else 0 := by simp [plk]
    rw [e2]
    have : ((i : Int) ∈ cols.take k ++ [(x : Int)]) ↔ (i : Int) ∈ cols.take k := by
      simp only [List.mem_append, List.mem_singleton]
      exact ⟨fun h => h.elim id (fun h => absurd h (by omega)), .inl⟩
    simp only [this]

set_option maxRecDepth 100000 in
set_option maxHeartbeats 16000000 in
theorem inOrderJ_any (ca : Option Addr) (cn cc : Nat) (cols : List Int) (p : Int) (a : Option Addr) (n c : Nat) (ts : List WRow) (w : World)
    (hcl : cols.length = cn) (hc6 : cn ≤ 6) (hca : At w ca cols) (hnd : cols.Nodup) (hin : ∀ k ∈ cols, 0 ≤ k ∧ k < (cn : Int)) (hall : ∀ c, c < cn → (c : Int) ∈ cols) (hz : ts.length = n) (hn : n ≤ 1048576) (ha : AtM w a ts) :
    Calls Tryz.prog 31 #[.agg #[.slice ca cn cc, .int .i64 p, .slice a n c]] w fun e w' => TabAns e w' w.heap.size (projB p ts (plc cn cols)) (plc cn cols).length (projW ts (plc cn cols)) ∧ Below w.heap.size w w' := by
  obtain ⟨i0, hi, hz0, hz1, hz2⟩ := info_parts Tryz.infoInt
  obtain ⟨W, hW⟩ : ∃ W, W = (w.alloc (.cells #[.slice ca cn cc, .int .i64 p, .slice a n c] 60)).alloc (.cells #[.int .i64 0, .slice none 0 0] 28) := ⟨_, rfl⟩
  have zW : w.heap.size + 1 < W.heap.size := by rw [hW]; simp
  have B0 : Below w.heap.size w W := by rw [hW]; exact ((Below.refl _ _).alloc (Nat.le_refl _) _).alloc (by simp) _
  have u0 : W.cell? ⟨w.heap.size, 0, none⟩ = some (.slice ca cn cc) := by rw [hW]; refine alloc_keeps ?_ _; simp
  have u1 : W.cell? ⟨w.heap.size, 1, none⟩ = some (.int .i64 p) := by rw [hW]; refine alloc_keeps ?_ _; simp
  have u2 : W.cell? ⟨w.heap.size, 2, none⟩ = some (.slice a n c) := by rw [hW]; refine alloc_keeps ?_ _; simp
  have q0 : W.heap[w.heap.size + 1]? = some (.cells #[.int .i64 0, .slice none 0 0] 28 (0, 0)) := by
    rw [hW]
    have := heap_alloc_new (w.alloc (.cells #[.slice ca cn cc, .int .i64 p, .slice a n c] 60)) (.cells #[.int .i64 0, .slice none 0 0] 28)
    rwa [World.size_alloc] at this
  have e0 : W.cell? ⟨w.heap.size + 1, 0, none⟩ = some (.int .i64 0) := by rw [cell_of_row _ _ 0 _ _ (0, 0) q0]; rfl
  have e1 : W.cell? ⟨w.heap.size + 1, 1, none⟩ = some (.slice none 0 0) := by rw [cell_of_row _ _ 1 _ _ (0, 0) q0]; rfl
  have f0 : W.frozen? ⟨w.heap.size + 1, 0, none⟩ = false := frozen_of_row _ _ 0 _ _ q0
  have f1 : W.frozen? ⟨w.heap.size + 1, 1, none⟩ = false := frozen_of_row _ _ 1 _ _ q0
  have HCL := Hid.mk hcl
  have HCA := Hid.mk (At.below hca B0)
  have HA := Hid.mk (ha.below B0)
  have HZ := Hid.mk hz
  have HB0 := Hid.mk B0
  have HND := Hid.mk hnd
  have HIN := Hid.mk hin
  have HALL := Hid.mk hall
  clear hcl hca ha hz B0 hnd hin hall q0
  go_enter Tryz.func31, Tryz.ntmps31
  go_upto_region 1 with fail
  rw [← hW]
  clear hW
  go_upto_region 2 with (at_make; refine wpList_make_full _ rfl _ _ 45 rfl W.heap.size 3 i0 (.int .i64 0) 1 Tryz.underlying45 hi hz0 hz1 .i64 .i64 _ _ cn rfl rfl rfl rfl (by rw [hz2]; omega) (by unfold maxLen; omega) (Nat.le_refl _) ?_; intro w1 hown hg)
  have hb1 : Below W.heap.size W w1 := (Below.refl _ _).grown hg (Nat.le_refl _) (by simp)
  have hown1 : w1.ownsRow W.heap.size 3 1 (.slice (some ⟨W.heap.size, 0, none⟩) cn cn) cn ((plk cn cols 0).map (.int .i64)) := by
    have hmc : (madeCells (Value.int .i64 0).cells (cn * 1)).toList = (List.replicate cn 0).map (.int .i64) := by
      have : cn = 0 ∨ cn = 1 ∨ cn = 2 ∨ cn = 3 ∨ cn = 4 ∨ cn = 5 ∨ cn = 6 := by omega
      rcases this with rfl | rfl | rfl | rfl | rfl | rfl | rfl <;> simp [madeCells, Value.cells, Array.toList_map, Array.toList_range, List.range, List.range.loop, List.replicate]
    rw [plk_zero, ← hmc]; exact hown
  have HO1 := Hid.mk hown1
  have HB1 := Hid.mk hb1
  have u0 := cell_later hb1 u0
  clear hown hg hb1 hown1
  go_wp2_with fail
  go_loopw [14] (fun i wr => ∃ (k : Nat), k ≤ cn ∧ i = .int .i64 k ∧ wr.ownsRow W.heap.size 3 1 (.slice (some ⟨W.heap.size, 0, none⟩) cn cn) cn ((plk cn cols k).map (.int .i64)) ∧ Below W.heap.size W wr) (fun i _ => cn - (intOf i).toNat)
  case atStart => exact ⟨0, Nat.zero_le _, rfl, HO1.out, HB1.out⟩
  case round =>
    clear HO1 HB1
    obtain ⟨k, hk, rfl, hown, hbw⟩ := hrel
    have zw := hbw.size
    by_cases hlt : k < cn
    · obtain ⟨b, off, hab, hb, hc⟩ := (At.below HCA.out hbw).some (by have := HCL.out; omega)
      subst hab
      have hcx : wr.cell? ⟨b, off + k, none⟩ = some (.int .i64 (cols.getD k 0)) := hc k (by have := HCL.out; omega)
      have hm : cols.getD k 0 ∈ cols := by have := HCL.out; have h9 : k < cols.length := by omega
                                           simp [List.getD, h9]
      obtain ⟨h00, h01⟩ := HIN.out _ hm
      obtain ⟨x, hx⟩ : ∃ x : Nat, cols.getD k 0 = (x : Int) := ⟨(cols.getD k 0).toNat, by omega⟩
      have HS := Hid.mk (plk_succ (C := cn) HND.out (by have := HCL.out; omega) x hx)
      rw [hx] at hcx h01
      have hxc : x < cn := by omega
      obtain ⟨u, hu'⟩ : ∃ u, ((plk cn cols k).map (Value.int .i64))[x]? = some u := ⟨_, List.getElem?_eq_getElem (by rw [List.length_map, plk_len]; exact hxc)⟩
      have hco : wr.cell? ⟨W.heap.size, x, none⟩ = some u := (hown.cellAt x (by omega)).trans hu'
      have hfo : wr.frozen? ⟨W.heap.size, x, none⟩ = false := hown.frozenAt x
      have hst := hown.stored x (.int .i64 (k : Nat))
      have HO : Hid ((wr.setCell ⟨W.heap.size, x, none⟩ (.int .i64 (k : Nat))).ownsRow W.heap.size 3 1 (.slice (some ⟨W.heap.size, 0, none⟩) cn cn) cn ((plk cn cols (k + 1)).map (.int .i64))) := by
        show World.ownsRow _ _ _ _ _ _ _
        rw [HS.out, List.map_set]; exact hst.1
      have HB : Hid (Below W.heap.size W (wr.setCell ⟨W.heap.size, x, none⟩ (.int .i64 (k : Nat)))) := hbw.setCell (Nat.le_refl _) _
      have hki : (k : Int) < (cn : Int) := by omega
      have hx0 : (0 : Int) ≤ (x : Int) := by omega
      clear hst hu' hown hbw HS hc hm h00 hx
      go_wp2
      go_roundw
      case rel => exact ⟨k + 1, by omega, by go_num, HO.out, HB.out⟩
      case measure => simp [intOf]; omega
    · obtain rfl : k = cn := by omega
      have hkk : ¬ (k : Int) < (k : Int) := by omega
      rw [plk_all HALL.out (by have := HCL.out; omega)] at hown
      have f0 := frozen_later hbw e0 f0
      have f1 := frozen_later hbw e1 f1
      have e0 := cell_later hbw e0
      have e1 := cell_later hbw e1
      have u1 := cell_later hbw u1
      have u2 := cell_later hbw u2
      have K := Hid.mk (implProjectTable a (some ⟨W.heap.size, 0, none⟩) n k c k ts p (plc k cols) wr HZ.out (by simp [plc]) hn (by omega) (HA.out.below hbw) (At.owned hown))
      have HBW : Hid (Below w.heap.size w wr) := HB0.out.trans (hbw.mono HB0.out.size)
      clear hown hbw HB0
      go_wp2_with fail
      refine K.out.mono ?_
      rintro e w3 ⟨⟨r, m, d, cells, rfl, ho⟩, hb3⟩
      have f0 := frozen_later hb3 e0 f0
      have f1 := frozen_later hb3 e1 f1
      have e0 := cell_later hb3 e0
      have e1 := cell_later hb3 e1
      have HO3 := Hid.mk ho
      have HB3 := Hid.mk hb3
      have z3 := hb3.size
      obtain ⟨P1, hP1⟩ : ∃ P1, ansP (projB p ts (plc k cols)) (((plc k cols).length : Nat) : Int) = P1 := ⟨_, rfl⟩
      obtain ⟨ok, hok⟩ : ∃ ok, projB p ts (plc k cols) = ok := ⟨_, rfl⟩
      have HP1 := Hid.mk hP1
      have HOK := Hid.mk hok
      rw [hP1, hok]
      clear K ho hb3 hP1 hok
      go_wp2
      have hof : Off (From (w.heap.size + 1) (w.heap.size + 1 + 1)) w3 ((w3.setCell ⟨w.heap.size + 1, 0, none⟩ (.int .i64 P1)).setCell ⟨w.heap.size + 1, 1, none⟩ (.slice r m d)) :=
        (Off.set (by exact ⟨Nat.le_refl _, Nat.lt_succ_self _⟩) _).trans (Off.set (by exact ⟨Nat.le_refl _, Nat.lt_succ_self _⟩) _)
      refine bodyPost_ret (v := .tuple #[.agg #[.int .i64 P1, .slice r m d], .bool ok]) (by simp [results, Tryz.results31, go_sem, e0, e1]) rfl ⟨?_, ?_⟩
      · rw [HOK.out]
        rw [HOK.out] at HP1 HO3
        refine ⟨r, m, d, cells, by rw [HP1.out], ?_⟩
        have h9 := HO3.out.apartW hof.apart (.inr (by omega))
        exact h9.widen (by have := HBW.out.size; omega) (by simp) (Nat.le_refl _)
      · exact (HBW.out.trans (HB3.out.mono (by have := HBW.out.size; omega))).trans (hof.toBelow (by omega) (by have := HBW.out.size; omega))

end Go.Proofs.YtpnaoahlfhbbmaaGreat
