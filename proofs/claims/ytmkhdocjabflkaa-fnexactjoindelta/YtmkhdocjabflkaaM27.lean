/- Contracts of impl.DistinctDelta and spec.DistinctDelta. -/
import Derived.Test.YtmkhdocjabflkaaM22
import Derived.Test.YtmkhdocjabflkaaM26
namespace Go.Proofs.Ytmkhdocjabflkaa
open Go.RowKit Go.Maps

theorem ddB_no {p : Int} {ts : List WRow} {p' : Int} {us : List WRow} (h : addB p ts p' us = false) : ddB p ts p' us = false := by
  unfold addB at h
  unfold ddB
  cases ha : alike p ts p' us with
  | false => rfl
  | true => rw [ha] at h; simp at h; simp [h]
theorem ddB_yes {p : Int} {ts : List WRow} {p' : Int} {us : List WRow} (h : addB p ts p' us = true) : ddB p ts p' us = goodT p (ddW ts us) := by
  unfold addB at h
  unfold ddB
  simp only [Bool.and_eq_true] at h
  simp [h.1, h.2]
theorem ddB_goodT {p : Int} {ts : List WRow} {p' : Int} {us : List WRow} (h : ddB p ts p' us = true) : goodT p (ddW ts us) = true := by
  simp only [ddB, Bool.and_eq_true] at h
  exact h.2.2
theorem addB_parts {p : Int} {ts : List WRow} {p' : Int} {us : List WRow} (h : addB p ts p' us = true) : goodT p ts = true ∧ goodT p' us = true ∧ p = p' ∧ goodT p (putAll ts us) = true := by
  unfold addB at h
  simp only [Bool.and_eq_true] at h
  have := alike_parts h.1
  exact ⟨this.1, this.2.1, this.2.2, h.2⟩
/-- A map that tells a list, told as a table. -/
theorem cnt_table (b q M : Nat) (xs : List WRow) (w : World) (hx : Cnt w b q M xs) (hM : M ≤ 1000000) (h6 : q ≤ 6) :
    Calls Try.prog 49 #[.map (some b), .int .i64 q] w fun e w' => TabRet e w' w.heap.size (goodT q xs) (tellP q xs) (tellT q xs) ∧ Below w.heap.size w w' := by
  obtain ⟨cnt, D, f, S, hown, hm, hS, hT, hcM⟩ := hx
  refine (table_any b cnt D f S q w (by omega) h6 hown hm hS).mono ?_
  rintro e w' ⟨us, h1, h2, h3⟩
  rw [← h2.unique hT]
  exact ⟨h1, h3⟩

set_option maxRecDepth 100000 in
set_option maxHeartbeats 4000000 in
theorem implDistinctDelta (a a' : Option Addr) (n n' c c' : Nat) (ts ts' : List WRow) (p p' : Int) (w : World) (hz : ts.length = n) (hz' : ts'.length = n') (hn : n ≤ 1048576) (hn' : n' ≤ 1048576) (ha : AtM w a ts) (ha' : AtM w a' ts') :
    Calls Try.prog 16 #[.agg #[.int .i64 p, .slice a n c], .agg #[.int .i64 p', .slice a' n' c']] w fun e w' => TabAns e w' w.heap.size (ddB p ts p' ts') p (ddW ts ts') ∧ Below w.heap.size w w' := by
  obtain ⟨W, hW⟩ : ∃ W, W = ((w.alloc (.cells #[.int .i64 p, .slice a n c] 25)).alloc (.cells #[.int .i64 p', .slice a' n' c'] 25)).alloc (.cells #[.int .i64 0, .slice none 0 0] 25) := ⟨_, rfl⟩
  have zW : W.heap.size = w.heap.size + 1 + 1 + 1 := by rw [hW]; simp
  have B0 : Below w.heap.size w W := by rw [hW]; exact (((Below.refl _ _).alloc (Nat.le_refl _) _).alloc (by simp) _).alloc (by simp; omega) _
  have c0 : W.cell? ⟨w.heap.size, 0, none⟩ = some (.int .i64 p) := by rw [hW]; exact alloc_keeps (alloc_keeps (pair0 w _ _ _) _) _
  have c1 : W.cell? ⟨w.heap.size, 1, none⟩ = some (.slice a n c) := by rw [hW]; exact alloc_keeps (alloc_keeps (pair1 w _ _ _) _) _
  have b1 : W.cell? ⟨w.heap.size + 1, 1, none⟩ = some (.slice a' n' c') := by rw [hW]; refine alloc_keeps ?_ _; have := pair1 (w.alloc (.cells #[.int .i64 p, .slice a n c] 25)) (.int .i64 p') (.slice a' n' c') 25; rwa [World.size_alloc] at this
  have b0 : W.cell? ⟨w.heap.size + 1, 0, none⟩ = some (.int .i64 p') := by rw [hW]; refine alloc_keeps ?_ _; have := pair0 (w.alloc (.cells #[.int .i64 p, .slice a n c] 25)) (.int .i64 p') (.slice a' n' c') 25; rwa [World.size_alloc] at this
  have q0 : W.heap[w.heap.size + 1 + 1]? = some (.cells #[.int .i64 0, .slice none 0 0] 25 (0, 0)) := by
    rw [hW]
    have := heap_alloc_new ((w.alloc (.cells #[.int .i64 p, .slice a n c] 25)).alloc (.cells #[.int .i64 p', .slice a' n' c'] 25)) (.cells #[.int .i64 0, .slice none 0 0] 25)
    rwa [World.size_alloc, World.size_alloc] at this
  have e0 : W.cell? ⟨w.heap.size + 1 + 1, 0, none⟩ = some (.int .i64 0) := by rw [cell_of_row _ _ 0 _ _ (0, 0) q0]; rfl
  have e1 : W.cell? ⟨w.heap.size + 1 + 1, 1, none⟩ = some (.slice none 0 0) := by rw [cell_of_row _ _ 1 _ _ (0, 0) q0]; rfl
  have f0 : W.frozen? ⟨w.heap.size + 1 + 1, 0, none⟩ = false := frozen_of_row _ _ 0 _ _ q0
  have f1 : W.frozen? ⟨w.heap.size + 1 + 1, 1, none⟩ = false := frozen_of_row _ _ 1 _ _ q0
  have HA := ha.below B0
  have HA' := ha'.below B0
  clear ha ha' q0
  cases hg : addB p ts p' ts' with
  | false =>
    have HG := Hid.mk hg
    clear hg
    go_enter Try.func16, Try.ntmps16
    go_wp2_with fail
    rw [← hW]
    clear hW
    refine (implAddTables _ _ _ _ _ _ ts ts' _ _ _ hz hz' hn hn' HA.atW HA'.atW).mono ?_
    rintro e w1 ⟨⟨r1, m1, d1, cells1, rfl, ho1⟩, hb1⟩
    rw [HG.out]
    have B1 := B0.trans (hb1.mono B0.size)
    clear ho1 cells1
    obtain ⟨V, hV⟩ : ∃ V, V = w1.alloc (.cells #[.int .i64 (ansP false p), .slice r1 m1 d1] 25) := ⟨_, rfl⟩
    have hbV : Below w1.heap.size w1 V := by rw [hV]; exact (Below.refl _ _).alloc (Nat.le_refl _) _
    have B2 := B1.trans (hbV.mono B1.size)
    have f0 := frozen_later hb1 e0 f0
    have f1 := frozen_later hb1 e1 f1
    have e0 := cell_later hb1 e0
    have e1 := cell_later hb1 e1
    have c0 := cell_later hb1 c0
    have c1 := cell_later hb1 c1
    have b0 := cell_later hb1 b0
    have b1 := cell_later hb1 b1
    have f0 := frozen_later hbV e0 f0
    have f1 := frozen_later hbV e1 f1
    have e0 := cell_later hbV e0
    have e1 := cell_later hbV e1
    rw [hV] at e0 e1 f0 f1 B2
    clear hV hbV
    go_wp2
    refine bodyPost_ret (v := .tuple #[.agg #[.int .i64 0, .slice none 0 0], .bool false]) (by simp [results, Try.results16, go_sem, e0, e1]) rfl ⟨TabAns.zero (ddB_no HG.out) rfl, ?_⟩
    exact (B2.setCell (by show w.heap.size ≤ w.heap.size + 1 + 1; omega) _).setCell (by show w.heap.size ≤ w.heap.size + 1 + 1; omega) _
  | true =>
    have HG := Hid.mk hg
    obtain ⟨gt, gu, hpp, _⟩ := addB_parts hg
    subst hpp
    obtain ⟨q, hq⟩ : ∃ q : Nat, p = q := ⟨p.toNat, by have := inc_range (goodT_parts gt).1; omega⟩
    subst hq
    have h6 : q ≤ 6 := by have := inc_range (goodT_parts gt).1; omega
    have GT := Hid.mk gt
    have GU := Hid.mk gu
    clear hg gt gu
    go_enter Try.func16, Try.ntmps16
    go_wp2_with fail
    rw [← hW]
    clear hW
    refine (implAddTables _ _ _ _ _ _ ts ts' _ _ _ hz hz' hn hn' HA.atW HA'.atW).mono ?_
    rintro e w1 ⟨⟨r1, m1, d1, cells1, rfl, ho1⟩, hb1⟩
    rw [HG.out]
    have B1 := B0.trans (hb1.mono B0.size)
    clear ho1 cells1
    obtain ⟨V, hV⟩ : ∃ V, V = w1.alloc (.cells #[.int .i64 (ansP true q), .slice r1 m1 d1] 25) := ⟨_, rfl⟩
    have hbV : Below w1.heap.size w1 V := by rw [hV]; exact (Below.refl _ _).alloc (Nat.le_refl _) _
    have B2 := B1.trans (hbV.mono B1.size)
    have f0 := frozen_later hb1 e0 f0
    have f1 := frozen_later hb1 e1 f1
    have e0 := cell_later hb1 e0
    have e1 := cell_later hb1 e1
    have c0 := cell_later hb1 c0
    have c1 := cell_later hb1 c1
    have b0 := cell_later hb1 b0
    have b1 := cell_later hb1 b1
    have HA2 := (HA.below hb1).below hbV
    have HA2' := (HA'.below hb1).below hbV
    have HNB : Hid (ddB q ts q ts' = goodT q (ddW ts ts')) := ddB_yes HG.out
    go_wp2_with fail
    rw [← hV]
    have f0 := frozen_later hbV e0 f0
    have f1 := frozen_later hbV e1 f1
    have e0 := cell_later hbV e0
    have e1 := cell_later hbV e1
    have c0 := cell_later hbV c0
    have c1 := cell_later hbV c1
    have b0 := cell_later hbV b0
    have b1 := cell_later hbV b1
    clear hV
    refine wp_region_held_drew (S := fun w' => w'.cell? ⟨w.heap.size, 0, none⟩ = some (.int .i64 q) ∧ w'.cell? ⟨w.heap.size, 1, none⟩ = some (.slice a n c) ∧ w'.cell? ⟨w.heap.size + 1, 0, none⟩ = some (.int .i64 q) ∧ w'.cell? ⟨w.heap.size + 1, 1, none⟩ = some (.slice a' n' c')) (by kernel_rfl) ?_ (fun hHeld => ?_)
    · (try dsimp only)
      exact ⟨c0, c1, b0, b1⟩
    refine wpAnyH_take (i := 0) (oi := ?_) (v := ?_) ?_ (by kernel_rfl) (by kernel_rfl) (by kernel_rfl) ?_ (Or.inl ⟨?_, ?_⟩) (by assumption) ?_
    rotate_left 2
    · (simp only [List.getElem?_toArray, List.getElem?_cons_zero]; rfl)
    · exact fun _ _ _ h => h
    · rfl
    · (intro wS hSw; (try dsimp only at hSw); go_simp; (try with_reducible rfl))
    (try simp only [Act.put, List.setIfInBounds_toArray, List.set_cons_zero, List.set_cons_succ])
    refine wpAnyH_take (i := 2) (oi := ?_) (v := ?_) ?_ (by kernel_rfl) (by kernel_rfl) (by kernel_rfl) ?_ (Or.inl ⟨?_, ?_⟩) (by assumption) ?_
    rotate_left 2
    · (simp only [List.getElem?_toArray, List.getElem?_cons_zero, List.getElem?_cons_succ]; rfl)
    · exact fun _ _ _ h => h
    · rfl
    · (intro wS hSw; (try dsimp only at hSw); go_simp; (try with_reducible rfl))
    (try simp only [Act.put, List.setIfInBounds_toArray, List.set_cons_zero, List.set_cons_succ])
    refine wpAnyH_take (i := 5) (oi := ?_) (v := ?_) ?_ (by kernel_rfl) (by kernel_rfl) (by kernel_rfl) ?_ (Or.inl ⟨?_, ?_⟩) (by assumption) ?_
    rotate_left 2
    · (simp only [List.getElem?_toArray, List.getElem?_cons_zero, List.getElem?_cons_succ]; rfl)
    · exact fun _ _ _ h => h
    · rfl
    · (intro wS hSw; (try dsimp only at hSw); go_simp; (try with_reducible rfl))
    (try simp only [Act.put, List.setIfInBounds_toArray, List.set_cons_zero, List.set_cons_succ])
    refine wpAnyH_take (i := 6) (oi := ?_) (v := ?_) ?_ (by kernel_rfl) (by kernel_rfl) (by kernel_rfl) ?_ (Or.inl ⟨?_, ?_⟩) (by assumption) ?_
    rotate_left 2
    · (simp only [List.getElem?_toArray, List.getElem?_cons_zero, List.getElem?_cons_succ]; rfl)
    · exact fun _ _ _ h => h
    · rfl
    · (intro wS hSw; (try dsimp only at hSw); go_simp; (try with_reducible rfl))
    (try simp only [Act.put, List.setIfInBounds_toArray, List.set_cons_zero, List.set_cons_succ])
    refine wpAnyH_ready (rs := [1]) (by kernel_rfl) (by simp) ?_
    refine AllReadyH.cons (o := ?_) ?_ (fun K hK => ?_) AllReadyH.nil
    rotate_left
    · (simp only [List.getElem?_toArray, List.getElem?_cons_zero, List.getElem?_cons_succ]; rfl)
    go_simp
    go_at_call 48; refine (countsOf_any _ _ _ q ts _ _ hz GT.out HA2.drew.atW).mono ?_; rintro e w3 ⟨k3, rfl, hk3, hc3, hb3⟩; have f0 := frozen_later (w := V.drew) hb3 e0 f0; have f1 := frozen_later (w := V.drew) hb3 e1 f1; have e0 := cell_later hb3 e0; have e1 := cell_later hb3 e1; have c0 := cell_later hb3 c0; have c1 := cell_later hb3 c1; have b0 := cell_later hb3 b0; have b1 := cell_later hb3 b1; have HA3 := HA2'.drew.below hb3; have B3 := B2.drew.trans (hb3.mono B2.size)
    (try go_wp2_with fail)
    refine hK.out _ _ ?_ (fun hHeld' => ?_)
    · (try dsimp only)
      exact ⟨c0, c1, b0, b1⟩
    clear hK K hHeld
    have hHeld := hHeld'
    clear hHeld'
    (try simp only [Act.put, List.setIfInBounds_toArray, List.set_cons_zero, List.set_cons_succ])
    refine wpAnyH_ready (rs := [3]) (by kernel_rfl) (by simp) ?_
    refine AllReadyH.cons (o := ?_) ?_ (fun K hK => ?_) AllReadyH.nil
    rotate_left
    · (simp only [List.getElem?_toArray, List.getElem?_cons_zero, List.getElem?_cons_succ]; rfl)
    go_simp
    go_at_call 48; refine (countsOf_any _ _ _ q ts' _ _ hz' GU.out HA3.atW).mono ?_; rintro e w4 ⟨k4, rfl, hk4, hc4, hb4⟩; have f0 := frozen_later hb4 e0 f0; have f1 := frozen_later hb4 e1 f1; have e0 := cell_later hb4 e0; have e1 := cell_later hb4 e1; have c0 := cell_later hb4 c0; have c1 := cell_later hb4 c1; have b0 := cell_later hb4 b0; have b1 := cell_later hb4 b1; have hc3 := hc3.below hb4; have B4 := B3.trans (hb4.mono B3.size)
    (try go_wp2_with fail)
    refine hK.out _ _ ?_ (fun hHeld' => ?_)
    · (try dsimp only)
      exact ⟨c0, c1, b0, b1⟩
    clear hK K hHeld
    have hHeld := hHeld'
    clear hHeld'
    (try simp only [Act.put, List.setIfInBounds_toArray, List.set_cons_zero, List.set_cons_succ])
    refine wpAnyH_ready (rs := [4]) (by kernel_rfl) (by simp) ?_
    refine AllReadyH.cons (o := ?_) ?_ (fun K hK => ?_) AllReadyH.nil
    rotate_left
    · (simp only [List.getElem?_toArray, List.getElem?_cons_zero, List.getElem?_cons_succ]; rfl)
    go_simp
    go_at_call 65; refine (distinctDelta_any _ _ q _ _ ts ts' 1000000 1000000 _ hc3 hc4 (by omega) (by omega) (by omega) (by omega) (goodT_lst GT.out).within (goodT_lst GU.out).within).mono ?_; rintro e w5 ⟨k5, rfl, hk5, hc5, hb5⟩; have f0 := frozen_later hb5 e0 f0; have f1 := frozen_later hb5 e1 f1; have e0 := cell_later hb5 e0; have e1 := cell_later hb5 e1; have c0 := cell_later hb5 c0; have c1 := cell_later hb5 c1; have b0 := cell_later hb5 b0; have b1 := cell_later hb5 b1; have B5 := B4.trans (hb5.mono B4.size)
    (try go_wp2_with fail)
    refine hK.out _ _ ?_ (fun hHeld' => ?_)
    · (try dsimp only)
      exact ⟨c0, c1, b0, b1⟩
    clear hK K hHeld
    have hHeld := hHeld'
    clear hHeld'
    (try simp only [Act.put, List.setIfInBounds_toArray, List.set_cons_zero, List.set_cons_succ])
    refine wpAnyH_ready (rs := [7]) (by kernel_rfl) (by simp) ?_
    refine AllReadyH.cons (o := ?_) ?_ (fun K hK => ?_) AllReadyH.nil
    rotate_left
    · (simp only [List.getElem?_toArray, List.getElem?_cons_zero, List.getElem?_cons_succ]; rfl)
    go_simp
    go_at_call 49; refine (cnt_table _ q _ (ddW ts ts') _ hc5 (by omega) h6).mono ?_; rintro e w6 ⟨⟨r6, m6, d6, cells6, rfl, ho6⟩, hb6⟩; have t0 := frozen_later hb6 e0 f0; have t1 := frozen_later hb6 e1 f1; have s0 := cell_later hb6 e0; have s1 := cell_later hb6 e1; have i0 := cell_later hb6 c0; have i1 := cell_later hb6 c1; have j0 := cell_later hb6 b0; have j1 := cell_later hb6 b1
    (try go_wp2_with fail)
    refine hK.out _ _ ?_ (fun hHeld' => ?_)
    · (try dsimp only)
      exact ⟨i0, i1, j0, j1⟩
    clear hK K hHeld
    have hHeld := hHeld'
    clear hHeld'
    (try simp only [Act.put, List.setIfInBounds_toArray, List.set_cons_zero, List.set_cons_succ])
    refine wpAnyH_take (i := 8) (oi := ?_) (v := ?_) ?_ (by kernel_rfl) (by kernel_rfl) (by kernel_rfl) ?_ (Or.inl ⟨?_, ?_⟩) (by assumption) ?_
    rotate_left 2
    · (simp only [List.getElem?_toArray, List.getElem?_cons_zero, List.getElem?_cons_succ]; rfl)
    · exact fun _ _ _ h => h
    · rfl
    · (intro wS hSw; (try dsimp only at hSw); go_simp; (try with_reducible rfl))
    (try simp only [Act.put, List.setIfInBounds_toArray, List.set_cons_zero, List.set_cons_succ])
    refine wpAnyH_take (i := 9) (oi := ?_) (v := ?_) ?_ (by kernel_rfl) (by kernel_rfl) (by kernel_rfl) ?_ (Or.inl ⟨?_, ?_⟩) (by assumption) ?_
    rotate_left 2
    · (simp only [List.getElem?_toArray, List.getElem?_cons_zero, List.getElem?_cons_succ]; rfl)
    · exact fun _ _ _ h => h
    · rfl
    · (intro wS hSw; (try dsimp only at hSw); go_simp; (try with_reducible rfl))
    (try simp only [Act.put, List.setIfInBounds_toArray, List.set_cons_zero, List.set_cons_succ])
    refine wpAnyH_ready (rs := [10]) (by kernel_rfl) (by simp) ?_
    refine AllReadyH.cons (o := ?_) ?_ (fun K hK => ?_) AllReadyH.nil
    rotate_left
    · (simp only [List.getElem?_toArray, List.getElem?_cons_zero, List.getElem?_cons_succ]; rfl)
    go_simp
    skip
    (try go_wp2_with fail)
    refine hK.out _ _ ?_ (fun hHeld' => ?_)
    · (try dsimp only)
      exact ⟨keep_far (keep_far i0 (by omega)) (by omega), keep_far (keep_far i1 (by omega)) (by omega), keep_far (keep_far j0 (by omega)) (by omega), keep_far (keep_far j1 (by omega)) (by omega)⟩
    clear hK K hHeld
    have hHeld := hHeld'
    clear hHeld'
    (try simp only [Act.put, List.setIfInBounds_toArray, List.set_cons_zero, List.set_cons_succ])
    refine wpAnyH_take (i := 11) (oi := ?_) (v := ?_) ?_ (by kernel_rfl) (by kernel_rfl) (by kernel_rfl) ?_ (Or.inl ⟨?_, ?_⟩) (by assumption) ?_
    rotate_left 2
    · (simp only [List.getElem?_toArray, List.getElem?_cons_zero, List.getElem?_cons_succ]; rfl)
    · exact fun _ _ _ h => h
    · rfl
    · (intro wS hSw; (try dsimp only at hSw); go_simp; (try with_reducible rfl))
    (try simp only [Act.put, List.setIfInBounds_toArray, List.set_cons_zero, List.set_cons_succ])
    refine wpAnyH_done (by kernel_rfl) ?_ _
    have B6 := B5.trans (hb6.mono B5.size)
    have zR : w.heap.size + 1 + 1 < w5.heap.size := World.block_lt_of_cell? _ _ (by assumption : w5.cell? ⟨w.heap.size + 1 + 1, 0, none⟩ = _)
    have e0 := s0
    have e1 := s1
    clear HA HA' HA2 HA2' HA3 hb1 hbV hb3 hb4 hb5 hb6 hHeld hc3 hc4 hc5
    go_wp2
    refine bodyPost_ret (v := .tuple #[.agg #[.int .i64 _, .slice r6 m6 d6], .bool _]) (by simp [results, Try.results16, go_sem, e0, e1]) rfl ⟨TabAns.tell HNB.out ⟨r6, m6, d6, cells6, rfl, ho6.stored zR (by omega) _ _⟩, ?_⟩
    exact (B6.setCell (by show w.heap.size ≤ w.heap.size + 1 + 1; omega) _).setCell (by show w.heap.size ≤ w.heap.size + 1 + 1; omega) _
end Go.Proofs.Ytmkhdocjabflkaa
