/- Contracts of spec.ScaleTable, spec.NegateTable, spec.EmptyTable, spec.NewTable. -/
import Derived.Test.YtogokgegkakmbaaSpecT
namespace Go.Proofs.Ytogokgegkakmbaa
open Go.RowKit

theorem scaleW_le (ts : List WRow) (t : Int) : (scaleW ts t).length ≤ ts.length := by
  unfold scaleW
  split
  · simp
  · simp
theorem scaleW_six {ts : List WRow} (h : ∀ s ∈ ts, s.1.length ≤ 6) (t : Int) (k : Nat) (hk : k < (scaleW ts t).length) : (wat (scaleW ts t) k).1.length ≤ 6 := by
  refine at_of_mem (Q := fun s => s.1.length ≤ 6) (fun s hs => ?_) k hk
  unfold scaleW at hs
  split at hs
  · cases hs
  · obtain ⟨u, hu, rfl⟩ := List.mem_map.1 hs
    exact h u hu

set_option maxRecDepth 100000 in
set_option maxHeartbeats 4000000 in
theorem specScaleTable (a : Option Addr) (n c : Nat) (ts : List WRow) (p : Int) (t : Int) (w : World) (hz : ts.length = n) (hn : n ≤ 1048576) (ha : AtM w a ts) :
    Calls Try.prog 23 #[.agg #[.int .i64 p, .slice a n c], .int .i64 t] w fun e w' => TabAns e w' w.heap.size (scaleB p ts t) p (scaleW ts t) ∧ Below w.heap.size w w' := by
  obtain ⟨W, hW⟩ : ∃ W, W = (w.alloc (.cells #[.int .i64 p, .slice a n c] 26)).alloc (.cells #[.int .i64 0, .slice none 0 0] 26) := ⟨_, rfl⟩
  have zW : W.heap.size = w.heap.size + 1 + 1 := by rw [hW]; simp
  have B0 : Below w.heap.size w W := by rw [hW]; exact ((Below.refl _ _).alloc (Nat.le_refl _) _).alloc (by simp) _
  have c0 : W.cell? ⟨w.heap.size, 0, none⟩ = some (.int .i64 p) := by rw [hW]; exact alloc_keeps (pair0 w _ _ _) _
  have c1 : W.cell? ⟨w.heap.size, 1, none⟩ = some (.slice a n c) := by rw [hW]; exact alloc_keeps (pair1 w _ _ _) _
  have q0 : W.heap[w.heap.size + 1]? = some (.cells #[.int .i64 0, .slice none 0 0] 26 (0, 0)) := by
    rw [hW]
    have := heap_alloc_new (w.alloc (.cells #[.int .i64 p, .slice a n c] 26)) (.cells #[.int .i64 0, .slice none 0 0] 26)
    rwa [World.size_alloc] at this
  have e0 : W.cell? ⟨w.heap.size + 1, 0, none⟩ = some (.int .i64 0) := by rw [cell_of_row _ _ 0 _ _ (0, 0) q0]; rfl
  have e1 : W.cell? ⟨w.heap.size + 1, 1, none⟩ = some (.slice none 0 0) := by rw [cell_of_row _ _ 1 _ _ (0, 0) q0]; rfl
  have f0 : W.frozen? ⟨w.heap.size + 1, 0, none⟩ = false := frozen_of_row _ _ 0 _ _ q0
  have f1 : W.frozen? ⟨w.heap.size + 1, 1, none⟩ = false := frozen_of_row _ _ 1 _ _ q0
  have HA := ha.below B0
  clear ha q0
  cases hg : goodT p ts with
  | false =>
    have HG := Hid.mk hg
    clear hg
    go_enter Try.func23, Try.ntmps23
    go_wp2_with fail
    rw [← hW]
    clear hW
    refine (specGoodTable_any _ _ _ ts _ _ hz hn HA.atW).mono ?_
    rintro e w1 ⟨rfl, hb1⟩
    rw [HG.out]
    have B1 := B0.trans (hb1.mono B0.size)
    have f0 := frozen_later hb1 e0 f0
    have f1 := frozen_later hb1 e1 f1
    have e0 := cell_later hb1 e0
    have e1 := cell_later hb1 e1
    have c0 := cell_later hb1 c0
    have c1 := cell_later hb1 c1
    go_wp2
    refine bodyPost_ret (v := .tuple #[.agg #[.int .i64 0, .slice none 0 0], .bool false]) (by simp [results, Try.results23, go_sem, e0, e1]) rfl ⟨TabAns.zero (scaleB_no HG.out) rfl, ?_⟩
    exact (B1.setCell (by show w.heap.size ≤ w.heap.size + 1; omega) _).setCell (by show w.heap.size ≤ w.heap.size + 1; omega) _
  | true =>
    have HG := Hid.mk hg
    clear hg
    cases hi : inS t with
    | false =>
      have HI := Hid.mk hi
      clear hi
      go_enter Try.func23, Try.ntmps23
      go_wp2_with fail
      rw [← hW]
      clear hW
      refine (specGoodTable_any _ _ _ ts _ _ hz hn HA.atW).mono ?_
      rintro e w1 ⟨rfl, hb1⟩
      rw [HG.out]
      have B1 := B0.trans (hb1.mono B0.size)
      have f0 := frozen_later hb1 e0 f0
      have f1 := frozen_later hb1 e1 f1
      have e0 := cell_later hb1 e0
      have e1 := cell_later hb1 e1
      have c0 := cell_later hb1 c0
      have c1 := cell_later hb1 c1
      go_wp2_with (go_at_call 28; refine (l1In_any _ _ _ _).mono ?_; rintro e w2 ⟨rfl, rfl⟩; rw [show (decide ((-1000 : Int) ≤ t) && decide (t ≤ 1000)) = false from HI.out])
      refine bodyPost_ret (v := .tuple #[.agg #[.int .i64 0, .slice none 0 0], .bool false]) (by simp [results, Try.results23, go_sem, e0, e1]) rfl ⟨TabAns.zero (scaleB_out HI.out) rfl, ?_⟩
      exact (B1.setCell (by show w.heap.size ≤ w.heap.size + 1; omega) _).setCell (by show w.heap.size ≤ w.heap.size + 1; omega) _
    | true =>
      have HI := Hid.mk hi
      obtain ⟨h1, h2⟩ := inS_range hi
      clear hi
      go_enter Try.func23, Try.ntmps23
      go_wp2_with fail
      rw [← hW]
      clear hW
      refine (specGoodTable_any _ _ _ ts _ _ hz hn HA.atW).mono ?_
      rintro e w1 ⟨rfl, hb1⟩
      rw [HG.out]
      have B1 := B0.trans (hb1.mono B0.size)
      have f0 := frozen_later hb1 e0 f0
      have f1 := frozen_later hb1 e1 f1
      have e0 := cell_later hb1 e0
      have e1 := cell_later hb1 e1
      have c0 := cell_later hb1 c0
      have c1 := cell_later hb1 c1
      have n60 := goodT_len60 HG.out
      have HA2 := HA.below hb1
      have HNB : Hid (scaleB p ts t = goodT p (scaleW ts t)) := scaleB_yes HG.out HI.out
      go_wp2_with (go_at_call 28; refine (l1In_any _ _ _ _).mono ?_; rintro e w2 ⟨rfl, rfl⟩; rw [show (decide ((-1000 : Int) ≤ t) && decide (t ≤ 1000)) = true from HI.out])
      refine wp_region_held_drew (S := fun w' => w'.cell? ⟨w.heap.size, 0, none⟩ = some (.int .i64 p) ∧ w'.cell? ⟨w.heap.size, 1, none⟩ = some (.slice a n c)) (by kernel_rfl) ?_ (fun hHeld => ?_)
      · (try dsimp only)
        exact ⟨c0, c1⟩
      refine wpAnyH_take (i := 0) (oi := ?_) (v := ?_) ?_ (by kernel_rfl) (by kernel_rfl) (by kernel_rfl) ?_ (Or.inl ⟨?_, ?_⟩) (by assumption) ?_
      rotate_left 2
      · (simp only [List.getElem?_toArray, List.getElem?_cons_zero]; rfl)
      · exact fun _ _ _ h => h
      · rfl
      · (intro wS hSw; (try dsimp only at hSw); go_simp; (try with_reducible rfl))
      (try simp only [Act.put, List.setIfInBounds_toArray, List.set_cons_zero, List.set_cons_succ])
      refine wpAnyH_take (i := 1) (oi := ?_) (v := ?_) ?_ (by kernel_rfl) (by kernel_rfl) (by kernel_rfl) ?_ (Or.inl ⟨?_, ?_⟩) (by assumption) ?_
      rotate_left 2
      · (simp only [List.getElem?_toArray, List.getElem?_cons_zero, List.getElem?_cons_succ]; rfl)
      · exact fun _ _ _ h => h
      · rfl
      · (intro wS hSw; (try dsimp only at hSw); go_simp; (try with_reducible rfl))
      (try simp only [Act.put, List.setIfInBounds_toArray, List.set_cons_zero, List.set_cons_succ])
      refine wpAnyH_take (i := 2) (oi := ?_) (v := ?_) ?_ (by kernel_rfl) (by kernel_rfl) (by kernel_rfl) ?_ (Or.inl ⟨?_, ?_⟩) (by assumption) ?_
      rotate_left 2
      · (simp only [List.getElem?_toArray, List.getElem?_cons_zero, List.getElem?_cons_succ]; rfl)
      · exact fun _ _ _ h => h
      · rfl
      · (intro wS hSw; (try dsimp only at hSw); go_simp; (try with_reducible rfl))
      (try simp only [Act.put, List.setIfInBounds_toArray, List.set_cons_zero, List.set_cons_succ])
      refine wpAnyH_take (i := 3) (oi := ?_) (v := ?_) ?_ (by kernel_rfl) (by kernel_rfl) (by kernel_rfl) ?_ (Or.inl ⟨?_, ?_⟩) (by assumption) ?_
      rotate_left 2
      · (simp only [List.getElem?_toArray, List.getElem?_cons_zero, List.getElem?_cons_succ]; rfl)
      · exact fun _ _ _ h => h
      · rfl
      · (intro wS hSw; (try dsimp only at hSw); go_simp; (try with_reducible rfl))
      (try simp only [Act.put, List.setIfInBounds_toArray, List.set_cons_zero, List.set_cons_succ])
      refine wpAnyH_take (i := 4) (oi := ?_) (v := ?_) ?_ (by kernel_rfl) (by kernel_rfl) (by kernel_rfl) ?_ (Or.inl ⟨?_, ?_⟩) (by assumption) ?_
      rotate_left 2
      · (simp only [List.getElem?_toArray, List.getElem?_cons_zero, List.getElem?_cons_succ]; rfl)
      · exact fun _ _ _ h => h
      · rfl
      · (intro wS hSw; (try dsimp only at hSw); go_simp; (try with_reducible rfl))
      (try simp only [Act.put, List.setIfInBounds_toArray, List.set_cons_zero, List.set_cons_succ])
      refine wpAnyH_ready (rs := [5]) (by kernel_rfl) (by simp) ?_
      refine AllReadyH.cons (o := ?_) ?_ (fun K hK => ?_) AllReadyH.nil
      rotate_left
      · (simp only [List.getElem?_toArray, List.getElem?_cons_zero, List.getElem?_cons_succ]; rfl)
      go_simp
      go_at_call 45; refine (l2Scale_any _ _ _ ts _ _ hz (by omega) h1 h2 (goodT_six HG.out) HA2.drew).mono ?_; rintro e w3 ⟨r3, m3, d3, rfl, hm3, ha3, hb3⟩; have c0 := cell_later hb3 c0; have c1 := cell_later hb3 c1; have f0 := frozen_later (w := w2.drew) hb3 e0 f0; have f1 := frozen_later (w := w2.drew) hb3 e1 f1; have e0 := cell_later hb3 e0; have e1 := cell_later hb3 e1
      (try go_wp2_with fail)
      refine hK.out _ _ ?_ (fun hHeld' => ?_)
      · (try dsimp only)
        exact ⟨c0, c1⟩
      clear hK K hHeld
      have hHeld := hHeld'
      clear hHeld'
      (try simp only [Act.put, List.setIfInBounds_toArray, List.set_cons_zero, List.set_cons_succ])
      refine wpAnyH_ready (rs := [6]) (by kernel_rfl) (by simp) ?_
      refine AllReadyH.cons (o := ?_) ?_ (fun K hK => ?_) AllReadyH.nil
      rotate_left
      · (simp only [List.getElem?_toArray, List.getElem?_cons_zero, List.getElem?_cons_succ]; rfl)
      go_simp
      go_at_call 32; have HPL : Hid (m3 ≤ 8192) := (by show _ ≤ _; have := scaleW_le ts t; omega); have HPR : Hid (∀ k, k < m3 → (wat (scaleW ts t) k).1.length ≤ 1048576) := (fun k hk => by have := scaleW_six (fun s hs => (goodT_six HG.out s hs).1) t k (by omega); omega); refine (l2Tell_any _ _ _ (scaleW ts t) _ _ hm3 HPL.out HPR.out ha3).mono ?_; rintro e w4 ⟨⟨r4, m4, d4, cells4, rfl, ho4⟩, hb4⟩; have i0 := cell_later hb4 c0; have i1 := cell_later hb4 c1; have t0 := frozen_later hb4 e0 f0; have t1 := frozen_later hb4 e1 f1; have s0 := cell_later hb4 e0; have s1 := cell_later hb4 e1
      (try go_wp2_with fail)
      refine hK.out _ _ ?_ (fun hHeld' => ?_)
      · (try dsimp only)
        exact ⟨i0, i1⟩
      clear hK K hHeld
      have hHeld := hHeld'
      clear hHeld'
      (try simp only [Act.put, List.setIfInBounds_toArray, List.set_cons_zero, List.set_cons_succ])
      refine wpAnyH_take (i := 7) (oi := ?_) (v := ?_) ?_ (by kernel_rfl) (by kernel_rfl) (by kernel_rfl) ?_ (Or.inl ⟨?_, ?_⟩) (by assumption) ?_
      rotate_left 2
      · (simp only [List.getElem?_toArray, List.getElem?_cons_zero, List.getElem?_cons_succ]; rfl)
      · exact fun _ _ _ h => h
      · rfl
      · (intro wS hSw; (try dsimp only at hSw); go_simp; (try with_reducible rfl))
      (try simp only [Act.put, List.setIfInBounds_toArray, List.set_cons_zero, List.set_cons_succ])
      refine wpAnyH_take (i := 8) (oi := ?_) (v := ?_) ?_ (by kernel_rfl) (by kernel_rfl) (by kernel_rfl) ?_ (Or.inl ⟨?_, ?_⟩) (by assumption) ?_
      rotate_left 2
      · (simp only [List.getElem?_toArray, List.getElem?_cons_zero, List.getElem?_cons_succ]; rfl)
      · exact fun _ _ _ h => h
      · rfl
      · (intro wS hSw; (try dsimp only at hSw); go_simp; (try with_reducible rfl))
      (try simp only [Act.put, List.setIfInBounds_toArray, List.set_cons_zero, List.set_cons_succ])
      refine wpAnyH_ready (rs := [9]) (by kernel_rfl) (by simp) ?_
      refine AllReadyH.cons (o := ?_) ?_ (fun K hK => ?_) AllReadyH.nil
      rotate_left
      · (simp only [List.getElem?_toArray, List.getElem?_cons_zero, List.getElem?_cons_succ]; rfl)
      go_simp
      skip
      (try go_wp2_with fail)
      refine hK.out _ _ ?_ (fun hHeld' => ?_)
      · (try dsimp only)
        exact ⟨keep_far (keep_far i0 (by omega)) (by omega), keep_far (keep_far i1 (by omega)) (by omega)⟩
      clear hK K hHeld
      have hHeld := hHeld'
      clear hHeld'
      (try simp only [Act.put, List.setIfInBounds_toArray, List.set_cons_zero, List.set_cons_succ])
      refine wpAnyH_take (i := 10) (oi := ?_) (v := ?_) ?_ (by kernel_rfl) (by kernel_rfl) (by kernel_rfl) ?_ (Or.inl ⟨?_, ?_⟩) (by assumption) ?_
      rotate_left 2
      · (simp only [List.getElem?_toArray, List.getElem?_cons_zero, List.getElem?_cons_succ]; rfl)
      · exact fun _ _ _ h => h
      · rfl
      · (intro wS hSw; (try dsimp only at hSw); go_simp; (try with_reducible rfl))
      (try simp only [Act.put, List.setIfInBounds_toArray, List.set_cons_zero, List.set_cons_succ])
      refine wpAnyH_done (by kernel_rfl) ?_ _
      have B3 := B1.drew.trans (hb3.mono B1.size)
      have B4 := B3.trans (hb4.mono B3.size)
      have e0 := s0
      have e1 := s1
      have zR : w.heap.size + 1 < w3.heap.size := World.block_lt_of_cell? _ _ (by assumption : w3.cell? ⟨w.heap.size + 1, 0, none⟩ = _)
      clear HA HA2 hb1 hb3 hb4 hHeld ha3 hm3
      go_wp2
      refine bodyPost_ret (v := .tuple #[.agg #[.int .i64 _, .slice r4 m4 d4], .bool _]) (by simp [results, Try.results23, go_sem, e0, e1]) rfl ⟨TabAns.tell HNB.out ⟨r4, m4, d4, cells4, rfl, ho4.stored zR (by omega) _ _⟩, ?_⟩
      exact (B4.setCell (by show w.heap.size ≤ w.heap.size + 1; omega) _).setCell (by show w.heap.size ≤ w.heap.size + 1; omega) _

set_option maxRecDepth 100000 in
set_option maxHeartbeats 4000000 in
theorem specNegateTable (a : Option Addr) (n c : Nat) (ts : List WRow) (p : Int) (w : World) (hz : ts.length = n) (hn : n ≤ 1048576) (ha : AtM w a ts) :
    Calls Try.prog 21 #[.agg #[.int .i64 p, .slice a n c]] w fun e w' => TabAns e w' w.heap.size (scaleB p ts (-1)) p (scaleW ts (-1)) ∧ Below w.heap.size w w' := by
  obtain ⟨W, hW⟩ : ∃ W, W = (w.alloc (.cells #[.int .i64 p, .slice a n c] 26)).alloc (.cells #[.int .i64 0, .slice none 0 0] 26) := ⟨_, rfl⟩
  have zW : W.heap.size = w.heap.size + 1 + 1 := by rw [hW]; simp
  have B0 : Below w.heap.size w W := by rw [hW]; exact ((Below.refl _ _).alloc (Nat.le_refl _) _).alloc (by simp) _
  have c0 : W.cell? ⟨w.heap.size, 0, none⟩ = some (.int .i64 p) := by rw [hW]; exact alloc_keeps (pair0 w _ _ _) _
  have c1 : W.cell? ⟨w.heap.size, 1, none⟩ = some (.slice a n c) := by rw [hW]; exact alloc_keeps (pair1 w _ _ _) _
  have q0 : W.heap[w.heap.size + 1]? = some (.cells #[.int .i64 0, .slice none 0 0] 26 (0, 0)) := by
    rw [hW]
    have := heap_alloc_new (w.alloc (.cells #[.int .i64 p, .slice a n c] 26)) (.cells #[.int .i64 0, .slice none 0 0] 26)
    rwa [World.size_alloc] at this
  have e0 : W.cell? ⟨w.heap.size + 1, 0, none⟩ = some (.int .i64 0) := by rw [cell_of_row _ _ 0 _ _ (0, 0) q0]; rfl
  have e1 : W.cell? ⟨w.heap.size + 1, 1, none⟩ = some (.slice none 0 0) := by rw [cell_of_row _ _ 1 _ _ (0, 0) q0]; rfl
  have f0 : W.frozen? ⟨w.heap.size + 1, 0, none⟩ = false := frozen_of_row _ _ 0 _ _ q0
  have f1 : W.frozen? ⟨w.heap.size + 1, 1, none⟩ = false := frozen_of_row _ _ 1 _ _ q0
  have HA := ha.below B0
  clear ha q0
  cases hg : goodT p ts with
  | false =>
    have HG := Hid.mk hg
    clear hg
    go_enter Try.func21, Try.ntmps21
    go_wp2_with fail
    rw [← hW]
    clear hW
    refine (specGoodTable_any _ _ _ ts _ _ hz hn HA.atW).mono ?_
    rintro e w1 ⟨rfl, hb1⟩
    rw [HG.out]
    have B1 := B0.trans (hb1.mono B0.size)
    have f0 := frozen_later hb1 e0 f0
    have f1 := frozen_later hb1 e1 f1
    have e0 := cell_later hb1 e0
    have e1 := cell_later hb1 e1
    have c0 := cell_later hb1 c0
    have c1 := cell_later hb1 c1
    go_wp2
    refine bodyPost_ret (v := .tuple #[.agg #[.int .i64 0, .slice none 0 0], .bool false]) (by simp [results, Try.results21, go_sem, e0, e1]) rfl ⟨TabAns.zero (scaleB_no HG.out) rfl, ?_⟩
    exact (B1.setCell (by show w.heap.size ≤ w.heap.size + 1; omega) _).setCell (by show w.heap.size ≤ w.heap.size + 1; omega) _
  | true =>
    have HG := Hid.mk hg
    clear hg
    have HI : Hid (inS (-1) = true) := by show _ = _; decide
    go_enter Try.func21, Try.ntmps21
    go_wp2_with fail
    rw [← hW]
    clear hW
    refine (specGoodTable_any _ _ _ ts _ _ hz hn HA.atW).mono ?_
    rintro e w1 ⟨rfl, hb1⟩
    rw [HG.out]
    have B1 := B0.trans (hb1.mono B0.size)
    have f0 := frozen_later hb1 e0 f0
    have f1 := frozen_later hb1 e1 f1
    have e0 := cell_later hb1 e0
    have e1 := cell_later hb1 e1
    have c0 := cell_later hb1 c0
    have c1 := cell_later hb1 c1
    have n60 := goodT_len60 HG.out
    have HA2 := HA.below hb1
    have HNB : Hid (scaleB p ts (-1) = goodT p (scaleW ts (-1))) := scaleB_yes HG.out HI.out
    go_wp2_with fail
    refine wp_region_held_drew (S := fun w' => w'.cell? ⟨w.heap.size, 0, none⟩ = some (.int .i64 p) ∧ w'.cell? ⟨w.heap.size, 1, none⟩ = some (.slice a n c)) (by kernel_rfl) ?_ (fun hHeld => ?_)
    · (try dsimp only)
      exact ⟨c0, c1⟩
    refine wpAnyH_take (i := 0) (oi := ?_) (v := ?_) ?_ (by kernel_rfl) (by kernel_rfl) (by kernel_rfl) ?_ (Or.inl ⟨?_, ?_⟩) (by assumption) ?_
    rotate_left 2
    · (simp only [List.getElem?_toArray, List.getElem?_cons_zero]; rfl)
    · exact fun _ _ _ h => h
    · rfl
    · (intro wS hSw; (try dsimp only at hSw); go_simp; (try with_reducible rfl))
    (try simp only [Act.put, List.setIfInBounds_toArray, List.set_cons_zero, List.set_cons_succ])
    refine wpAnyH_take (i := 1) (oi := ?_) (v := ?_) ?_ (by kernel_rfl) (by kernel_rfl) (by kernel_rfl) ?_ (Or.inl ⟨?_, ?_⟩) (by assumption) ?_
    rotate_left 2
    · (simp only [List.getElem?_toArray, List.getElem?_cons_zero, List.getElem?_cons_succ]; rfl)
    · exact fun _ _ _ h => h
    · rfl
    · (intro wS hSw; (try dsimp only at hSw); go_simp; (try with_reducible rfl))
    (try simp only [Act.put, List.setIfInBounds_toArray, List.set_cons_zero, List.set_cons_succ])
    refine wpAnyH_take (i := 2) (oi := ?_) (v := ?_) ?_ (by kernel_rfl) (by kernel_rfl) (by kernel_rfl) ?_ (Or.inl ⟨?_, ?_⟩) (by assumption) ?_
    rotate_left 2
    · (simp only [List.getElem?_toArray, List.getElem?_cons_zero, List.getElem?_cons_succ]; rfl)
    · exact fun _ _ _ h => h
    · rfl
    · (intro wS hSw; (try dsimp only at hSw); go_simp; (try with_reducible rfl))
    (try simp only [Act.put, List.setIfInBounds_toArray, List.set_cons_zero, List.set_cons_succ])
    refine wpAnyH_take (i := 3) (oi := ?_) (v := ?_) ?_ (by kernel_rfl) (by kernel_rfl) (by kernel_rfl) ?_ (Or.inl ⟨?_, ?_⟩) (by assumption) ?_
    rotate_left 2
    · (simp only [List.getElem?_toArray, List.getElem?_cons_zero, List.getElem?_cons_succ]; rfl)
    · exact fun _ _ _ h => h
    · rfl
    · (intro wS hSw; (try dsimp only at hSw); go_simp; (try with_reducible rfl))
    (try simp only [Act.put, List.setIfInBounds_toArray, List.set_cons_zero, List.set_cons_succ])
    refine wpAnyH_ready (rs := [4]) (by kernel_rfl) (by simp) ?_
    refine AllReadyH.cons (o := ?_) ?_ (fun K hK => ?_) AllReadyH.nil
    rotate_left
    · (simp only [List.getElem?_toArray, List.getElem?_cons_zero, List.getElem?_cons_succ]; rfl)
    go_simp
    go_at_call 45; refine (l2Scale_any _ _ _ ts _ _ hz (by omega) (by decide) (by decide) (goodT_six HG.out) HA2.drew).mono ?_; rintro e w3 ⟨r3, m3, d3, rfl, hm3, ha3, hb3⟩; have c0 := cell_later hb3 c0; have c1 := cell_later hb3 c1; have f0 := frozen_later (w := w1.drew) hb3 e0 f0; have f1 := frozen_later (w := w1.drew) hb3 e1 f1; have e0 := cell_later hb3 e0; have e1 := cell_later hb3 e1
    (try go_wp2_with fail)
    refine hK.out _ _ ?_ (fun hHeld' => ?_)
    · (try dsimp only)
      exact ⟨c0, c1⟩
    clear hK K hHeld
    have hHeld := hHeld'
    clear hHeld'
    (try simp only [Act.put, List.setIfInBounds_toArray, List.set_cons_zero, List.set_cons_succ])
    refine wpAnyH_ready (rs := [5]) (by kernel_rfl) (by simp) ?_
    refine AllReadyH.cons (o := ?_) ?_ (fun K hK => ?_) AllReadyH.nil
    rotate_left
    · (simp only [List.getElem?_toArray, List.getElem?_cons_zero, List.getElem?_cons_succ]; rfl)
    go_simp
    go_at_call 32; have HPL : Hid (m3 ≤ 8192) := (by show _ ≤ _; have := scaleW_le ts (-1); omega); have HPR : Hid (∀ k, k < m3 → (wat (scaleW ts (-1)) k).1.length ≤ 1048576) := (fun k hk => by have := scaleW_six (fun s hs => (goodT_six HG.out s hs).1) (-1) k (by omega); omega); refine (l2Tell_any _ _ _ (scaleW ts (-1)) _ _ hm3 HPL.out HPR.out ha3).mono ?_; rintro e w4 ⟨⟨r4, m4, d4, cells4, rfl, ho4⟩, hb4⟩; have i0 := cell_later hb4 c0; have i1 := cell_later hb4 c1; have t0 := frozen_later hb4 e0 f0; have t1 := frozen_later hb4 e1 f1; have s0 := cell_later hb4 e0; have s1 := cell_later hb4 e1
    (try go_wp2_with fail)
    refine hK.out _ _ ?_ (fun hHeld' => ?_)
    · (try dsimp only)
      exact ⟨i0, i1⟩
    clear hK K hHeld
    have hHeld := hHeld'
    clear hHeld'
    (try simp only [Act.put, List.setIfInBounds_toArray, List.set_cons_zero, List.set_cons_succ])
    refine wpAnyH_take (i := 6) (oi := ?_) (v := ?_) ?_ (by kernel_rfl) (by kernel_rfl) (by kernel_rfl) ?_ (Or.inl ⟨?_, ?_⟩) (by assumption) ?_
    rotate_left 2
    · (simp only [List.getElem?_toArray, List.getElem?_cons_zero, List.getElem?_cons_succ]; rfl)
    · exact fun _ _ _ h => h
    · rfl
    · (intro wS hSw; (try dsimp only at hSw); go_simp; (try with_reducible rfl))
    (try simp only [Act.put, List.setIfInBounds_toArray, List.set_cons_zero, List.set_cons_succ])
    refine wpAnyH_take (i := 7) (oi := ?_) (v := ?_) ?_ (by kernel_rfl) (by kernel_rfl) (by kernel_rfl) ?_ (Or.inl ⟨?_, ?_⟩) (by assumption) ?_
    rotate_left 2
    · (simp only [List.getElem?_toArray, List.getElem?_cons_zero, List.getElem?_cons_succ]; rfl)
    · exact fun _ _ _ h => h
    · rfl
    · (intro wS hSw; (try dsimp only at hSw); go_simp; (try with_reducible rfl))
    (try simp only [Act.put, List.setIfInBounds_toArray, List.set_cons_zero, List.set_cons_succ])
    refine wpAnyH_ready (rs := [8]) (by kernel_rfl) (by simp) ?_
    refine AllReadyH.cons (o := ?_) ?_ (fun K hK => ?_) AllReadyH.nil
    rotate_left
    · (simp only [List.getElem?_toArray, List.getElem?_cons_zero, List.getElem?_cons_succ]; rfl)
    go_simp
    skip
    (try go_wp2_with fail)
    refine hK.out _ _ ?_ (fun hHeld' => ?_)
    · (try dsimp only)
      exact ⟨keep_far (keep_far i0 (by omega)) (by omega), keep_far (keep_far i1 (by omega)) (by omega)⟩
    clear hK K hHeld
    have hHeld := hHeld'
    clear hHeld'
    (try simp only [Act.put, List.setIfInBounds_toArray, List.set_cons_zero, List.set_cons_succ])
    refine wpAnyH_take (i := 9) (oi := ?_) (v := ?_) ?_ (by kernel_rfl) (by kernel_rfl) (by kernel_rfl) ?_ (Or.inl ⟨?_, ?_⟩) (by assumption) ?_
    rotate_left 2
    · (simp only [List.getElem?_toArray, List.getElem?_cons_zero, List.getElem?_cons_succ]; rfl)
    · exact fun _ _ _ h => h
    · rfl
    · (intro wS hSw; (try dsimp only at hSw); go_simp; (try with_reducible rfl))
    (try simp only [Act.put, List.setIfInBounds_toArray, List.set_cons_zero, List.set_cons_succ])
    refine wpAnyH_done (by kernel_rfl) ?_ _
    have B3 := B1.drew.trans (hb3.mono B1.size)
    have B4 := B3.trans (hb4.mono B3.size)
    have e0 := s0
    have e1 := s1
    have zR : w.heap.size + 1 < w3.heap.size := World.block_lt_of_cell? _ _ (by assumption : w3.cell? ⟨w.heap.size + 1, 0, none⟩ = _)
    clear HA HA2 hb1 hb3 hb4 hHeld ha3 hm3
    go_wp2
    refine bodyPost_ret (v := .tuple #[.agg #[.int .i64 _, .slice r4 m4 d4], .bool _]) (by simp [results, Try.results21, go_sem, e0, e1]) rfl ⟨TabAns.tell HNB.out ⟨r4, m4, d4, cells4, rfl, ho4.stored zR (by omega) _ _⟩, ?_⟩
    exact (B4.setCell (by show w.heap.size ≤ w.heap.size + 1; omega) _).setCell (by show w.heap.size ≤ w.heap.size + 1; omega) _

set_option maxHeartbeats 4000000 in
theorem specEmptyTable (p : Int) (w : World) :
    Calls Try.prog 25 #[.int .i64 p] w fun e w' => TabAns e w' w.heap.size (newB p []) p (putAll [] []) ∧ Below w.heap.size w w' := by
  obtain ⟨W, hW⟩ : ∃ W, W = w.alloc (.cells #[.int .i64 0, .slice none 0 0] 26) := ⟨_, rfl⟩
  have zW : W.heap.size = w.heap.size + 1 := by rw [hW]; simp
  have B0 : Below w.heap.size w W := by rw [hW]; exact (Below.refl _ _).alloc (Nat.le_refl _) _
  have q0 : W.heap[w.heap.size]? = some (.cells #[.int .i64 0, .slice none 0 0] 26 (0, 0)) := by rw [hW]; exact heap_alloc_new w _
  have e0 : W.cell? ⟨w.heap.size, 0, none⟩ = some (.int .i64 0) := by rw [cell_of_row _ _ 0 _ _ (0, 0) q0]; rfl
  have e1 : W.cell? ⟨w.heap.size, 1, none⟩ = some (.slice none 0 0) := by rw [cell_of_row _ _ 1 _ _ (0, 0) q0]; rfl
  have f0 : W.frozen? ⟨w.heap.size, 0, none⟩ = false := frozen_of_row _ _ 0 _ _ q0
  have f1 : W.frozen? ⟨w.heap.size, 1, none⟩ = false := frozen_of_row _ _ 1 _ _ q0
  go_enter Try.func25, Try.ntmps25
  go_wp2_with fail
  rw [← hW]
  clear hW
  refine (l2Tell_any _ _ _ [] _ _ rfl (Nat.zero_le _) (fun k hk => by simp at hk) (atM_nil _ _)).mono ?_
  rintro e w1 ⟨⟨r4, m4, d4, cells4, rfl, ho4⟩, hb1⟩
  have B1 := B0.trans (hb1.mono B0.size)
  have f0 := frozen_later hb1 e0 f0
  have f1 := frozen_later hb1 e1 f1
  have e0 := cell_later hb1 e0
  have e1 := cell_later hb1 e1
  have zR : w.heap.size < W.heap.size := by omega
  clear hb1
  go_wp2
  refine bodyPost_ret (v := .tuple #[.agg #[.int .i64 _, .slice r4 m4 d4], .bool _]) (by simp [results, Try.results25, go_sem, e0, e1]) rfl ⟨TabAns.tell (ts := []) (newB_nil p) ⟨r4, m4, d4, cells4, rfl, ho4.stored zR (by omega) _ _⟩, ?_⟩
  exact (B1.setCell (by show w.heap.size ≤ w.heap.size; omega) _).setCell (by show w.heap.size ≤ w.heap.size; omega) _

theorem goodW_six {p : Int} {t : WRow} (h : goodW p t = true) : t.1.length ≤ 6 ∧ -1000000 ≤ t.2 ∧ t.2 ≤ 1000000 := by
  have := goodW_cells h
  exact ⟨good_len this.1, this.2.2⟩

set_option maxRecDepth 100000 in
set_option maxHeartbeats 4000000 in
theorem specNewTable (a : Option Addr) (n c : Nat) (ts : List WRow) (p : Int) (w : World) (hz : ts.length = n) (hn : n ≤ 1048576) (ha : AtM w a ts) :
    Calls Try.prog 9 #[.int .i64 p, .slice a n c] w fun e w' => TabAns e w' w.heap.size (newB p ts) p (putAll [] ts) ∧ Below w.heap.size w w' := by
  obtain ⟨W, hW⟩ : ∃ W, W = w.alloc (.cells #[.int .i64 0, .slice none 0 0] 26) := ⟨_, rfl⟩
  have zW : W.heap.size = w.heap.size + 1 := by rw [hW]; simp
  have B0 : Below w.heap.size w W := by rw [hW]; exact (Below.refl _ _).alloc (Nat.le_refl _) _
  have q0 : W.heap[w.heap.size]? = some (.cells #[.int .i64 0, .slice none 0 0] 26 (0, 0)) := by rw [hW]; exact heap_alloc_new w _
  have e0 : W.cell? ⟨w.heap.size, 0, none⟩ = some (.int .i64 0) := by rw [cell_of_row _ _ 0 _ _ (0, 0) q0]; rfl
  have e1 : W.cell? ⟨w.heap.size, 1, none⟩ = some (.slice none 0 0) := by rw [cell_of_row _ _ 1 _ _ (0, 0) q0]; rfl
  have f0 : W.frozen? ⟨w.heap.size, 0, none⟩ = false := frozen_of_row _ _ 0 _ _ q0
  have f1 : W.frozen? ⟨w.heap.size, 1, none⟩ = false := frozen_of_row _ _ 1 _ _ q0
  have HA := ha.below B0
  clear ha
  cases hi : inc p with
  | false =>
    have HI := Hid.mk hi
    clear hi
    go_enter Try.func9, Try.ntmps9
    go_wp2_with fail
    rw [← hW]
    clear hW
    refine (l1In_any _ _ _ _).mono ?_
    rintro e w1 ⟨rfl, rfl⟩
    rw [show (decide ((0 : Int) ≤ p) && decide (p ≤ 6)) = false from HI.out]
    go_wp2
    refine bodyPost_ret (v := .tuple #[.agg #[.int .i64 0, .slice none 0 0], .bool false]) (by simp [results, Try.results9, go_sem, e0, e1]) rfl ⟨TabAns.zero (newB_col HI.out) rfl, ?_⟩
    exact (B0.setCell (by show w.heap.size ≤ w.heap.size; omega) _).setCell (by show w.heap.size ≤ w.heap.size; omega) _
  | true =>
    have HI := Hid.mk hi
    clear hi
    by_cases h200 : n ≤ 200
    · have hn2 : ¬ (200 : Int) < (n : Int) := by omega
      go_enter Try.func9, Try.ntmps9
      go_wp2_with fail
      rw [← hW]
      clear hW
      refine (l1In_any _ _ _ _).mono ?_
      rintro e w1 ⟨rfl, rfl⟩
      rw [show (decide ((0 : Int) ≤ p) && decide (p ≤ 6)) = true from HI.out]
      go_wp2
      go_loopw [6, 20] (fun o i wr => ∃ (k : Nat) (r : Option Addr) (m d : Nat), k ≤ n ∧ i = .int .i64 k ∧ o = .slice r m d ∧ (putAll [] (ts.take k)).length = m ∧ Formed r m d ∧ AtM wr r (putAll [] (ts.take k)) ∧ (∀ j, j < k → goodW p (wat ts j) = true) ∧ Below w1.heap.size w1 wr) (fun _ i _ => n - (intOf i).toNat)
      case atStart => exact ⟨0, none, 0, 0, Nat.zero_le _, rfl, rfl, rfl, Formed.nil, atM_nil _ _, fun j hj => by omega, Below.refl _ _⟩
      case round =>
        obtain ⟨k, r, m, d, hk, rfl, rfl, hm, hFr, har, hlow, hbw⟩ := hrel
        have B2 := B0.trans (hbw.mono B0.size)
        have g0 := cell_later hbw e0
        have g1 := cell_later hbw e1
        have k0 := frozen_later hbw e0 f0
        have k1 := frozen_later hbw e1 f1
        have HLOW := Hid.mk hlow
        clear hlow
        by_cases hlt : k < n
        · obtain ⟨b, off, rfl, hc⟩ := (HA.below hbw).some (by omega)
          obtain ⟨q, dd, hcx, hwx, hm1, hnil, hat⟩ := hc k (by omega)
          have HS := Hid.mk (putAll_take [] ts k (by omega))
          have hki : (k : Int) < (n : Int) := by omega
          have hml : m ≤ k := by have := putAll_len (ts.take k) []; rw [List.length_take] at this; simp at this; omega
          have hok : ∀ j, j < m → (wat (putAll [] (ts.take k)) j).1.length ≤ 6 ∧ -4000000000000000000 ≤ (wat (putAll [] (ts.take k)) j).2 ∧ (wat (putAll [] (ts.take k)) j).2 ≤ 4000000000000000000 := fun j hj => by
            have := at_of_mem (putAll_ok (M0 := 0) (M := 1000000) (ts := []) (l := ts.take k) (by omega) (by omega) List.Pairwise.nil (fun t ht => by cases ht) (mem_of_at fun i hi => by
              rw [List.length_take] at hi
              have e : wat (ts.take k) i = wat ts i := by simp [wat, List.getD, show i < k by omega]
              rw [e]; exact goodW_six (HLOW.out i (by omega)))) j (show j < (putAll [] (ts.take k)).length by omega)
            rw [List.length_take] at this
            refine ⟨this.1, ?_, ?_⟩ <;> omega
          have HNO : Hid (goodW p (wat ts k) = false → goodL p ts = false) := goodL_not k (by omega)
          have HNX : Hid (goodW p (wat ts k) = true → ∀ j, j < k + 1 → goodW p (wat ts j) = true) := fun h j hj => by
            by_cases e : j = k
            · subst e; exact h
            · exact HLOW.out j (by omega)
          generalize wat ts k = Y at *
          obtain ⟨ys, x⟩ := Y
          simp only at hcx hwx hat hm1 HS
          obtain ⟨m2, hmm⟩ : ∃ m2, ys.length = m2 := ⟨_, rfl⟩
          rw [hmm] at hcx hm1
          have HM := Hid.mk hmm
          obtain ⟨V, hV⟩ : ∃ V, V = wr.alloc (.cells #[.slice q m2 dd, .int .i64 x] 56) := ⟨_, rfl⟩
          have hbV : Below wr.heap.size wr V := by rw [hV]; exact (Below.refl _ _).alloc (Nat.le_refl _) _
          have c3 : V.cell? ⟨wr.heap.size, 0, none⟩ = some (.slice q m2 dd) := by rw [hV]; exact pair0 wr _ _ _
          have c4 : V.cell? ⟨wr.heap.size, 1, none⟩ = some (.int .i64 x) := by rw [hV]; exact pair1 wr _ _ _
          have HAx := hat.below hbV
          have harV := har.below hbV
          have BV := B2.trans (hbV.mono B2.size)
          have BW := hbw.trans (hbV.mono hbw.size)
          have g0 := cell_later hbV g0
          have k0 := frozen_later hbV (by assumption) k0
          have k1 := frozen_later hbV g1 k1
          have g1 := cell_later hbV g1
          clear hmm hc hat har hbV
          cases hg : good ys with
          | false =>
            have HG := Hid.mk hg
            clear hg
            go_wp2_with fail
            rw [← hV]
            clear hV hcx hwx
            refine (specGoodRow_any _ _ _ ys _ HM.out hm1 HAx).mono ?_
            rintro e w2 ⟨rfl, hb2⟩
            rw [HG.out]
            have d3 := cell_later hb2 c3
            have d4 := cell_later hb2 c4
            have i0 := cell_later hb2 g0
            have i1 := cell_later hb2 g1
            have j0 := frozen_later hb2 g0 k0
            have j1 := frozen_later hb2 g1 k1
            have B3 := BV.trans (hb2.mono BV.size)
            have B3' := BW.trans (hb2.mono BW.size)
            go_wp2
            refine bodyPost_ret (v := .tuple #[.agg #[.int .i64 0, .slice none 0 0], .bool false]) (by simp [results, Try.results9, go_sem, i0, i1]) rfl ⟨TabAns.zero (newB_list (HNO.out (goodW_row HG.out))) rfl, ?_⟩
            exact (B3.setCell (by show w.heap.size ≤ w.heap.size; omega) _).setCell (by show w.heap.size ≤ w.heap.size; omega) _
          | true =>
            have HG := Hid.mk hg
            clear hg
            by_cases hl : (m2 : Int) = p
            · have hne : ((m2 : Int) != p) = false := by simp [hl]
              have HL : Hid ((ys.length : Int) = p) := by show _ = _; rw [HM.out]; exact hl
              clear hl
              cases hi2 : inw x with
              | false =>
                have HI2 := Hid.mk hi2
                clear hi2
                go_wp2_with fail
                rw [← hV]
                clear hV hcx hwx
                refine (specGoodRow_any _ _ _ ys _ HM.out hm1 HAx).mono ?_
                rintro e w2 ⟨rfl, hb2⟩
                rw [HG.out]
                have d3 := cell_later hb2 c3
                have d4 := cell_later hb2 c4
                have i0 := cell_later hb2 g0
                have i1 := cell_later hb2 g1
                have j0 := frozen_later hb2 g0 k0
                have j1 := frozen_later hb2 g1 k1
                have B3 := BV.trans (hb2.mono BV.size)
                have B3' := BW.trans (hb2.mono BW.size)
                go_wp2_with (go_at_call 30; refine (l2Weight_any _ _).mono ?_; rintro e w3 ⟨rfl, rfl⟩; rw [HI2.out])
                refine bodyPost_ret (v := .tuple #[.agg #[.int .i64 0, .slice none 0 0], .bool false]) (by simp [results, Try.results9, go_sem, i0, i1]) rfl ⟨TabAns.zero (newB_list (HNO.out (goodW_wt HI2.out))) rfl, ?_⟩
                exact (B3.setCell (by show w.heap.size ≤ w.heap.size; omega) _).setCell (by show w.heap.size ≤ w.heap.size; omega) _
              | true =>
                have HI2 := Hid.mk hi2
                have HGW := Hid.mk (goodW_mk (p := p) (t := (ys, x)) HG.out HL.out HI2.out)
                obtain ⟨h6, hx1, hx2⟩ := goodW_six HGW.out
                simp only [HM.out] at h6 hx1 hx2
                clear hi2
                go_wp2_with fail
                rw [← hV]
                clear hV hcx hwx
                refine (specGoodRow_any _ _ _ ys _ HM.out hm1 HAx).mono ?_
                rintro e w2 ⟨rfl, hb2⟩
                rw [HG.out]
                have d3 := cell_later hb2 c3
                have d4 := cell_later hb2 c4
                have i0 := cell_later hb2 g0
                have i1 := cell_later hb2 g1
                have j0 := frozen_later hb2 g0 k0
                have j1 := frozen_later hb2 g1 k1
                have B3 := BV.trans (hb2.mono BV.size)
                have B3' := BW.trans (hb2.mono BW.size)
                have HR2 := HAx.below hb2
                have har2 := harV.below hb2
                go_wp2_with (first | (go_at_call 30; refine (l2Weight_any _ _).mono ?_; rintro e w3 ⟨rfl, rfl⟩; rw [HI2.out]) | fail)
                refine (l2Put_any _ _ _ _ _ _ (putAll [] (ts.take k)) ys x _ hm HM.out (by omega) hFr h6 hnil hok (by omega) (by omega) har2 HR2).mono ?_
                rintro e w4 ⟨r4, m4, d4', rfl, hm4, hF4, ha4, hb4⟩
                rw [← HS.out] at hm4 ha4
                have HM4 := Hid.mk hm4
                have HF4 := Hid.mk hF4
                have HA4 := Hid.mk ha4
                have HB := Hid.mk (B3'.trans (hb4.mono B3'.size))
                clear hm4 hF4 ha4 hb4 B3 B3' BV BW hm hFr hok har2 HR2 HAx harV hb2 hbw
                go_wp2
                go_roundw
                case rel => exact ⟨k + 1, _, _, _, by omega, by go_num, rfl, HM4.out, HF4.out, HA4.out, HNX.out HGW.out, HB.out⟩
                case measure => simp [intOf]; omega
            · have hne : ((m2 : Int) != p) = true := by simp [hl]
              have HL : Hid ((ys.length : Int) ≠ p) := by show _ ≠ _; rw [HM.out]; exact hl
              clear hl
              go_wp2_with fail
              rw [← hV]
              clear hV hcx hwx
              refine (specGoodRow_any _ _ _ ys _ HM.out hm1 HAx).mono ?_
              rintro e w2 ⟨rfl, hb2⟩
              rw [HG.out]
              have d3 := cell_later hb2 c3
              have d4 := cell_later hb2 c4
              have i0 := cell_later hb2 g0
              have i1 := cell_later hb2 g1
              have j0 := frozen_later hb2 g0 k0
              have j1 := frozen_later hb2 g1 k1
              have B3 := BV.trans (hb2.mono BV.size)
              have B3' := BW.trans (hb2.mono BW.size)
              go_wp2
              refine bodyPost_ret (v := .tuple #[.agg #[.int .i64 0, .slice none 0 0], .bool false]) (by simp [results, Try.results9, go_sem, i0, i1]) rfl ⟨TabAns.zero (newB_list (HNO.out (goodW_len HL.out))) rfl, ?_⟩
              exact (B3.setCell (by show w.heap.size ≤ w.heap.size; omega) _).setCell (by show w.heap.size ≤ w.heap.size; omega) _
        · obtain rfl : k = n := by omega
          rw [wtake_all' ts hz] at hm har
          have HGL := Hid.mk (goodL_of (p := p) (ts := ts) (fun j hj => HLOW.out j (by omega)))
          have HNB : Hid (newB p ts = goodT p (putAll [] ts)) := newB_good HI.out (by omega) HGL.out
          have hml : m ≤ k := by have := putAll_len ts []; simp at this; omega
          have hrow : ∀ j, j < m → (wat (putAll [] ts) j).1.length ≤ 1048576 := fun j hj => by
            have := (at_of_mem (putAll_ok (M0 := 0) (M := 1000000) (ts := []) (l := ts) (by omega) (by omega) List.Pairwise.nil (fun t ht => by cases ht) (fun t ht => by have := goodL_mem HGL.out t ht; exact ⟨good_len this.1, this.2.2⟩)) j (show j < (putAll [] ts).length by omega)).1
            omega
          go_wp2_with fail
          refine (l2Tell_any _ _ _ (putAll [] ts) _ _ hm (by omega) hrow har).mono ?_
          rintro e w4 ⟨⟨r4, m4, d4, cells4, rfl, ho4⟩, hb4⟩
          have B4 := B2.trans (hb4.mono B2.size)
          have e0 := cell_later hb4 g0
          have e1 := cell_later hb4 g1
          have f0 := frozen_later hb4 g0 k0
          have f1 := frozen_later hb4 g1 k1
          have zR : w.heap.size < wr.heap.size := World.block_lt_of_cell? _ _ g0
          clear hb4 hm har hFr hrow hbw
          go_wp2
          refine bodyPost_ret (v := .tuple #[.agg #[.int .i64 _, .slice r4 m4 d4], .bool _]) (by simp [results, Try.results9, go_sem, e0, e1]) rfl ⟨TabAns.tell HNB.out ⟨r4, m4, d4, cells4, rfl, ho4.stored zR (by omega) _ _⟩, ?_⟩
          exact (B4.setCell (by show w.heap.size ≤ w.heap.size; omega) _).setCell (by show w.heap.size ≤ w.heap.size; omega) _
    · have hn2 : (200 : Int) < (n : Int) := by omega
      go_enter Try.func9, Try.ntmps9
      go_wp2_with fail
      rw [← hW]
      clear hW
      refine (l1In_any _ _ _ _).mono ?_
      rintro e w1 ⟨rfl, rfl⟩
      rw [show (decide ((0 : Int) ≤ p) && decide (p ≤ 6)) = true from HI.out]
      go_wp2
      refine bodyPost_ret (v := .tuple #[.agg #[.int .i64 0, .slice none 0 0], .bool false]) (by simp [results, Try.results9, go_sem, e0, e1]) rfl ⟨TabAns.zero (newB_len (by omega)) rfl, ?_⟩
      exact (B0.setCell (by show w.heap.size ≤ w.heap.size; omega) _).setCell (by show w.heap.size ≤ w.heap.size; omega) _
theorem scaleB_goodT {p : Int} {ts : List WRow} {t : Int} (h : scaleB p ts t = true) : goodT p (scaleW ts t) = true := by
  simp only [scaleB, Bool.and_eq_true] at h
  exact h.2.2
theorem addB_goodT {p : Int} {ts : List WRow} {p' : Int} {ts' : List WRow} (h : addB p ts p' ts' = true) : goodT p (putAll ts ts') = true := by
  simp only [addB, Bool.and_eq_true] at h
  exact h.2

end Go.Proofs.Ytogokgegkakmbaa
