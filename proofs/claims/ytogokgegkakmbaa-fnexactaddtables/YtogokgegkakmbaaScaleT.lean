/- Contracts of impl.ScaleTable, impl.NegateTable, impl.EmptyTable. -/
import Derived.Test.YtogokgegkakmbaaAddT
namespace Go.Proofs.Ytogokgegkakmbaa
open Go.RowKit Go.Maps

/-- Each weight so many times. -/
def scaleW (ts : List WRow) (t : Int) : List WRow := if t = 0 then [] else ts.map fun s => (s.1, t * s.2)
def inS (t : Int) : Bool := decide (-1000 ≤ t) && decide (t ≤ 1000)
/-- What ScaleTable tells. -/
def scaleB (p : Int) (ts : List WRow) (t : Int) : Bool := goodT p ts && (inS t && goodT p (scaleW ts t))
theorem scaleB_no {p : Int} {ts : List WRow} {t : Int} (h : goodT p ts = false) : scaleB p ts t = false := by simp [scaleB, h]
theorem scaleB_out {p : Int} {ts : List WRow} {t : Int} (h : inS t = false) : scaleB p ts t = false := by simp [scaleB, h]
theorem scaleB_yes {p : Int} {ts : List WRow} {t : Int} (h : goodT p ts = true) (h' : inS t = true) : scaleB p ts t = goodT p (scaleW ts t) := by simp [scaleB, h, h']
theorem inS_range {t : Int} (h : inS t = true) : -1000 ≤ t ∧ t ≤ 1000 := by simpa [inS] using h

theorem wOf_scale (ts : List WRow) (t : Int) (zs : List Int) : wOf (ts.map fun s => (s.1, t * s.2)) zs = t * wOf ts zs := by
  induction ts with
  | nil => simp [wOf_nil]
  | cons s ts ih =>
    rw [List.map_cons, wOf_cons, wOf_cons, ih]
    by_cases e : s.1 = zs
    · rw [if_pos e, if_pos e]
    · rw [if_neg e, if_neg e]
theorem tells_scale {q n : Nat} {ts : List WRow} (hz : ts.length = n) (h : goodT q ts = true) (t : Int) : Tells q (sumAt ts n t) (scaleW ts t) := by
  have hf : ∀ zs, good zs = true → sumAt ts n t (raised zs) = t * wOf ts zs := fun zs h1 => by
    rw [sumAt_sumW hz t (fun s hs => (goodT_mem h s hs).1) h1, sumW_rises (goodT_rises h), Int.mul_comm]
  unfold scaleW
  by_cases e : t = 0
  · rw [if_pos e]
    exact ⟨List.Pairwise.nil, fun s hs => (by cases hs), fun s hs => (by cases hs), fun zs h1 _ => by rw [hf zs h1, e, wOf_nil]; simp⟩
  · rw [if_neg e]
    refine ⟨?_, ?_, ?_, fun zs h1 _ => by rw [hf zs h1, wOf_scale]⟩
    · unfold Rises
      rw [List.pairwise_map]
      exact goodT_rises h
    · intro s hs
      obtain ⟨u, hu, rfl⟩ := List.mem_map.1 hs
      exact Int.mul_ne_zero e (goodT_noZero h u hu)
    · intro s hs
      obtain ⟨u, hu, rfl⟩ := List.mem_map.1 hs
      exact goodT_mem h u hu


set_option maxRecDepth 100000 in
set_option maxHeartbeats 4000000 in
theorem implScaleTable (a : Option Addr) (n c : Nat) (ts : List WRow) (p : Int) (t : Int) (w : World) (hz : ts.length = n) (hn : n ≤ 1048576) (ha : AtW w a ts) :
    Calls Try.prog 24 #[.agg #[.int .i64 p, .slice a n c], .int .i64 t] w fun e w' => TabAns e w' w.heap.size (scaleB p ts t) p (scaleW ts t) ∧ Below w.heap.size w w' := by
  obtain ⟨W, hW⟩ : ∃ W, W = (w.alloc (.cells #[.int .i64 p, .slice a n c] 26)).alloc (.cells #[.int .i64 0, .slice none 0 0] 26) := ⟨_, rfl⟩
  have zW : W.heap.size = w.heap.size + 1 + 1 := by rw [hW]; simp
  have B0 : Below w.heap.size w W := by rw [hW]; exact ((Below.refl _ _).alloc (Nat.le_refl _) _).alloc (by simp) _
  have c0 : W.cell? ⟨w.heap.size, 0, none⟩ = some (.int .i64 p) := by rw [hW]; exact alloc_keeps (pair0 w _ _ _) _
  have c1 : W.cell? ⟨w.heap.size, 1, none⟩ = some (.slice a n c) := by rw [hW]; exact alloc_keeps (pair1 w _ _ _) _
  have q0 : W.heap[w.heap.size + 1]? = some (.cells #[.int .i64 0, .slice none 0 0] 26 (0, 0)) := by
    rw [hW]
    have := heap_alloc_new (w.alloc (.cells #[.int .i64 p, .slice a n c] 26)) (.cells #[.int .i64 0, .slice none 0 0] 26)
    rwa [World.size_alloc] at this
  have e0 : W.cell? ⟨w.heap.size + 1, 0, none⟩ = some (.int .i64 0) := by rw [cell_of_row _ _ 0 _ _ (0, 0) q0]; rfl
  have e1 : W.cell? ⟨w.heap.size + 1, 1, none⟩ = some (.slice none 0 0) := by rw [cell_of_row _ _ 1 _ _ (0, 0) q0]; rfl
  have f0 : W.frozen? ⟨w.heap.size + 1, 0, none⟩ = false := frozen_of_row _ _ 0 _ _ q0
  have f1 : W.frozen? ⟨w.heap.size + 1, 1, none⟩ = false := frozen_of_row _ _ 1 _ _ q0
  have HA := ha.below B0
  clear ha q0
  cases hg : goodT p ts with
  | false =>
    have HG := Hid.mk hg
    clear hg
    go_enter Try.func24, Try.ntmps24
    go_wp2_with fail
    rw [← hW]
    clear hW
    refine (implGoodTable_any _ _ _ ts _ _ hz hn HA).mono ?_
    rintro e w1 ⟨rfl, hb1⟩
    rw [HG.out]
    have B1 := B0.trans (hb1.mono B0.size)
    have g0 := cell_later hb1 e0
    have g1 := cell_later hb1 e1
    have k0 := frozen_later hb1 e0 f0
    have k1 := frozen_later hb1 e1 f1
    go_wp2
    refine bodyPost_ret (v := .tuple #[.agg #[.int .i64 0, .slice none 0 0], .bool false]) (by simp [results, Try.results24, go_sem, g0, g1]) rfl ⟨TabAns.zero (scaleB_no HG.out) rfl, ?_⟩
    exact (B1.setCell (by show w.heap.size ≤ w.heap.size + 1; omega) _).setCell (by show w.heap.size ≤ w.heap.size + 1; omega) _
  | true =>
    have HG := Hid.mk hg
    obtain ⟨q, hq⟩ : ∃ q : Nat, p = q := ⟨p.toNat, by have := inc_range (goodT_parts hg).1; omega⟩
    subst hq
    have h6 : q ≤ 6 := by have := inc_range (goodT_parts hg).1; omega
    have n60 := goodT_len60 hg
    clear hg
    by_cases h1 : -1000 ≤ t
    · have h1' : ¬ t < -1000 := by omega
      by_cases h2 : t ≤ 1000
      · have h2' : ¬ 1000 < t := by omega
        have HI : Hid (inS t = true) := by show _ = _; simp [inS, h1, h2]
        go_enter Try.func24, Try.ntmps24
        go_wp2_with fail
        rw [← hW]
        clear hW
        refine (implGoodTable_any _ _ _ ts _ _ hz hn HA).mono ?_
        rintro e w1 ⟨rfl, hb1⟩
        rw [HG.out]
        have B1 := B0.trans (hb1.mono B0.size)
        have g0 := cell_later hb1 e0
        have g1 := cell_later hb1 e1
        have k0 := frozen_later hb1 e0 f0
        have k1 := frozen_later hb1 e1 f1
        have c0 := cell_later hb1 c0
        have c1 := cell_later hb1 c1
        have HA := HA.below hb1
        go_wp2_with fail
        refine wp_region_held_drew (S := fun w' => w'.cell? ⟨w.heap.size, 0, none⟩ = some (.int .i64 q) ∧ w'.cell? ⟨w.heap.size, 1, none⟩ = some (.slice a n c)) (by kernel_rfl) ?_ (fun hHeld => ?_)
        · (try dsimp only)
          exact ⟨c0, c1⟩
        refine wpAnyH_take (i := 0) (oi := ?_) (v := ?_) ?_ (by kernel_rfl) (by kernel_rfl) (by kernel_rfl) ?_ (Or.inl ⟨?_, ?_⟩) (by assumption) ?_
        rotate_left 2
        · (simp only [List.getElem?_toArray, List.getElem?_cons_zero]; rfl)
        · exact fun _ _ _ h => h
        · rfl
        · (intro wS hSw; (try dsimp only at hSw); go_simp; (try with_reducible rfl))
        (try simp only [Act.put, List.setIfInBounds_toArray, List.set_cons_zero, List.set_cons_succ])
        refine wpAnyH_take (i := 1) (oi := ?_) (v := ?_) ?_ (by kernel_rfl) (by kernel_rfl) (by kernel_rfl) ?_ (Or.inl ⟨?_, ?_⟩) (by assumption) ?_
        rotate_left 2
        · (simp only [List.getElem?_toArray, List.getElem?_cons_zero, List.getElem?_cons_succ]; rfl)
        · exact fun _ _ _ h => h
        · rfl
        · (intro wS hSw; (try dsimp only at hSw); go_simp; (try with_reducible rfl))
        (try simp only [Act.put, List.setIfInBounds_toArray, List.set_cons_zero, List.set_cons_succ])
        refine wpAnyH_take (i := 2) (oi := ?_) (v := ?_) ?_ (by kernel_rfl) (by kernel_rfl) (by kernel_rfl) ?_ (Or.inl ⟨?_, ?_⟩) (by assumption) ?_
        rotate_left 2
        · (simp only [List.getElem?_toArray, List.getElem?_cons_zero, List.getElem?_cons_succ]; rfl)
        · exact fun _ _ _ h => h
        · rfl
        · (intro wS hSw; (try dsimp only at hSw); go_simp; (try with_reducible rfl))
        (try simp only [Act.put, List.setIfInBounds_toArray, List.set_cons_zero, List.set_cons_succ])
        refine wpAnyH_take (i := 4) (oi := ?_) (v := ?_) ?_ (by kernel_rfl) (by kernel_rfl) (by kernel_rfl) ?_ (Or.inl ⟨?_, ?_⟩) (by assumption) ?_
        rotate_left 2
        · (simp only [List.getElem?_toArray, List.getElem?_cons_zero, List.getElem?_cons_succ]; rfl)
        · exact fun _ _ _ h => h
        · rfl
        · (intro wS hSw; (try dsimp only at hSw); go_simp; (try with_reducible rfl))
        (try simp only [Act.put, List.setIfInBounds_toArray, List.set_cons_zero, List.set_cons_succ])
        refine wpAnyH_take (i := 5) (oi := ?_) (v := ?_) ?_ (by kernel_rfl) (by kernel_rfl) (by kernel_rfl) ?_ (Or.inl ⟨?_, ?_⟩) (by assumption) ?_
        rotate_left 2
        · (simp only [List.getElem?_toArray, List.getElem?_cons_zero, List.getElem?_cons_succ]; rfl)
        · exact fun _ _ _ h => h
        · rfl
        · (intro wS hSw; (try dsimp only at hSw); go_simp; (try with_reducible rfl))
        (try simp only [Act.put, List.setIfInBounds_toArray, List.set_cons_zero, List.set_cons_succ])
        refine wpAnyH_ready (rs := [3]) (by kernel_rfl) (by simp) ?_
        refine AllReadyH.cons (o := ?_) ?_ (fun K hK => ?_) AllReadyH.nil
        rotate_left
        · (simp only [List.getElem?_toArray, List.getElem?_cons_zero, List.getElem?_cons_succ]; rfl)
        go_simp
        go_at_call 36; refine (sumsOf_any _ _ _ ts _ _ hz (by omega) h1 h2 (fun k hk => goodT_cells HG.out k (by omega)) HA.drew).mono ?_; rintro e w2 ⟨b, D, rfl, hbb, ho2, hm2, hb2⟩; have d0 := cell_later hb2 c0; have d1 := cell_later hb2 c1; have l0 := cell_later hb2 g0; have l1 := cell_later hb2 g1; have j0 := frozen_later (w := w1.drew) hb2 g0 k0; have j1 := frozen_later (w := w1.drew) hb2 g1 k1
        (try go_wp2_with fail)
        refine hK.out _ _ ?_ (fun hHeld' => ?_)
        · (try dsimp only)
          exact ⟨d0, d1⟩
        clear hK K hHeld
        have hHeld := hHeld'
        clear hHeld'
        (try simp only [Act.put, List.setIfInBounds_toArray, List.set_cons_zero, List.set_cons_succ])
        refine wpAnyH_ready (rs := [6]) (by kernel_rfl) (by simp) ?_
        refine AllReadyH.cons (o := ?_) ?_ (fun K hK => ?_) AllReadyH.nil
        rotate_left
        · (simp only [List.getElem?_toArray, List.getElem?_cons_zero, List.getElem?_cons_succ]; rfl)
        go_simp
        go_at_call 37; refine (table_any b n D _ _ q _ (by omega) h6 ho2 hm2 (keys_list (goodL_of_goodT HG.out) _)).mono ?_; rintro e w3 ⟨us, ⟨r3, m3, d3, cells3, rfl, ho3⟩, hT, hb3⟩; have i0 := cell_later hb3 d0; have i1 := cell_later hb3 d1; have s0 := cell_later hb3 l0; have s1 := cell_later hb3 l1; have t0 := frozen_later hb3 l0 j0; have t1 := frozen_later hb3 l1 j1
        (try go_wp2_with fail)
        refine hK.out _ _ ?_ (fun hHeld' => ?_)
        · (try dsimp only)
          exact ⟨i0, i1⟩
        clear hK K hHeld
        have hHeld := hHeld'
        clear hHeld'
        (try simp only [Act.put, List.setIfInBounds_toArray, List.set_cons_zero, List.set_cons_succ])
        refine wpAnyH_take (i := 7) (oi := ?_) (v := ?_) ?_ (by kernel_rfl) (by kernel_rfl) (by kernel_rfl) ?_ (Or.inl ⟨?_, ?_⟩) (by assumption) ?_
        rotate_left 2
        · (simp only [List.getElem?_toArray, List.getElem?_cons_zero, List.getElem?_cons_succ]; rfl)
        · exact fun _ _ _ h => h
        · rfl
        · (intro wS hSw; (try dsimp only at hSw); go_simp; (try with_reducible rfl))
        (try simp only [Act.put, List.setIfInBounds_toArray, List.set_cons_zero, List.set_cons_succ])
        refine wpAnyH_take (i := 8) (oi := ?_) (v := ?_) ?_ (by kernel_rfl) (by kernel_rfl) (by kernel_rfl) ?_ (Or.inl ⟨?_, ?_⟩) (by assumption) ?_
        rotate_left 2
        · (simp only [List.getElem?_toArray, List.getElem?_cons_zero, List.getElem?_cons_succ]; rfl)
        · exact fun _ _ _ h => h
        · rfl
        · (intro wS hSw; (try dsimp only at hSw); go_simp; (try with_reducible rfl))
        (try simp only [Act.put, List.setIfInBounds_toArray, List.set_cons_zero, List.set_cons_succ])
        refine wpAnyH_ready (rs := [9]) (by kernel_rfl) (by simp) ?_
        refine AllReadyH.cons (o := ?_) ?_ (fun K hK => ?_) AllReadyH.nil
        rotate_left
        · (simp only [List.getElem?_toArray, List.getElem?_cons_zero, List.getElem?_cons_succ]; rfl)
        go_simp
        skip
        (try go_wp2_with fail)
        refine hK.out _ _ ?_ (fun hHeld' => ?_)
        · (try dsimp only)
          exact ⟨keep_far (keep_far i0 (by omega)) (by omega), keep_far (keep_far i1 (by omega)) (by omega)⟩
        clear hK K hHeld
        have hHeld := hHeld'
        clear hHeld'
        (try simp only [Act.put, List.setIfInBounds_toArray, List.set_cons_zero, List.set_cons_succ])
        refine wpAnyH_take (i := 10) (oi := ?_) (v := ?_) ?_ (by kernel_rfl) (by kernel_rfl) (by kernel_rfl) ?_ (Or.inl ⟨?_, ?_⟩) (by assumption) ?_
        rotate_left 2
        · (simp only [List.getElem?_toArray, List.getElem?_cons_zero, List.getElem?_cons_succ]; rfl)
        · exact fun _ _ _ h => h
        · rfl
        · (intro wS hSw; (try dsimp only at hSw); go_simp; (try with_reducible rfl))
        (try simp only [Act.put, List.setIfInBounds_toArray, List.set_cons_zero, List.set_cons_succ])
        refine wpAnyH_done (by kernel_rfl) ?_ _
        have hus : us = scaleW ts t := hT.unique (tells_scale hz HG.out t)
        subst hus
        have B2 := B1.drew.trans (hb2.mono B1.size)
        have B3 := B2.trans (hb3.mono B2.size)
        have z2 : w.heap.size + 1 < w2.heap.size := World.block_lt_of_cell? _ _ l0
        have HNB : Hid (scaleB q ts t = goodT q (scaleW ts t)) := scaleB_yes HG.out HI.out
        clear c0 c1 HA ho2 hm2 hT hb1 hb2 hb3 d0 d1 l0 l1 i0 i1 hHeld
        go_wp2
        refine bodyPost_ret (v := .tuple #[.agg #[.int .i64 (tellP q (scaleW ts t)), .slice r3 m3 d3], .bool (goodT q (scaleW ts t))]) (by simp [results, Try.results24, go_sem, s0, s1]) rfl ⟨TabAns.tell HNB.out ⟨r3, m3, d3, cells3, rfl, ho3.stored z2 (by omega) _ _⟩, ?_⟩
        exact (B3.setCell (by show w.heap.size ≤ w.heap.size + 1; omega) _).setCell (by show w.heap.size ≤ w.heap.size + 1; omega) _
      · have h2' : 1000 < t := by omega
        have HI : Hid (inS t = false) := by show _ = _; simp [inS, h2]
        go_enter Try.func24, Try.ntmps24
        go_wp2_with fail
        rw [← hW]
        clear hW
        refine (implGoodTable_any _ _ _ ts _ _ hz hn HA).mono ?_
        rintro e w1 ⟨rfl, hb1⟩
        rw [HG.out]
        have B1 := B0.trans (hb1.mono B0.size)
        have g0 := cell_later hb1 e0
        have g1 := cell_later hb1 e1
        have k0 := frozen_later hb1 e0 f0
        have k1 := frozen_later hb1 e1 f1
        go_wp2
        refine bodyPost_ret (v := .tuple #[.agg #[.int .i64 0, .slice none 0 0], .bool false]) (by simp [results, Try.results24, go_sem, g0, g1]) rfl ⟨TabAns.zero (scaleB_out HI.out) rfl, ?_⟩
        exact (B1.setCell (by show w.heap.size ≤ w.heap.size + 1; omega) _).setCell (by show w.heap.size ≤ w.heap.size + 1; omega) _
    · have h1' : t < -1000 := by omega
      have HI : Hid (inS t = false) := by show _ = _; simp [inS, h1]
      go_enter Try.func24, Try.ntmps24
      go_wp2_with fail
      rw [← hW]
      clear hW
      refine (implGoodTable_any _ _ _ ts _ _ hz hn HA).mono ?_
      rintro e w1 ⟨rfl, hb1⟩
      rw [HG.out]
      have B1 := B0.trans (hb1.mono B0.size)
      have g0 := cell_later hb1 e0
      have g1 := cell_later hb1 e1
      have k0 := frozen_later hb1 e0 f0
      have k1 := frozen_later hb1 e1 f1
      go_wp2
      refine bodyPost_ret (v := .tuple #[.agg #[.int .i64 0, .slice none 0 0], .bool false]) (by simp [results, Try.results24, go_sem, g0, g1]) rfl ⟨TabAns.zero (scaleB_out HI.out) rfl, ?_⟩
      exact (B1.setCell (by show w.heap.size ≤ w.heap.size + 1; omega) _).setCell (by show w.heap.size ≤ w.heap.size + 1; omega) _

set_option maxHeartbeats 4000000 in
theorem implNegateTable (a : Option Addr) (n c : Nat) (ts : List WRow) (p : Int) (w : World) (hz : ts.length = n) (hn : n ≤ 1048576) (ha : AtW w a ts) :
    Calls Try.prog 22 #[.agg #[.int .i64 p, .slice a n c]] w fun e w' => TabAns e w' w.heap.size (scaleB p ts (-1)) p (scaleW ts (-1)) ∧ Below w.heap.size w w' := by
  obtain ⟨W, hW⟩ : ∃ W, W = (w.alloc (.cells #[.int .i64 p, .slice a n c] 26)).alloc (.cells #[.int .i64 0, .slice none 0 0] 26) := ⟨_, rfl⟩
  have zW : W.heap.size = w.heap.size + 1 + 1 := by rw [hW]; simp
  have B0 : Below w.heap.size w W := by rw [hW]; exact ((Below.refl _ _).alloc (Nat.le_refl _) _).alloc (by simp) _
  have c0 : W.cell? ⟨w.heap.size, 0, none⟩ = some (.int .i64 p) := by rw [hW]; exact alloc_keeps (pair0 w _ _ _) _
  have c1 : W.cell? ⟨w.heap.size, 1, none⟩ = some (.slice a n c) := by rw [hW]; exact alloc_keeps (pair1 w _ _ _) _
  have q0 : W.heap[w.heap.size + 1]? = some (.cells #[.int .i64 0, .slice none 0 0] 26 (0, 0)) := by
    rw [hW]
    have := heap_alloc_new (w.alloc (.cells #[.int .i64 p, .slice a n c] 26)) (.cells #[.int .i64 0, .slice none 0 0] 26)
    rwa [World.size_alloc] at this
  have e0 : W.cell? ⟨w.heap.size + 1, 0, none⟩ = some (.int .i64 0) := by rw [cell_of_row _ _ 0 _ _ (0, 0) q0]; rfl
  have e1 : W.cell? ⟨w.heap.size + 1, 1, none⟩ = some (.slice none 0 0) := by rw [cell_of_row _ _ 1 _ _ (0, 0) q0]; rfl
  have f0 : W.frozen? ⟨w.heap.size + 1, 0, none⟩ = false := frozen_of_row _ _ 0 _ _ q0
  have f1 : W.frozen? ⟨w.heap.size + 1, 1, none⟩ = false := frozen_of_row _ _ 1 _ _ q0
  have HA := ha.below B0
  clear ha q0
  go_enter Try.func22, Try.ntmps22
  go_wp2_with fail
  rw [← hW]
  clear hW
  refine (implScaleTable _ _ _ ts _ _ _ hz hn HA).mono ?_
  rintro e w1 ⟨⟨r1, m1, d1, cells1, rfl, ho1⟩, hb1⟩
  have g0 := cell_later hb1 e0
  have g1 := cell_later hb1 e1
  have k0 := frozen_later hb1 e0 f0
  have k1 := frozen_later hb1 e1 f1
  have B1 := B0.trans (hb1.mono B0.size)
  have zR : w.heap.size + 1 < W.heap.size := by omega
  clear e0 e1 f0 f1 hb1
  go_wp2
  refine bodyPost_ret (v := .tuple #[.agg #[.int .i64 _, .slice r1 m1 d1], .bool _]) (by simp [results, Try.results22, go_sem, g0, g1]) rfl ⟨⟨r1, m1, d1, cells1, rfl, ho1.stored zR (by omega) _ _⟩, ?_⟩
  exact (B1.setCell (by show w.heap.size ≤ w.heap.size + 1; omega) _).setCell (by show w.heap.size ≤ w.heap.size + 1; omega) _

set_option maxHeartbeats 4000000 in
theorem implEmptyTable (p : Int) (w : World) :
    Calls Try.prog 26 #[.int .i64 p] w fun e w' => TabAns e w' w.heap.size (newB p []) p (putAll [] []) ∧ Below w.heap.size w w' := by
  obtain ⟨W, hW⟩ : ∃ W, W = w.alloc (.cells #[.int .i64 0, .slice none 0 0] 26) := ⟨_, rfl⟩
  have zW : W.heap.size = w.heap.size + 1 := by rw [hW]; simp
  have B0 : Below w.heap.size w W := by rw [hW]; exact (Below.refl _ _).alloc (Nat.le_refl _) _
  have q0 : W.heap[w.heap.size]? = some (.cells #[.int .i64 0, .slice none 0 0] 26 (0, 0)) := by rw [hW]; exact heap_alloc_new w _
  have e0 : W.cell? ⟨w.heap.size, 0, none⟩ = some (.int .i64 0) := by rw [cell_of_row _ _ 0 _ _ (0, 0) q0]; rfl
  have e1 : W.cell? ⟨w.heap.size, 1, none⟩ = some (.slice none 0 0) := by rw [cell_of_row _ _ 1 _ _ (0, 0) q0]; rfl
  have f0 : W.frozen? ⟨w.heap.size, 0, none⟩ = false := frozen_of_row _ _ 0 _ _ q0
  have f1 : W.frozen? ⟨w.heap.size, 1, none⟩ = false := frozen_of_row _ _ 1 _ _ q0
  go_enter Try.func26, Try.ntmps26
  go_wp2_with fail
  rw [← hW]
  clear hW
  refine (implNewTable _ _ _ [] _ _ rfl (Nat.zero_le _) (AtW.nil _ _)).mono ?_
  rintro e w1 ⟨⟨r1, m1, d1, cells1, rfl, ho1⟩, hb1⟩
  have g0 := cell_later hb1 e0
  have g1 := cell_later hb1 e1
  have k0 := frozen_later hb1 e0 f0
  have k1 := frozen_later hb1 e1 f1
  have B1 := B0.trans (hb1.mono B0.size)
  have zR : w.heap.size < W.heap.size := by omega
  clear e0 e1 f0 f1 hb1
  go_wp2
  refine bodyPost_ret (v := .tuple #[.agg #[.int .i64 _, .slice r1 m1 d1], .bool _]) (by simp [results, Try.results26, go_sem, g0, g1]) rfl ⟨⟨r1, m1, d1, cells1, rfl, ho1.stored zR (by omega) _ _⟩, ?_⟩
  exact (B1.setCell (by show w.heap.size ≤ w.heap.size; omega) _).setCell (by show w.heap.size ≤ w.heap.size; omega) _
end Go.Proofs.Ytogokgegkakmbaa
