/- Contracts of impl.goodAlike, impl.AddTables, impl.ScaleTable, impl.NegateTable, impl.EmptyTable. -/
import Derived.Test.YtogokgegkakmbaaNewT
namespace Go.Proofs.Ytogokgegkakmbaa
open Go.RowKit Go.Maps

theorem alloc_keeps {w : World} {a : Addr} {v : Value} (h : w.cell? a = some v) (o : Obj) : (w.alloc o).cell? a = some v := cell_later ((Below.refl _ _).alloc (Nat.le_refl _) o) h
/-- Two good tables with as many columns. -/
def alike (p : Int) (ts : List WRow) (p' : Int) (ts' : List WRow) : Bool := goodT p ts && (goodT p' ts' && decide (p = p'))

set_option maxHeartbeats 2000000 in
theorem goodAlike_any (a a' : Option Addr) (n n' c c' : Nat) (ts ts' : List WRow) (p p' : Int) (w : World) (hz : ts.length = n) (hz' : ts'.length = n') (hn : n ≤ 1048576) (hn' : n' ≤ 1048576) (ha : AtW w a ts) (ha' : AtW w a' ts') :
    Calls Try.prog 43 #[.agg #[.int .i64 p, .slice a n c], .agg #[.int .i64 p', .slice a' n' c']] w fun e w' => e = .returned (.bool (alike p ts p' ts')) ∧ Below w.heap.size w w' := by
  obtain ⟨W, hW⟩ : ∃ W, W = (w.alloc (.cells #[.int .i64 p, .slice a n c] 26)).alloc (.cells #[.int .i64 p', .slice a' n' c'] 26) := ⟨_, rfl⟩
  have B0 : Below w.heap.size w W := by rw [hW]; exact ((Below.refl _ _).alloc (Nat.le_refl _) _).alloc (by simp) _
  have c0 : W.cell? ⟨w.heap.size, 0, none⟩ = some (.int .i64 p) := by rw [hW]; simp
  have c1 : W.cell? ⟨w.heap.size, 1, none⟩ = some (.slice a n c) := by rw [hW]; simp
  have b0 : W.cell? ⟨w.heap.size + 1, 0, none⟩ = some (.int .i64 p') := by rw [hW]; simp
  have b1 : W.cell? ⟨w.heap.size + 1, 1, none⟩ = some (.slice a' n' c') := by rw [hW]; simp
  have HA := ha.below B0
  have HA' := ha'.below B0
  clear ha ha'
  cases hg : goodT p ts with
  | false =>
    have HG := Hid.mk hg
    clear hg
    go_enter Try.func43, Try.ntmps43
    go_wp2_with fail
    rw [← hW]
    clear hW
    refine (implGoodTable_any _ _ _ ts _ _ hz hn HA).mono ?_
    rintro e w1 ⟨rfl, hb1⟩
    rw [HG.out]
    go_wp2
    go_ret
    exact ⟨ret_bool (by simp [alike, HG.out]), B0.trans (hb1.mono B0.size)⟩
  | true =>
    have HG := Hid.mk hg
    clear hg
    cases hg' : goodT p' ts' with
    | false =>
      have HG' := Hid.mk hg'
      clear hg'
      go_enter Try.func43, Try.ntmps43
      go_wp2_with fail
      rw [← hW]
      clear hW
      refine (implGoodTable_any _ _ _ ts _ _ hz hn HA).mono ?_
      rintro e w1 ⟨rfl, hb1⟩
      rw [HG.out]
      have b0 := cell_later hb1 b0
      have b1 := cell_later hb1 b1
      go_wp2_with fail
      refine (implGoodTable_any _ _ _ ts' _ _ hz' hn' (HA'.below hb1)).mono ?_
      rintro e w2 ⟨rfl, hb2⟩
      rw [HG'.out]
      have B1 := B0.trans (hb1.mono B0.size)
      go_wp2
      go_ret
      exact ⟨ret_bool (by simp [alike, HG.out, HG'.out]), B1.trans (hb2.mono B1.size)⟩
    | true =>
      have HG' := Hid.mk hg'
      clear hg'
      go_enter Try.func43, Try.ntmps43
      go_wp2_with fail
      rw [← hW]
      clear hW
      refine (implGoodTable_any _ _ _ ts _ _ hz hn HA).mono ?_
      rintro e w1 ⟨rfl, hb1⟩
      rw [HG.out]
      have b1 := cell_later hb1 b1
      have c0 := cell_later hb1 c0
      have b0 := cell_later hb1 b0
      go_wp2_with fail
      refine (implGoodTable_any _ _ _ ts' _ _ hz' hn' (HA'.below hb1)).mono ?_
      rintro e w2 ⟨rfl, hb2⟩
      rw [HG'.out]
      have c0 := cell_later hb2 c0
      have b0 := cell_later hb2 b0
      have B1 := B0.trans (hb1.mono B0.size)
      go_wp2
      go_ret
      exact ⟨ret_bool (by show _ = (goodT p ts && (goodT p' ts' && decide (p = p'))); rw [HG.out, HG'.out]; rfl), B1.trans (hb2.mono B1.size)⟩

/-- What AddTables tells. -/
def addB (p : Int) (ts : List WRow) (p' : Int) (ts' : List WRow) : Bool := alike p ts p' ts' && goodT p (putAll ts ts')
theorem addB_no {p : Int} {ts : List WRow} {p' : Int} {ts' : List WRow} (h : alike p ts p' ts' = false) : addB p ts p' ts' = false := by simp [addB, h]
theorem addB_yes {p : Int} {ts : List WRow} {p' : Int} {ts' : List WRow} (h : alike p ts p' ts' = true) : addB p ts p' ts' = goodT p (putAll ts ts') := by simp [addB, h]
theorem alike_parts {p : Int} {ts : List WRow} {p' : Int} {ts' : List WRow} (h : alike p ts p' ts' = true) : goodT p ts = true ∧ goodT p' ts' = true ∧ p = p' := by
  simpa [alike] using h
theorem goodT_noZero {p : Int} {ts : List WRow} (h : goodT p ts = true) : NoZero ts := fun t ht => by
  obtain ⟨k, hk, rfl⟩ := List.getElem_of_mem ht
  have := (goodT_parts h).2.2 k hk
  simp only [stepB, Bool.and_eq_true, Bool.not_eq_true', decide_eq_false_iff_not] at this
  have e : wat ts k = ts[k] := by simp [wat, List.getD, hk]
  rw [e] at this
  exact this.2.1
theorem goodT_len60 {p : Int} {ts : List WRow} (h : goodT p ts = true) : ts.length ≤ 60 := (goodT_parts h).2.1
theorem goodT_cells {p : Int} {ts : List WRow} (h : goodT p ts = true) (k : Nat) (hk : k < ts.length) : good (wat ts k).1 = true ∧ -1000000 ≤ (wat ts k).2 ∧ (wat ts k).2 ≤ 1000000 := by
  have := goodW_cells (goodL_at (goodL_of_goodT h) k hk)
  exact ⟨this.1, this.2.2⟩
theorem goodT_mem {q : Nat} {ts : List WRow} (h : goodT q ts = true) : ∀ t ∈ ts, good t.1 = true ∧ t.1.length = q := fun t ht => by
  have := goodL_mem (goodL_of_goodT h) t ht
  exact ⟨this.1, by omega⟩
theorem sumAt_bound {ts : List WRow} {p : Int} (h : goodT p ts = true) {n : Nat} (hn : ts.length = n) (x : List Int) : -1000000000000 ≤ sumAt ts n 1 x ∧ sumAt ts n 1 x ≤ 1000000000000 := by
  have h60 := goodT_len60 h
  have key : ∀ k, k ≤ n → -1000000 * (k : Int) ≤ sumAt ts k 1 x ∧ sumAt ts k 1 x ≤ 1000000 * (k : Int) := by
    intro k hk
    induction k with
    | zero => simp [sumAt_zero]
    | succ k ih =>
      have hi := ih (by omega)
      have hg := goodT_cells h k (by omega)
      rw [sumAt_succ ts k 1 x (by omega)]
      by_cases e : raised (wat ts k).1 = x
      · rw [if_pos e]; push_cast; omega
      · rw [if_neg e]; push_cast; omega
  have := key n (Nat.le_refl _)
  omega
theorem tells_add {q n n' : Nat} {ts ts' : List WRow} (hz : ts.length = n) (hz' : ts'.length = n') (h : goodT q ts = true) (h' : goodT q ts' = true) : Tells q (fun x => sumAt ts n 1 x + sumAt ts' n' 1 x) (putAll ts ts') :=
  tells_put (goodT_rises h) (goodT_noZero h) (goodT_mem h) (goodT_mem h') fun zs h1 _ => by
    rw [sumAt_sumW hz 1 (fun t ht => (goodT_mem h t ht).1) h1, sumAt_sumW hz' 1 (fun t ht => (goodT_mem h' t ht).1) h1, sumW_rises (goodT_rises h)]; omega

set_option maxRecDepth 100000 in
set_option maxHeartbeats 4000000 in
theorem implAddTables (a a' : Option Addr) (n n' c c' : Nat) (ts ts' : List WRow) (p p' : Int) (w : World) (hz : ts.length = n) (hz' : ts'.length = n') (hn : n ≤ 1048576) (hn' : n' ≤ 1048576) (ha : AtW w a ts) (ha' : AtW w a' ts') :
    Calls Try.prog 20 #[.agg #[.int .i64 p, .slice a n c], .agg #[.int .i64 p', .slice a' n' c']] w fun e w' => TabAns e w' w.heap.size (addB p ts p' ts') p (putAll ts ts') ∧ Below w.heap.size w w' := by
  obtain ⟨W, hW⟩ : ∃ W, W = ((w.alloc (.cells #[.int .i64 p, .slice a n c] 26)).alloc (.cells #[.int .i64 p', .slice a' n' c'] 26)).alloc (.cells #[.int .i64 0, .slice none 0 0] 26) := ⟨_, rfl⟩
  have zW : W.heap.size = w.heap.size + 1 + 1 + 1 := by rw [hW]; simp
  have B0 : Below w.heap.size w W := by rw [hW]; exact (((Below.refl _ _).alloc (Nat.le_refl _) _).alloc (by simp) _).alloc (by simp; omega) _
  have c0 : W.cell? ⟨w.heap.size, 0, none⟩ = some (.int .i64 p) := by rw [hW]; exact alloc_keeps (alloc_keeps (pair0 w _ _ _) _) _
  have c1 : W.cell? ⟨w.heap.size, 1, none⟩ = some (.slice a n c) := by rw [hW]; exact alloc_keeps (alloc_keeps (pair1 w _ _ _) _) _
  have b1 : W.cell? ⟨w.heap.size + 1, 1, none⟩ = some (.slice a' n' c') := by rw [hW]; refine alloc_keeps ?_ _; have := pair1 (w.alloc (.cells #[.int .i64 p, .slice a n c] 26)) (.int .i64 p') (.slice a' n' c') 26; rwa [World.size_alloc] at this
  have b0 : W.cell? ⟨w.heap.size + 1, 0, none⟩ = some (.int .i64 p') := by rw [hW]; refine alloc_keeps ?_ _; have := pair0 (w.alloc (.cells #[.int .i64 p, .slice a n c] 26)) (.int .i64 p') (.slice a' n' c') 26; rwa [World.size_alloc] at this
  have q0 : W.heap[w.heap.size + 1 + 1]? = some (.cells #[.int .i64 0, .slice none 0 0] 26 (0, 0)) := by
    rw [hW]
    have := heap_alloc_new ((w.alloc (.cells #[.int .i64 p, .slice a n c] 26)).alloc (.cells #[.int .i64 p', .slice a' n' c'] 26)) (.cells #[.int .i64 0, .slice none 0 0] 26)
    rwa [World.size_alloc, World.size_alloc] at this

  have e0 : W.cell? ⟨w.heap.size + 1 + 1, 0, none⟩ = some (.int .i64 0) := by rw [cell_of_row _ _ 0 _ _ (0, 0) q0]; rfl
  have e1 : W.cell? ⟨w.heap.size + 1 + 1, 1, none⟩ = some (.slice none 0 0) := by rw [cell_of_row _ _ 1 _ _ (0, 0) q0]; rfl
  have f0 : W.frozen? ⟨w.heap.size + 1 + 1, 0, none⟩ = false := frozen_of_row _ _ 0 _ _ q0
  have f1 : W.frozen? ⟨w.heap.size + 1 + 1, 1, none⟩ = false := frozen_of_row _ _ 1 _ _ q0
  have HA := ha.below B0
  have HA' := ha'.below B0
  clear ha ha' q0
  go_enter Try.func20, Try.ntmps20
  go_wp2_with fail
  rw [← hW]
  clear hW
  refine (goodAlike_any _ _ _ _ _ _ ts ts' _ _ _ hz hz' hn hn' HA HA').mono ?_
  rintro e w1 ⟨rfl, hb1⟩
  have B1 := B0.trans (hb1.mono B0.size)
  have g0 := cell_later hb1 e0
  have g1 := cell_later hb1 e1
  have k0 := frozen_later hb1 e0 f0
  have k1 := frozen_later hb1 e1 f1
  have c0 := cell_later hb1 c0
  have c1 := cell_later hb1 c1
  have b1 := cell_later hb1 b1
  have HA := HA.below hb1
  have HA' := HA'.below hb1
  clear e0 e1 f0 f1 b0 hb1
  cases hal : alike p ts p' ts' with
  | false =>
    have HL := Hid.mk hal
    clear hal
    go_wp2
    refine bodyPost_ret (v := .tuple #[.agg #[.int .i64 0, .slice none 0 0], .bool false]) (by simp [results, Try.results20, go_sem, g0, g1]) rfl ⟨TabAns.zero (addB_no HL.out) rfl, ?_⟩
    exact (B1.setCell (by show w.heap.size ≤ w.heap.size + 1 + 1; omega) _).setCell (by show w.heap.size ≤ w.heap.size + 1 + 1; omega) _
  | true =>
    have HL := Hid.mk hal
    obtain ⟨hg, hg', rfl⟩ := alike_parts hal
    obtain ⟨q, hq⟩ : ∃ q : Nat, p = q := ⟨p.toNat, by have := inc_range (goodT_parts hg).1; omega⟩
    subst hq
    have h6 : q ≤ 6 := by have := inc_range (goodT_parts hg).1; omega
    have n60 := goodT_len60 hg
    have n60' := goodT_len60 hg'
    have HGC := Hid.mk hg
    have HGC' := Hid.mk hg'
    clear hal hg hg'
    go_wp2_with fail
    refine (sumsOf_any _ _ _ ts _ _ hz (by omega) (by decide) (by decide) (fun k hk => goodT_cells HGC.out k (by omega)) HA).mono ?_
    rintro e w2 ⟨b, D, rfl, hbb, ho2, hm2, hb2⟩
    have B2 := B1.trans (hb2.mono B1.size)
    have g0 := cell_later hb2 g0
    have k0 := frozen_later hb2 (by assumption) k0
    have k1 := frozen_later hb2 g1 k1
    have g1 := cell_later hb2 g1
    have c0 := cell_later hb2 c0
    have b1 := cell_later hb2 b1
    have HA' := HA'.below hb2
    have z1 : w.heap.size + 1 + 1 < w1.heap.size := World.block_lt_of_cell? _ _ (by assumption : w1.cell? ⟨w.heap.size + 1 + 1, 1, none⟩ = _)
    go_wp2_with fail
    refine (add_any b n D _ _ _ _ _ ts' _ _ hz' (by omega) (by omega) (by decide) (by decide) (fun k hk => goodT_cells HGC'.out k (by omega)) (fun x => sumAt_bound HGC.out hz x) HA' ho2 hm2).mono ?_
    rintro e w3 ⟨rfl, D', ho3, hm3, hg3⟩
    have B3 := B2.grown hg3 B2.size (fun j hj => by cases hj; have := B1.size; omega)
    have kk0 : w3.frozen? ⟨w.heap.size + 1 + 1, 0, none⟩ = false := (World.frozen?_of_block (hg3.block (w.heap.size + 1 + 1) (by have := hb2.size; omega) (by simp; omega))).trans k0
    have kk1 : w3.frozen? ⟨w.heap.size + 1 + 1, 1, none⟩ = false := (World.frozen?_of_block (hg3.block (w.heap.size + 1 + 1) (by have := hb2.size; omega) (by simp; omega))).trans k1
    have g0 := hg3.cell g0 (by simp; omega)
    have g1 := hg3.cell g1 (by simp; omega)
    have c0 := hg3.cell c0 (by simp; omega)
    go_wp2_with fail
    refine (table_any b (n + n') D' _ _ q _ (by omega) h6 ho3 hm3 (keys_append (keys_list (goodL_of_goodT HGC'.out) _) (keys_list (goodL_of_goodT HGC.out) _))).mono ?_
    rintro e w4 ⟨us, ⟨r4, m4, d4, cells4, rfl, ho4⟩, hT, hb4⟩
    have hus : us = putAll ts ts' := hT.unique (tells_add hz hz' HGC.out HGC'.out)
    subst hus
    have B4 := B3.trans (hb4.mono B3.size)
    have s0 := cell_later hb4 g0
    have s1 := cell_later hb4 g1
    have i0 := frozen_later hb4 g0 kk0
    have i1 := frozen_later hb4 g1 kk1
    have z3 : w.heap.size + 1 + 1 < w3.heap.size := World.block_lt_of_cell? _ _ g0
    have HNB : Hid (addB q ts q ts' = goodT q (putAll ts ts')) := addB_yes HL.out
    clear c0 c1 b1 HA HA' ho2 hm2 ho3 hm3 hT hb2 hb4 hg3
    go_wp2
    refine bodyPost_ret (v := .tuple #[.agg #[.int .i64 (tellP q (putAll ts ts')), .slice r4 m4 d4], .bool (goodT q (putAll ts ts'))]) (by simp [results, Try.results20, go_sem, s0, s1]) rfl ⟨TabAns.tell HNB.out ⟨r4, m4, d4, cells4, rfl, ho4.stored z3 (by omega) _ _⟩, ?_⟩
    exact (B4.setCell (by show w.heap.size ≤ w.heap.size + 1 + 1; omega) _).setCell (by show w.heap.size ≤ w.heap.size + 1 + 1; omega) _

end Go.Proofs.Ytogokgegkakmbaa
