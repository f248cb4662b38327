/- Several texts of one proof, in build order: RollP, GtP. -/
import Derived.Test.YtlfljfmhhnoinabM10
import Derived.Test.YtlfljfmhhnoinabM3
import Derived.Test.YtlfljfmhhnoinabM7

/- Plain: groups rolled up, their totals. -/
namespace Go.Proofs.Ytlfljfmhhnoinab

/-- Numbers that may be the keys' cells'. -/
def colsUp (cols : List Int) (ts : List GRow) : Bool := decide (cols.length ≤ 6) && cols.all fun k => decide (0 ≤ k) && (decide (ts = []) || decide (k < keyN ts))
/-- Numbers from 0 on, at most six. -/
def mayPick (cols : List Int) : Bool := decide (cols.length ≤ 6) && cols.all fun k => decide (0 ≤ k)
def rolled (ts : List GRow) (cols : List Int) : List GRow := ts.map fun g => (pick g.1 cols, g.2)
def rollL (ts : List GRow) (cols : List Int) : List GRow := putAllV [] (rolled ts cols)
def rollB (ts : List GRow) (cols : List Int) : Bool := goodV ts && (colsUp cols ts && goodV (rollL ts cols))

theorem rolled_length (ts : List GRow) (cols : List Int) : (rolled ts cols).length = ts.length := by simp [rolled]
theorem rolled_at (ts : List GRow) (cols : List Int) (k : Nat) (h : k < ts.length) : gat (rolled ts cols) k = (pick (gat ts k).1 cols, (gat ts k).2) := by
  simp [rolled, gat, List.getD, h]
theorem rollB_good {ts : List GRow} {cols : List Int} (h : goodV ts = false) : rollB ts cols = false := by simp [rollB, h]
theorem rollB_cols {ts : List GRow} {cols : List Int} (h : colsUp cols ts = false) : rollB ts cols = false := by simp [rollB, h]
theorem rollB_yes {ts : List GRow} {cols : List Int} (h1 : goodV ts = true) (h2 : colsUp cols ts = true) : rollB ts cols = goodV (rollL ts cols) := by simp [rollB, h1, h2]
theorem rollB_goodV {ts : List GRow} {cols : List Int} (h : rollB ts cols = true) : goodV (rollL ts cols) = true := by
  simp only [rollB, Bool.and_eq_true] at h; exact h.2.2
theorem colsUp_may {ts : List GRow} {cols : List Int} (h : mayPick cols = false) : colsUp cols ts = false := by
  cases hg : colsUp cols ts with
  | false => rfl
  | true =>
    simp only [colsUp, Bool.and_eq_true, decide_eq_true_eq, List.all_eq_true] at hg
    have : mayPick cols = true := by
      simp only [mayPick, Bool.and_eq_true, decide_eq_true_eq, List.all_eq_true]
      exact ⟨hg.1, fun k hk => (hg.2 k hk).1⟩
    rw [this] at h; cases h
theorem colsUp_ok {ts : List GRow} {cols : List Int} (h : colsUp cols ts = true) (hne : ts ≠ []) : colsOk cols (keyN ts) = true := by
  simp only [colsUp, Bool.and_eq_true, decide_eq_true_eq, List.all_eq_true, Bool.or_eq_true] at h
  simp only [colsOk, colIn, Bool.and_eq_true, decide_eq_true_eq, List.all_eq_true]
  refine ⟨h.1, fun k hk => ?_⟩
  obtain ⟨h1, h2⟩ := h.2 k hk
  rcases h2 with h2 | h2
  · exact absurd h2 hne
  · exact ⟨h1, h2⟩
theorem colsUp_of {ts : List GRow} {cols : List Int} (h : mayPick cols = true) (h2 : ts ≠ [] → colsOk cols (keyN ts) = true) : colsUp cols ts = true := by
  simp only [mayPick, Bool.and_eq_true, decide_eq_true_eq, List.all_eq_true] at h
  simp only [colsUp, Bool.and_eq_true, decide_eq_true_eq, List.all_eq_true, Bool.or_eq_true]
  refine ⟨h.1, fun k hk => ⟨h.2 k hk, ?_⟩⟩
  by_cases e : ts = []
  · exact .inl e
  · right
    have := h2 e
    simp only [colsOk, colIn, Bool.and_eq_true, decide_eq_true_eq, List.all_eq_true] at this
    exact (this.2 k hk).2
theorem colsUp_not {ts : List GRow} {cols : List Int} (hne : ts ≠ []) (h : colsOk cols (keyN ts) = false) : colsUp cols ts = false := by
  cases hg : colsUp cols ts with
  | false => rfl
  | true => rw [colsUp_ok hg hne] at h; cases h
theorem colsUp_len {ts : List GRow} {cols : List Int} (h : colsUp cols ts = true) : cols.length ≤ 6 := by
  simp only [colsUp, Bool.and_eq_true, decide_eq_true_eq] at h; exact h.1

/-- A good group's parts. -/
theorem goodV_at {ts : List GRow} (h : goodV ts = true) (k : Nat) (hk : k < ts.length) : good (gat ts k).1 = true ∧ (gat ts k).1.length = keyN ts ∧ InA 100000000000000 (gat ts k).2 ∧ (gat ts k).2 ≠ (0, 0) := by
  obtain ⟨h1, h2, h3, h4, h5⟩ := goodG_cells (stepV_good ((goodV_parts h).2 k hk))
  have i1 := ins_range h3
  have i2 := ins_range h4
  refine ⟨h1, h2, ⟨i1.1, i1.2, i2.1, i2.2⟩, fun e => ?_⟩
  rw [e] at h5
  simp [nought] at h5
theorem goodV_mem {ts : List GRow} (h : goodV ts = true) : ∀ t ∈ ts, good t.1 = true ∧ t.1.length = keyN ts ∧ InA 100000000000000 t.2 ∧ t.2 ≠ (0, 0) := fun t ht => by
  obtain ⟨k, hk, rfl⟩ := List.getElem_of_mem ht
  have := goodV_at h k hk
  rwa [show gat ts k = ts[k] by simp [gat, List.getD, hk]] at this
theorem goodV_noZero {ts : List GRow} (h : goodV ts = true) : NoZeroV ts := fun t ht => (goodV_mem h t ht).2.2.2
theorem pick_good {zs cols : List Int} {n : Nat} (hg : good zs = true) (hl : zs.length = n) (hc : colsOk cols n = true) : good (pick zs cols) = true ∧ (pick zs cols).length = cols.length := by
  have hl' : (pick zs cols).length = cols.length := by simp [pick]
  refine ⟨good_of (by rw [hl']; exact colsOk_len hc) fun k hk => ?_, hl'⟩
  rw [hl'] at hk
  have h1 := colsOk_at hc k hk
  have e : (pick zs cols).getD k 0 = zs.getD (cols.getD k 0).toNat 0 := by simp [pick, List.getD, hk]
  rw [e]
  exact good_cell hg _ (by omega)
theorem rolled_mem {ts : List GRow} {cols : List Int} (h : goodV ts = true) (hc : ts ≠ [] → colsOk cols (keyN ts) = true) : ∀ t ∈ rolled ts cols, good t.1 = true ∧ t.1.length = cols.length ∧ InA 100000000000000 t.2 := fun t ht => by
  obtain ⟨s, hs, rfl⟩ := List.mem_map.1 ht
  obtain ⟨h1, h2, h3, _⟩ := goodV_mem h s hs
  have hne : ts ≠ [] := fun e => by rw [e] at hs; cases hs
  have := pick_good h1 h2 (hc hne)
  exact ⟨this.1, this.2, h3⟩
/-- What putting some of them makes lies within a bound. -/
theorem putAllV_in {l : List GRow} {M : Int} (hM : 0 ≤ M) (h : ∀ t ∈ l, InA M t.2) : ∀ t ∈ putAllV [] l, InA (M * l.length) t.2 := fun t ht => by
  have hr := putAllV_rises (l := l) (ts := []) List.Pairwise.nil
  have := vOf_mem hr ht
  rw [← this, putAllV_vOf _ List.Pairwise.nil, vOf_nil, zero_addA]
  exact sumV_bound hM h
theorem take_in {l : List GRow} {M : Int} (hM : 0 ≤ M) (h : ∀ t ∈ l, InA M t.2) (k n : Nat) (hk : k ≤ n) : ∀ t ∈ putAllV [] (l.take k), InA (M * n) t.2 := fun t ht => by
  refine (putAllV_in hM (fun t ht => h t (List.mem_of_mem_take ht)) t ht).mono (Int.mul_le_mul_of_nonneg_left ?_ hM)
  rw [List.length_take]
  omega
theorem putAllV_six {l : List GRow} (h : ∀ t ∈ l, good t.1 = true) : ∀ t ∈ putAllV [] l, t.1.length ≤ 6 := fun t ht => by
  rcases putAllV_rows ht with ⟨s, hs, _⟩ | ⟨s, hs, e⟩
  · cases hs
  · rw [← e]; exact good_len (h s hs)

/-- All numbers together. -/
def totalV (ts : List GRow) : Amt := ts.foldl (fun acc t => addA acc t.2) (0, 0)
def totB (ts : List GRow) : Bool := goodV ts && (ins (totalV ts).1 && ins (totalV ts).2)
theorem totalV_snoc (ts : List GRow) (t : GRow) : totalV (ts ++ [t]) = addA (totalV ts) t.2 := by unfold totalV; rw [List.foldl_append]; rfl
theorem totalV_take (ts : List GRow) (k : Nat) (h : k < ts.length) : totalV (ts.take (k + 1)) = addA (totalV (ts.take k)) (gat ts k).2 := by rw [vtake_succ ts k h, totalV_snoc]
theorem totalV_in {ts : List GRow} {M : Int} (h : ∀ t ∈ ts, InA M t.2) : InA (M * ts.length) (totalV ts) := by
  have : ∀ k, k ≤ ts.length → InA (M * k) (totalV (ts.take k)) := by
    intro k hk
    induction k with
    | zero => simpa [totalV] using inA_zero (Int.le_refl 0)
    | succ k ih =>
      rw [totalV_take ts k (by omega)]
      have := (ih (by omega)).add (h _ (gat_mem (show k < ts.length by omega)))
      rw [show M * ((k + 1 : Nat) : Int) = M * (k : Int) + M by push_cast; rw [Int.mul_add]; omega]
      exact this
  have h1 := this ts.length (Nat.le_refl _)
  rwa [List.take_of_length_le (Nat.le_refl _)] at h1
theorem oneV_put (x y : Amt) : putV (oneV [] x) [] y = oneV [] (addA x y) := by
  by_cases hx : x = (0, 0)
  · subst hx
    show restV [] y [] = _
    rw [zero_addA]; rfl
  · unfold oneV
    rw [if_neg hx]
    show (if cmp ([] : List Int) [] < 0 then _ else restV [] y [(([] : List Int), x)]) = _
    rw [if_neg (by decide)]
    simp only [restV, cmp, if_true]
    rw [List.append_nil, addA_comm]; rfl
theorem rollL_nil (ts : List GRow) : rollL ts [] = oneV [] (totalV ts) := by
  have : ∀ k, k ≤ ts.length → putAllV [] ((rolled ts []).take k) = oneV [] (totalV (ts.take k)) := by
    intro k hk
    induction k with
    | zero => rfl
    | succ k ih =>
      rw [putAllV_take _ _ k (by rw [rolled_length]; omega), ih (by omega), rolled_at ts [] k (by omega), totalV_take ts k (by omega)]
      exact oneV_put _ _
  have h1 := this ts.length (Nat.le_refl _)
  rw [List.take_of_length_le (by rw [rolled_length]; omega), List.take_of_length_le (Nat.le_refl _)] at h1
  exact h1
theorem goodV_one (x : Amt) : goodV (oneV [] x) = (ins x.1 && ins x.2) := by
  by_cases hx : x = (0, 0)
  · subst hx; rfl
  · unfold oneV
    rw [if_neg hx]
    obtain ⟨a, b⟩ := x
    have hn : nought a b = false := by
      simp only [nought, Bool.and_eq_false_iff, decide_eq_false_iff_not]
      by_cases ha : a = 0
      · right; intro hb; exact hx (by rw [ha, hb])
      · left; exact ha
    have hg : good ([] : List Int) = true := rfl
    simp [goodV, stepV, goodG, keyN, gat, hn, hg]
theorem totB_roll (ts : List GRow) : rollB ts [] = totB ts := by
  have : colsUp [] ts = true := by simp [colsUp]
  simp only [rollB, totB, this, Bool.true_and, rollL_nil, goodV_one]

end Go.Proofs.Ytlfljfmhhnoinab

/- Plain: the groups of a table. -/
namespace Go.Proofs.Ytlfljfmhhnoinab

def gtRows (ts : List WRow) (cols : List Int) (s : Nat) : List GRow := ts.map fun t => (pick t.1 cols, t.2, t.2 * t.1.getD s 0)
def gtL (ts : List WRow) (cols : List Int) (s : Nat) : List GRow := putAllV [] (gtRows ts cols s)
def gtB (p : Int) (ts : List WRow) (cols : List Int) (s : Int) : Bool := goodT p ts && (colsOk cols p.toNat && (decide (0 ≤ s) && (decide (s < p) && goodV (gtL ts cols s.toNat))))
theorem gtRows_length (ts : List WRow) (cols : List Int) (s : Nat) : (gtRows ts cols s).length = ts.length := by simp [gtRows]
theorem gtRows_at (ts : List WRow) (cols : List Int) (s k : Nat) (h : k < ts.length) : gat (gtRows ts cols s) k = (pick (wat ts k).1 cols, (wat ts k).2, (wat ts k).2 * (wat ts k).1.getD s 0) := by
  simp [gtRows, gat, wat, List.getD, h]
section
variable {p s : Int} {ts : List WRow} {cols : List Int}
theorem gtB_t (h : goodT p ts = false) : gtB p ts cols s = false := by simp [gtB, h]
theorem gtB_c (h : colsOk cols p.toNat = false) : gtB p ts cols s = false := by simp [gtB, h]
theorem gtB_0 (h : s < 0) : gtB p ts cols s = false := by
  have : decide (0 ≤ s) = false := by simp; omega
  simp [gtB, this]
theorem gtB_p (h : p ≤ s) : gtB p ts cols s = false := by
  have : decide (s < p) = false := by simp; omega
  simp [gtB, this]
theorem gtB_yes (h1 : goodT p ts = true) (h2 : colsOk cols p.toNat = true) (h3 : 0 ≤ s) (h4 : s < p) : gtB p ts cols s = goodV (gtL ts cols s.toNat) := by simp [gtB, h1, h2, h3, h4]
theorem gtB_goodV (h : gtB p ts cols s = true) : goodV (gtL ts cols s.toNat) = true := by simp only [gtB, Bool.and_eq_true] at h; exact h.2.2.2.2
end
theorem mul_cell {x z : Int} (h1 : -1000000 ≤ x) (h2 : x ≤ 1000000) (h3 : -100000 ≤ z) (h4 : z ≤ 100000) : -100000000000 ≤ x * z ∧ x * z ≤ 100000000000 := by
  have a1 : (x + 1000000) * (z + 100000) ≥ 0 := Int.mul_nonneg (by omega) (by omega)
  have a2 : (1000000 - x) * (100000 - z) ≥ 0 := Int.mul_nonneg (by omega) (by omega)
  have a3 : (x + 1000000) * (100000 - z) ≥ 0 := Int.mul_nonneg (by omega) (by omega)
  have a4 : (1000000 - x) * (z + 100000) ≥ 0 := Int.mul_nonneg (by omega) (by omega)
  simp only [Int.add_mul, Int.sub_mul, Int.mul_add, Int.mul_sub] at a1 a2 a3 a4
  omega
/-- One row's group. -/
theorem gt_at {q s : Nat} {ts : List WRow} {cols : List Int} (h : goodT q ts = true) (_ : colsOk cols q = true) (hs : s < q) (k : Nat) (hk : k < ts.length) :
    good (wat ts k).1 = true ∧ (wat ts k).1.length = q ∧ (-1000000 ≤ (wat ts k).2 ∧ (wat ts k).2 ≤ 1000000) ∧ (-100000 ≤ (wat ts k).1.getD s 0 ∧ (wat ts k).1.getD s 0 ≤ 100000) := by
  obtain ⟨h1, h2, h3, h4⟩ := goodW_cells (stepB_good ((goodT_parts h).2.2 k hk))
  have hl : (wat ts k).1.length = q := by omega
  exact ⟨h1, hl, ⟨h3, h4⟩, good_cell h1 s (by omega)⟩
theorem gtRows_mem {q s : Nat} {ts : List WRow} {cols : List Int} (h : goodT q ts = true) (hc : colsOk cols q = true) (hs : s < q) : ∀ t ∈ gtRows ts cols s, good t.1 = true ∧ t.1.length = cols.length ∧ InA 100000000000 t.2 := fun t ht => by
  obtain ⟨k, hk, rfl⟩ := List.getElem_of_mem ht
  rw [gtRows_length] at hk
  have e : (gtRows ts cols s)[k] = gat (gtRows ts cols s) k := by simp [gat, List.getD, gtRows_length, hk]
  rw [e, gtRows_at ts cols s k hk]
  obtain ⟨h1, h2, h3, h4⟩ := gt_at h hc hs k hk
  have hp := pick_good h1 h2 hc
  have hm := mul_cell h3.1 h3.2 h4.1 h4.2
  exact ⟨hp.1, hp.2, ⟨by show -100000000000 ≤ (wat ts k).2; omega, by show (wat ts k).2 ≤ 100000000000; omega, hm.1, hm.2⟩⟩
theorem good_noughts {q : Nat} (h : q ≤ 6) : good (List.replicate q (0 : Int)) = true := good_of (by simpa using h) fun k hk => by
  simp only [List.length_replicate] at hk
  simp [List.getD, hk]

end Go.Proofs.Ytlfljfmhhnoinab
