/- Several texts of one proof, in build order: RollP, GroundN, RowOf, GoodV. -/
import Derived.Test.YtlfljfmhhnoinaaM9
import Derived.Test.YtlfljfmhhnoinaaM7
import Derived.Test.YtlfljfmhhnoinaaM5
import Derived.Deep.AppendLies
import Derived.Deep.RegionLaw
import Derived.Laws.StructEq
import Derived.Test.YtlfljfmhhnoinaaM8

/- Plain: groups rolled up, their totals. -/
namespace Go.Proofs.Ytlfljfmhhnoinaa

/-- Numbers that may be the keys' cells'. -/
def colsUp (cols : List Int) (ts : List GRow) : Bool := decide (cols.length ≤ 6) && cols.all fun k => decide (0 ≤ k) && (decide (ts = []) || decide (k < keyN ts))
/-- Numbers from 0 on, at most six. -/
def mayPick (cols : List Int) : Bool := decide (cols.length ≤ 6) && cols.all fun k => decide (0 ≤ k)
def rolled (ts : List GRow) (cols : List Int) : List GRow := ts.map fun g => (pick g.1 cols, g.2)
def rollL (ts : List GRow) (cols : List Int) : List GRow := putAllV [] (rolled ts cols)
def rollB (ts : List GRow) (cols : List Int) : Bool := goodV ts && (colsUp cols ts && goodV (rollL ts cols))

theorem rolled_length (ts : List GRow) (cols : List Int) : (rolled ts cols).length = ts.length := by simp [rolled]
theorem rolled_at (ts : List GRow) (cols : List Int) (k : Nat) (h : k < ts.length) : gat (rolled ts cols) k = (pick (gat ts k).1 cols, (gat ts k).2) := by
  simp [rolled, gat, List.getD, h]
theorem rollB_good {ts : List GRow} {cols : List Int} (h : goodV ts = false) : rollB ts cols = false := by simp [rollB, h]
theorem rollB_cols {ts : List GRow} {cols : List Int} (h : colsUp cols ts = false) : rollB ts cols = false := by simp [rollB, h]
theorem rollB_yes {ts : List GRow} {cols : List Int} (h1 : goodV ts = true) (h2 : colsUp cols ts = true) : rollB ts cols = goodV (rollL ts cols) := by simp [rollB, h1, h2]
theorem rollB_goodV {ts : List GRow} {cols : List Int} (h : rollB ts cols = true) : goodV (rollL ts cols) = true := by
  simp only [rollB, Bool.and_eq_true] at h; exact h.2.2
theorem colsUp_may {ts : List GRow} {cols : List Int} (h : mayPick cols = false) : colsUp cols ts = false := by
  cases hg : colsUp cols ts with
  | false => rfl
  | true =>
    simp only [colsUp, Bool.and_eq_true, decide_eq_true_eq, List.all_eq_true] at hg
    have : mayPick cols = true := by
      simp only [mayPick, Bool.and_eq_true, decide_eq_true_eq, List.all_eq_true]
      exact ⟨hg.1, fun k hk => (hg.2 k hk).1⟩
    rw [this] at h; cases h
theorem colsUp_ok {ts : List GRow} {cols : List Int} (h : colsUp cols ts = true) (hne : ts ≠ []) : colsOk cols (keyN ts) = true := by
  simp only [colsUp, Bool.and_eq_true, decide_eq_true_eq, List.all_eq_true, Bool.or_eq_true] at h
  simp only [colsOk, colIn, Bool.and_eq_true, decide_eq_true_eq, List.all_eq_true]
  refine ⟨h.1, fun k hk => ?_⟩
  obtain ⟨h1, h2⟩ := h.2 k hk
  rcases h2 with h2 | h2
  · exact absurd h2 hne
  · exact ⟨h1, h2⟩
theorem colsUp_of {ts : List GRow} {cols : List Int} (h : mayPick cols = true) (h2 : ts ≠ [] → colsOk cols (keyN ts) = true) : colsUp cols ts = true := by
  simp only [mayPick, Bool.and_eq_true, decide_eq_true_eq, List.all_eq_true] at h
  simp only [colsUp, Bool.and_eq_true, decide_eq_true_eq, List.all_eq_true, Bool.or_eq_true]
  refine ⟨h.1, fun k hk => ⟨h.2 k hk, ?_⟩⟩
  by_cases e : ts = []
  · exact .inl e
  · right
    have := h2 e
    simp only [colsOk, colIn, Bool.and_eq_true, decide_eq_true_eq, List.all_eq_true] at this
    exact (this.2 k hk).2
theorem colsUp_not {ts : List GRow} {cols : List Int} (hne : ts ≠ []) (h : colsOk cols (keyN ts) = false) : colsUp cols ts = false := by
  cases hg : colsUp cols ts with
  | false => rfl
  | true => rw [colsUp_ok hg hne] at h; cases h
theorem colsUp_len {ts : List GRow} {cols : List Int} (h : colsUp cols ts = true) : cols.length ≤ 6 := by
  simp only [colsUp, Bool.and_eq_true, decide_eq_true_eq] at h; exact h.1

/-- A good group's parts. -/
theorem goodV_at {ts : List GRow} (h : goodV ts = true) (k : Nat) (hk : k < ts.length) : good (gat ts k).1 = true ∧ (gat ts k).1.length = keyN ts ∧ InA 100000000000000 (gat ts k).2 ∧ (gat ts k).2 ≠ (0, 0) := by
  obtain ⟨h1, h2, h3, h4, h5⟩ := goodG_cells (stepV_good ((goodV_parts h).2 k hk))
  have i1 := ins_range h3
  have i2 := ins_range h4
  refine ⟨h1, h2, ⟨i1.1, i1.2, i2.1, i2.2⟩, fun e => ?_⟩
  rw [e] at h5
  simp [nought] at h5
theorem goodV_mem {ts : List GRow} (h : goodV ts = true) : ∀ t ∈ ts, good t.1 = true ∧ t.1.length = keyN ts ∧ InA 100000000000000 t.2 ∧ t.2 ≠ (0, 0) := fun t ht => by
  obtain ⟨k, hk, rfl⟩ := List.getElem_of_mem ht
  have := goodV_at h k hk
  rwa [show gat ts k = ts[k] by simp [gat, List.getD, hk]] at this
theorem goodV_noZero {ts : List GRow} (h : goodV ts = true) : NoZeroV ts := fun t ht => (goodV_mem h t ht).2.2.2
theorem pick_good {zs cols : List Int} {n : Nat} (hg : good zs = true) (hl : zs.length = n) (hc : colsOk cols n = true) : good (pick zs cols) = true ∧ (pick zs cols).length = cols.length := by
  have hl' : (pick zs cols).length = cols.length := by simp [pick]
  refine ⟨good_of (by rw [hl']; exact colsOk_len hc) fun k hk => ?_, hl'⟩
  rw [hl'] at hk
  have h1 := colsOk_at hc k hk
  have e : (pick zs cols).getD k 0 = zs.getD (cols.getD k 0).toNat 0 := by simp [pick, List.getD, hk]
  rw [e]
  exact good_cell hg _ (by omega)
theorem rolled_mem {ts : List GRow} {cols : List Int} (h : goodV ts = true) (hc : ts ≠ [] → colsOk cols (keyN ts) = true) : ∀ t ∈ rolled ts cols, good t.1 = true ∧ t.1.length = cols.length ∧ InA 100000000000000 t.2 := fun t ht => by
  obtain ⟨s, hs, rfl⟩ := List.mem_map.1 ht
  obtain ⟨h1, h2, h3, _⟩ := goodV_mem h s hs
  have hne : ts ≠ [] := fun e => by rw [e] at hs; cases hs
  have := pick_good h1 h2 (hc hne)
  exact ⟨this.1, this.2, h3⟩
/-- What putting some of them makes lies within a bound. -/
theorem putAllV_in {l : List GRow} {M : Int} (hM : 0 ≤ M) (h : ∀ t ∈ l, InA M t.2) : ∀ t ∈ putAllV [] l, InA (M * l.length) t.2 := fun t ht => by
  have hr := putAllV_rises (l := l) (ts := []) List.Pairwise.nil
  have := vOf_mem hr ht
  rw [← this, putAllV_vOf _ List.Pairwise.nil, vOf_nil, zero_addA]
  exact sumV_bound hM h
theorem take_in {l : List GRow} {M : Int} (hM : 0 ≤ M) (h : ∀ t ∈ l, InA M t.2) (k n : Nat) (hk : k ≤ n) : ∀ t ∈ putAllV [] (l.take k), InA (M * n) t.2 := fun t ht => by
  refine (putAllV_in hM (fun t ht => h t (List.mem_of_mem_take ht)) t ht).mono (Int.mul_le_mul_of_nonneg_left ?_ hM)
  rw [List.length_take]
  omega
theorem putAllV_six {l : List GRow} (h : ∀ t ∈ l, good t.1 = true) : ∀ t ∈ putAllV [] l, t.1.length ≤ 6 := fun t ht => by
  rcases putAllV_rows ht with ⟨s, hs, _⟩ | ⟨s, hs, e⟩
  · cases hs
  · rw [← e]; exact good_len (h s hs)

/-- All numbers together. -/
def totalV (ts : List GRow) : Amt := ts.foldl (fun acc t => addA acc t.2) (0, 0)
def totB (ts : List GRow) : Bool := goodV ts && (ins (totalV ts).1 && ins (totalV ts).2)
theorem totalV_snoc (ts : List GRow) (t : GRow) : totalV (ts ++ [t]) = addA (totalV ts) t.2 := by unfold totalV; rw [List.foldl_append]; rfl
theorem totalV_take (ts : List GRow) (k : Nat) (h : k < ts.length) : totalV (ts.take (k + 1)) = addA (totalV (ts.take k)) (gat ts k).2 := by rw [vtake_succ ts k h, totalV_snoc]
theorem totalV_in {ts : List GRow} {M : Int} (h : ∀ t ∈ ts, InA M t.2) : InA (M * ts.length) (totalV ts) := by
  have : ∀ k, k ≤ ts.length → InA (M * k) (totalV (ts.take k)) := by
    intro k hk
    induction k with
    | zero => simpa [totalV] using inA_zero (Int.le_refl 0)
    | succ k ih =>
      rw [totalV_take ts k (by omega)]
      have := (ih (by omega)).add (h _ (gat_mem (show k < ts.length by omega)))
      rw [show M * ((k + 1 : Nat) : Int) = M * (k : Int) + M by push_cast; rw [Int.mul_add]; omega]
      exact this
  have h1 := this ts.length (Nat.le_refl _)
  rwa [List.take_of_length_le (Nat.le_refl _)] at h1
theorem oneV_put (x y : Amt) : putV (oneV [] x) [] y = oneV [] (addA x y) := by
  by_cases hx : x = (0, 0)
  · subst hx
    show restV [] y [] = _
    rw [zero_addA]; rfl
  · unfold oneV
    rw [if_neg hx]
    show (if cmp ([] : List Int) [] < 0 then _ else restV [] y [(([] : List Int), x)]) = _
    rw [if_neg (by decide)]
    simp only [restV, cmp, if_true]
    rw [List.append_nil, addA_comm]; rfl
theorem rollL_nil (ts : List GRow) : rollL ts [] = oneV [] (totalV ts) := by
  have : ∀ k, k ≤ ts.length → putAllV [] ((rolled ts []).take k) = oneV [] (totalV (ts.take k)) := by
    intro k hk
    induction k with
    | zero => rfl
    | succ k ih =>
      rw [putAllV_take _ _ k (by rw [rolled_length]; omega), ih (by omega), rolled_at ts [] k (by omega), totalV_take ts k (by omega)]
      exact oneV_put _ _
  have h1 := this ts.length (Nat.le_refl _)
  rw [List.take_of_length_le (by rw [rolled_length]; omega), List.take_of_length_le (Nat.le_refl _)] at h1
  exact h1
theorem goodV_one (x : Amt) : goodV (oneV [] x) = (ins x.1 && ins x.2) := by
  by_cases hx : x = (0, 0)
  · subst hx; rfl
  · unfold oneV
    rw [if_neg hx]
    obtain ⟨a, b⟩ := x
    have hn : nought a b = false := by
      simp only [nought, Bool.and_eq_false_iff, decide_eq_false_iff_not]
      by_cases ha : a = 0
      · right; intro hb; exact hx (by rw [ha, hb])
      · left; exact ha
    have hg : good ([] : List Int) = true := rfl
    simp [goodV, stepV, goodG, keyN, gat, hn, hg]
theorem totB_roll (ts : List GRow) : rollB ts [] = totB ts := by
  have : colsUp [] ts = true := by simp [colsUp]
  simp only [rollB, totB, this, Bool.true_and, rollL_nil, goodV_one]

end Go.Proofs.Ytlfljfmhhnoinaa

/- Cells that mean groups, whoever owns them. -/
namespace Go.Proofs.Ytlfljfmhhnoinaa
open Go.RowKit

/-- Cells that mean weighted rows. -/
def MeansN (w : World) : List Value → List GRow → Prop
  | [], [] => True
  | u :: v :: k :: cs, t :: ts => (∃ a c, u = .slice a t.1.length c ∧ (a = none → c = 0) ∧ At w a t.1) ∧ t.1.length ≤ 9223372036854775807 ∧ v = .int .i64 t.2.1 ∧ k = .int .i64 t.2.2 ∧ MeansN w cs ts
  | _, _ => False

theorem MeansN.nil (w : World) : MeansN w [] [] := trivial
theorem MeansN.one {w : World} {a : Option Addr} {zs : List Int} {n c : Nat} {x y : Int} (hn : zs.length = n) (h6 : n ≤ 9223372036854775807) (hnil : a = none → c = 0) (h : At w a zs) : MeansN w [.slice a n c, .int .i64 x, .int .i64 y] [(zs, x, y)] :=
  ⟨⟨a, c, by rw [hn], hnil, h⟩, by simp only [hn]; exact h6, rfl, rfl, trivial⟩

set_option linter.unusedVariables false in
theorem MeansN.length {w : World} : ∀ {cs : List Value} {ts : List GRow}, MeansN w cs ts → cs.length = ts.length * 3
  | [], [], _ => rfl
  | [], _ :: _, h => h.elim
  | [_], [], h => h.elim
  | [_, _], [], h => h.elim
  | [_], _ :: _, h => h.elim
  | [_, _], _ :: _, h => h.elim
  | _ :: _ :: _ :: _, [], h => h.elim
  | u :: v :: k' :: cs, t :: ts, ⟨_, _, _, _, h⟩ => by have := MeansN.length h; simp [this]; omega

set_option linter.unusedVariables false in
theorem MeansN.below {w w' : World} (hb : Below w.heap.size w w') : ∀ {cs : List Value} {ts : List GRow}, MeansN w cs ts → MeansN w' cs ts
  | [], [], _ => trivial
  | [], _ :: _, h => h.elim
  | [_], [], h => h.elim
  | [_, _], [], h => h.elim
  | [_], _ :: _, h => h.elim
  | [_, _], _ :: _, h => h.elim
  | _ :: _ :: _ :: _, [], h => h.elim
  | u :: v :: k' :: cs, t :: ts, ⟨⟨a, c, h1, h0, h2⟩, h3, h4, h4', h5⟩ => ⟨⟨a, c, h1, h0, h2.below hb⟩, h3, h4, h4', MeansN.below hb h5⟩

set_option linter.unusedVariables false in
theorem MeansN.append {w : World} : ∀ {cs cs' : List Value} {ts ts' : List GRow}, MeansN w cs ts → MeansN w cs' ts' → MeansN w (cs ++ cs') (ts ++ ts')
  | [], _, [], _, _, h => h
  | [], _, _ :: _, _, h, _ => h.elim
  | [_], _, [], _, h, _ => h.elim
  | [_, _], _, [], _, h, _ => h.elim
  | [_], _, _ :: _, _, h, _ => h.elim
  | [_, _], _, _ :: _, _, h, _ => h.elim
  | _ :: _ :: _ :: _, _, [], _, h, _ => h.elim
  | u :: v :: k' :: cs, cs', t :: ts, ts', ⟨h1, h2, h3, h3', h4⟩, h => ⟨h1, h2, h3, h3', MeansN.append h4 h⟩

set_option linter.unusedVariables false in
theorem MeansN.take {w : World} : ∀ {cs : List Value} {ts : List GRow} (k : Nat), MeansN w cs ts → MeansN w (cs.take (k * 3)) (ts.take k)
  | [], [], _, _ => by simp [MeansN]
  | [], _ :: _, _, h => h.elim
  | [_], [], _, h => h.elim
  | [_, _], [], _, h => h.elim
  | [_], _ :: _, _, h => h.elim
  | [_, _], _ :: _, _, h => h.elim
  | _ :: _ :: _ :: _, [], _, h => h.elim
  | u :: v :: k' :: cs, t :: ts, 0, _ => by simp [MeansN]
  | u :: v :: k' :: cs, t :: ts, k + 1, ⟨h1, h2, h3, h3', h4⟩ => by
    rw [show (k + 1) * 3 = k * 3 + 1 + 1 + 1 by omega]
    exact ⟨h1, h2, h3, h3', MeansN.take k h4⟩
set_option linter.unusedVariables false in
theorem MeansN.drop {w : World} : ∀ {cs : List Value} {ts : List GRow} (k : Nat), MeansN w cs ts → MeansN w (cs.drop (k * 3)) (ts.drop k)
  | [], [], _, _ => by simp [MeansN]
  | [], _ :: _, _, h => h.elim
  | [_], [], _, h => h.elim
  | [_, _], [], _, h => h.elim
  | [_], _ :: _, _, h => h.elim
  | [_, _], _ :: _, _, h => h.elim
  | _ :: _ :: _ :: _, [], _, h => h.elim
  | u :: v :: k' :: cs, t :: ts, 0, h => by simpa using h
  | u :: v :: k' :: cs, t :: ts, k + 1, ⟨h1, h2, h3, h3', h4⟩ => by
    rw [show (k + 1) * 3 = k * 3 + 1 + 1 + 1 by omega]
    exact MeansN.drop k h4

set_option linter.unusedVariables false in
theorem MeansN.at {w : World} : ∀ {cs : List Value} {ts : List GRow} (i : Nat), MeansN w cs ts → i < ts.length → ∃ a c, cs[i * 3]? = some (.slice a (gat ts i).1.length c) ∧ cs[i * 3 + 1]? = some (.int .i64 (gat ts i).2.1) ∧ cs[i * 3 + 2]? = some (.int .i64 (gat ts i).2.2) ∧ (gat ts i).1.length ≤ 9223372036854775807 ∧ (a = none → c = 0) ∧ At w a (gat ts i).1
  | [], [], _, _, h => by simp at h
  | [], _ :: _, _, h, _ => h.elim
  | [_], [], _, h, _ => h.elim
  | [_, _], [], _, h, _ => h.elim
  | [_], _ :: _, _, h, _ => h.elim
  | [_, _], _ :: _, _, h, _ => h.elim
  | _ :: _ :: _ :: _, [], _, h, _ => h.elim
  | u :: v :: k' :: cs, t :: ts, 0, ⟨⟨a, c, h1, h0, h2⟩, h3, h4, h4', _⟩, _ => ⟨a, c, by simp [gat, h1], by simp [gat, h4], by simp [gat, h4'], by simpa [gat] using h3, h0, by simpa [gat] using h2⟩
  | u :: v :: k' :: cs, t :: ts, i + 1, ⟨_, _, _, _, h5⟩, hi => by
    obtain ⟨a, c, k1, k2, k2', k3, k0, k4⟩ := MeansN.at i h5 (by simpa using hi)
    have e : gat (t :: ts) (i + 1) = gat ts i := by simp [gat]
    rw [e]
    refine ⟨a, c, ?_, ?_, ?_, k3, k0, k4⟩
    · rw [show (i + 1) * 3 = i * 3 + 1 + 1 + 1 by omega]; simpa using k1
    · rw [show (i + 1) * 3 + 1 = (i * 3 + 1) + 1 + 1 + 1 by omega]; simpa using k2
    · rw [show (i + 1) * 3 + 2 = (i * 3 + 2) + 1 + 1 + 1 by omega]; simpa using k2'

set_option linter.unusedVariables false in
theorem MeansN.oneCell {w : World} : ∀ {cs : List Value} {ts : List GRow}, MeansN w cs ts → ∀ u ∈ cs, u.oneCell' = true
  | [], [], _, _, h => by cases h
  | [], _ :: _, h, _, _ => h.elim
  | [_], [], h, _, _ => h.elim
  | [_, _], [], h, _, _ => h.elim
  | [_], _ :: _, h, _, _ => h.elim
  | [_, _], _ :: _, h, _, _ => h.elim
  | _ :: _ :: _ :: _, [], h, _, _ => h.elim
  | u :: v :: k' :: cs, t :: ts, ⟨⟨a, c, h1, _, _⟩, _, h4, h4', h5⟩, x, hx => by
    rcases List.mem_cons.1 hx with rfl | hx
    · subst h1; rfl
    · rcases List.mem_cons.1 hx with rfl | hx
      · subst h4; rfl
      · rcases List.mem_cons.1 hx with rfl | hx
        · subst h4'; rfl
        · exact MeansN.oneCell h5 x hx

theorem meansN_of {w : World} : ∀ {ts : List GRow} {cs : List Value}, cs.length = ts.length * 3 → (∀ i, i < ts.length → ∃ a c, cs[i * 3]? = some (.slice a (gat ts i).1.length c) ∧ cs[i * 3 + 1]? = some (.int .i64 (gat ts i).2.1) ∧ cs[i * 3 + 2]? = some (.int .i64 (gat ts i).2.2) ∧ (gat ts i).1.length ≤ 9223372036854775807 ∧ (a = none → c = 0) ∧ At w a (gat ts i).1) → MeansN w cs ts
  | [], [], _, _ => trivial
  | [], _ :: _, h, _ => by simp at h
  | _ :: _, [], h, _ => by simp at h
  | _ :: _, [_], h, _ => by simp at h; omega
  | _ :: _, [_, _], h, _ => by simp at h; omega
  | t :: ts, u :: v :: k' :: cs, hl, h => by
    obtain ⟨a, c, k1, k2, k2', k3, k0, k4⟩ := h 0 (by simp)
    have e : gat (t :: ts) 0 = t := by simp [gat]
    rw [e] at k1 k2 k2' k3 k4
    refine ⟨⟨a, c, by simpa using k1, k0, k4⟩, k3, by simpa using k2, by simpa using k2', meansN_of (by simp at hl; omega) fun i hi => ?_⟩
    obtain ⟨a, c, k1, k2, k2', k3, k0, k4⟩ := h (i + 1) (by simpa using hi)
    have e : gat (t :: ts) (i + 1) = gat ts i := by simp [gat]
    rw [e] at k1 k2 k2' k3 k4
    rw [show (i + 1) * 3 = i * 3 + 1 + 1 + 1 by omega] at k1 k2 k2'
    exact ⟨a, c, by simpa using k1, by simpa using k2, by simpa using k2', k3, k0, k4⟩

theorem MeansN.atV {w : World} {cs : List Value} {ts : List GRow} {b off : Nat} (h : MeansN w cs ts) (hc : ∀ j u, cs[j]? = some u → w.cell? ⟨b, off + j, none⟩ = some u) : AtV w (some ⟨b, off, none⟩) ts :=
  .inr ⟨b, off, rfl, fun i hi => by
    obtain ⟨a, c, k1, k2, k2', k3, _, k4⟩ := h.at i hi
    exact ⟨a, c, by rw [hc _ _ k1], by rw [show off + i * 3 + 1 = off + (i * 3 + 1) by omega, hc _ _ k2], by rw [show off + i * 3 + 2 = off + (i * 3 + 2) by omega, hc _ _ k2'], k3, k4⟩⟩

theorem MeansN.owned {w : World} {cs : List Value} {ts : List GRow} {base : Nat} {e : TypeId} {a : Option Addr} {n c : Nat} (h : MeansN w cs ts) (hn : ts.length = n) (ho : w.ownsRow base e 3 (.slice a n c) n cs) : AtV w a ts := by
  have hl := h.length
  rcases ho.2 with ⟨h', rfl⟩ | ⟨g, cap, cur, h', _⟩
  · left; exact List.eq_nil_of_length_eq_zero hn
  · simp only [Value.slice.injEq, true_and] at h'
    obtain ⟨rfl, rfl⟩ := h'
    refine h.atV fun j u hj => ?_
    have hj' := (List.getElem?_eq_some_iff.1 hj).1
    rw [Nat.zero_add, ho.cellAt j (by omega)]
    exact hj

/-- A slice of weighted rows as a model's function reads it: where a row's slice is nil it has no room. -/
def AtN (w : World) (a : Option Addr) (ts : List GRow) : Prop :=
  ts = [] ∨ ∃ b off cs, a = some ⟨b, off, none⟩ ∧ MeansN w cs ts ∧ ∀ j u, cs[j]? = some u → w.cell? ⟨b, off + j, none⟩ = some u

theorem AtN.atV {w : World} {a : Option Addr} {ts : List GRow} (h : AtN w a ts) : AtV w a ts := by
  rcases h with rfl | ⟨b, off, cs, rfl, hm, hc⟩
  · exact .inl rfl
  · exact hm.atV hc
theorem AtN.below {w w' : World} {a : Option Addr} {ts : List GRow} (h : AtN w a ts) (hb : Below w.heap.size w w') : AtN w' a ts := by
  rcases h with rfl | ⟨b, off, cs, rfl, hm, hc⟩
  · exact .inl rfl
  · exact .inr ⟨b, off, cs, rfl, hm.below hb, fun j u hj => cell_later hb (hc j u hj)⟩
theorem AtN.alloc {w : World} {a : Option Addr} {ts : List GRow} (h : AtN w a ts) (o : Obj) : AtN (w.alloc o) a ts := h.below ((Below.refl _ _).alloc (Nat.le_refl _) o)
theorem AtN.drew {w : World} {a : Option Addr} {ts : List GRow} (h : AtN w a ts) : AtN w.drew a ts := h.below (Below.refl _ _).drew
theorem atN_nil (w : World) (a : Option Addr) : AtN w a [] := .inl rfl
theorem MeansN.ownedN {w : World} {cs : List Value} {ts : List GRow} {base : Nat} {e : TypeId} {a : Option Addr} {n c : Nat} (h : MeansN w cs ts) (hn : ts.length = n) (ho : w.ownsRow base e 3 (.slice a n c) n cs) : AtN w a ts := by
  have hl := h.length
  rcases ho.2 with ⟨h', rfl⟩ | ⟨g, cap, cur, h', _⟩
  · left; exact List.eq_nil_of_length_eq_zero hn
  · simp only [Value.slice.injEq, true_and] at h'
    obtain ⟨rfl, rfl⟩ := h'
    refine .inr ⟨g, 0, cs, rfl, h, fun j u hj => ?_⟩
    have hj' := (List.getElem?_eq_some_iff.1 hj).1
    rw [Nat.zero_add, ho.cellAt j (by omega)]
    exact hj
theorem OwnVk.meansN {w : World} {lo hi : Nat} {te ti : TypeId} {a : Option Addr} {n c : Nat} {ts : List GRow} {cells : List Value} (h : OwnV w lo hi te ti a n c ts cells) (hs : ∀ i, i < n → (gat ts i).1.length ≤ 9223372036854775807) : MeansN w cells ts :=
  meansN_of (by rw [h.len]; exact h.outer.1) fun i hi => by
    rw [h.len] at hi
    obtain ⟨a', c', k1, k2, k2', k3⟩ := h.row i hi
    exact ⟨a', c', k1, k2, k2', hs i hi, owns_nil k3, At.owned k3⟩
theorem OwnVk.atN {w : World} {lo hi : Nat} {te ti : TypeId} {a : Option Addr} {n c : Nat} {ts : List GRow} {cells : List Value} (h : OwnV w lo hi te ti a n c ts cells) (hs : ∀ i, i < n → (gat ts i).1.length ≤ 9223372036854775807) : AtN w a ts :=
  (h.meansN hs).ownedN h.len h.outer
/-- One row of it. -/
theorem AtN.some {w : World} {a : Option Addr} {ts : List GRow} (h : AtN w a ts) (hp : 0 < ts.length) :
    ∃ b off, a = Option.some ⟨b, off, none⟩ ∧ ∀ i, i < ts.length → ∃ a' c', w.cell? ⟨b, off + i * 3, none⟩ = Option.some (.slice a' (gat ts i).1.length c') ∧ w.cell? ⟨b, off + i * 3 + 1, none⟩ = Option.some (.int .i64 (gat ts i).2.1) ∧ w.cell? ⟨b, off + i * 3 + 2, none⟩ = Option.some (.int .i64 (gat ts i).2.2) ∧
      (gat ts i).1.length ≤ 9223372036854775807 ∧ (a' = none → c' = 0) ∧ At w a' (gat ts i).1 := by
  rcases h with rfl | ⟨b, off, cs, rfl, hm, hc⟩
  · simp at hp
  · refine ⟨b, off, rfl, fun i hi => ?_⟩
    obtain ⟨a', c', k1, k2, k2', k3, k0, k4⟩ := hm.at i hi
    exact ⟨a', c', hc _ _ k1, by rw [show off + i * 3 + 1 = off + (i * 3 + 1) by omega]; exact hc _ _ k2, by rw [show off + i * 3 + 2 = off + (i * 3 + 2) by omega]; exact hc _ _ k2', k3, k0, k4⟩

end Go.Proofs.Ytlfljfmhhnoinaa

/- Contract of impl.rowOf. -/
namespace Go.Proofs.Ytlfljfmhhnoinaa
open Go.RowKit

set_option maxHeartbeats 2000000 in
theorem rowOf_any (x0 x1 x2 x3 x4 x5 : Int) (zs : List Int) (n : Nat) (w : World) (hz : zs.length = n) (hg : good zs = true) (hr : raised zs = [x0, x1, x2, x3, x4, x5]) :
    Calls Try.prog 71 #[.agg #[.int .i64 x0, .int .i64 x1, .int .i64 x2, .int .i64 x3, .int .i64 x4, .int .i64 x5], .int .i64 n] w fun e w' => ∃ r d, e = .returned (.agg #[.slice r n d]) ∧
      w'.ownsRow w.heap.size 3 1 (.slice r n d) n (zs.map (.int .i64)) ∧ Below w.heap.size w w' := by
  have h6 : n ≤ 6 := by have := good_len hg; omega
  have HR := Hid.mk hr
  have HG := Hid.mk hg
  have HZ := Hid.mk hz
  clear hr hg hz
  have hn0 : (0 : Int) ≤ n := by omega
  have hn6 : (n : Int) ≤ 6 := by omega
  obtain ⟨i0, hi, hz0, hz1, hz2⟩ := info_parts Try.infoInt
  obtain ⟨W, hW⟩ : ∃ W, W = ((w.alloc (.cells #[.int .i64 x0, .int .i64 x1, .int .i64 x2, .int .i64 x3, .int .i64 x4, .int .i64 x5] 72)).alloc (.cells #[.slice none 0 0] 33)).alloc (.cells #[.slice none 0 0] 33) := ⟨_, rfl⟩
  have B : Below w.heap.size w W := by rw [hW]; exact (((Below.refl _ _).alloc (Nat.le_refl _) _).alloc (by simp) _).alloc (by simp; omega) _
  have A1 : Arr W w.heap.size 72 (raised zs) := by rw [hW, HR.out]; exact ((Arr.new rfl (by simp)).alloc _).alloc _
  have q1 : W.heap[w.heap.size + 1]? = some (.cells #[.slice none 0 0] 33 (0, 0)) := by
    rw [hW]
    refine (Below.heap_alloc _ _ _ (by simp)).trans ?_
    have := heap_alloc_new (w.alloc (.cells #[.int .i64 x0, .int .i64 x1, .int .i64 x2, .int .i64 x3, .int .i64 x4, .int .i64 x5] 72)) (.cells #[.slice none 0 0] 33)
    rwa [World.size_alloc] at this
  have c1 : W.cell? ⟨w.heap.size + 1, 0, none⟩ = some (.slice none 0 0) := by rw [cell_of_row W _ 0 _ _ (0, 0) q1]; rfl
  have f1 : W.frozen? ⟨w.heap.size + 1, 0, none⟩ = false := frozen_of_row W _ 0 _ _ q1
  clear q1
  have V0 : RowVar W (w.heap.size + 1 + 1) 33 (w.heap.size + 1 + 1 + 1) 3 none 0 0 (zs.take 0) := by rw [hW]; exact RowVar.new (by simp) (by omega)
  have zW : W.heap.size = w.heap.size + 1 + 1 + 1 := by rw [hW]; simp
  have hl6 := raised_length (good_len HG.out)
  go_enter Try.func71, Try.ntmps71
  go_wp2
  rw [← hW]
  clear hW
  go_loopw [11] (fun i wr => ∃ (k : Nat) (r : Option Addr) (d : Nat), k ≤ n ∧ i = .int .i64 k ∧ RowVar wr (w.heap.size + 1 + 1) 33 (w.heap.size + 1 + 1 + 1) 3 r k d (zs.take k) ∧ Below (w.heap.size + 1 + 1) W wr) (fun i _ => n - (intOf i).toNat)
  case atStart => exact ⟨0, none, 0, Nat.zero_le _, rfl, V0, Below.refl _ _⟩
  case round =>
    clear V0
    obtain ⟨k, r, d, hk, rfl, hv, hbw⟩ := hrel
    have zR : w.heap.size + 1 + 1 < wr.heap.size := by have := hbw.size; omega
    by_cases hlt : k < n
    · have hcx := (A1.below hbw (by omega)).cell k (by omega)
      have hgk := good_cell HG.out k (by have := HZ.out; omega)
      have hx : (raised zs).getD k 0 = zs.getD k 0 + 100001 := by
        have : k < zs.length := by have := HZ.out; omega
        simp [raised, List.getD, List.getElem?_append, this]
      rw [hx] at hcx
      have HS := Hid.mk (take_succ_getD zs k (by have := HZ.out; omega))
      obtain ⟨y, hy⟩ : ∃ y, y = zs.getD k 0 := ⟨_, rfl⟩
      rw [← hy] at hcx HS hgk
      obtain ⟨hy1, hy2⟩ := hgk
      have hki : (k : Int) < (n : Int) := by omega
      have hcr := hv.cell
      have hfr := hv.frozen
      clear hy hx A1 c1 f1
      go_wp2_with (at_builtin; refine wpList_append_lies _ rfl (.tmp 16) (.tmp 20) 29 rfl (w.heap.size + 1 + 1 + 1) 3 i0 (.int .i64 0) 1 8 Try.underlying29 hi hz0 hz1 hz2 rfl (by decide) _ _ _ rfl (hv.own.alloc _) ⟨wr.heap.size, 0, none⟩ 1 1 [.int .i64 y] (by simp [Act.eval]) rfl (by have q : y + 100001 - 100000 - 1 = y := (by omega); simpa [q] using news_at wr #[.int .i64 y] 3) (by simp; rfl) (by decide) (by unfold maxLen; omega) (by omega) (by simp; omega) (wr.heap.size + 1) (by simp) ?_; intro g2 cap2 w4 hown4 hgrow4 _ _; obtain ⟨t1, t2, hv4⟩ := hv.pushed hown4 hgrow4)
      have HB := Hid.mk (hv.pushed_below (v := .slice (some ⟨g2, 0, none⟩) (k + 1) cap2) hgrow4 hbw (Nat.le_refl _))
      rw [← HS.out] at hv4
      have HV := Hid.mk hv4
      clear hv4 hown4 hgrow4 hv hbw t1 t2
      go_roundw
      case rel => exact ⟨k + 1, _, _, by omega, by go_num, HV.out, HB.out⟩
      case measure => simp [intOf]; omega
    · obtain rfl : k = n := by omega
      have htk : zs.take k = zs := List.take_of_length_le (by have := HZ.out; omega)
      rw [htk] at hv
      clear htk
      have hcr := hv.cell
      have e1 := (hbw.cell (p := ⟨w.heap.size + 1, 0, none⟩) (by simp)).trans c1
      have e2 := (hbw.frozen (p := ⟨w.heap.size + 1, 0, none⟩) (by simp)).trans f1
      clear c1 f1 A1
      go_wp2
      refine bodyPost_ret (v := .agg #[.slice r k d]) (by simp [results, Try.results71, go_sem, e1]) rfl ⟨r, d, rfl, ?_, ?_⟩
      · exact owns_mono (ownsRow_setCell_below (base := w.heap.size + 1 + 1 + 1) hv.own (show w.heap.size + 1 < w.heap.size + 1 + 1 + 1 by omega) _) (by omega)
      · exact (B.trans (hbw.mono (by omega))).setCell (by simp) _

end Go.Proofs.Ytlfljfmhhnoinaa

/- Contracts of impl.withinSum, amountOf, goodGroup, cellsOfKeys, keysOfOneLength. -/
namespace Go.Proofs.Ytlfljfmhhnoinaa
open Go.RowKit

theorem trip0 (w : World) (u v x : Value) (t : TypeId) : (w.alloc (.cells #[u, v, x] t)).cell? ⟨w.heap.size, 0, none⟩ = some u := by simp
theorem trip1 (w : World) (u v x : Value) (t : TypeId) : (w.alloc (.cells #[u, v, x] t)).cell? ⟨w.heap.size, 1, none⟩ = some v := by simp
theorem trip2 (w : World) (u v x : Value) (t : TypeId) : (w.alloc (.cells #[u, v, x] t)).cell? ⟨w.heap.size, 2, none⟩ = some x := by simp

theorem withinSum_any (p : Int) (w : World) :
    Calls Try.prog 70 #[.int .i64 p] w fun e w' => e = .returned (.bool (ins p)) ∧ w' = w := by
  by_cases h : -100000000000000 ≤ p
  · go_enter Try.func70, Try.ntmps70
    go_wp2
    go_ret
    exact ⟨ret_bool (by simp [ins, h]), rfl⟩
  · go_enter Try.func70, Try.ntmps70
    go_wp2
    go_ret
    exact ⟨ret_bool (by simp only [ins, decide_eq_false (show ¬ -100000000000000 ≤ p by omega), Bool.false_and]), rfl⟩

theorem amountOf_any (a : Option Addr) (n c : Nat) (x y : Int) (w : World) :
    Calls Try.prog 52 #[.agg #[.slice a n c, .int .i64 x, .int .i64 y]] w fun e w' => e = .returned (.agg #[.int .i64 x, .int .i64 y]) ∧ Below w.heap.size w w' := by
  go_enter Try.func52, Try.ntmps52
  go_wp2
  refine bodyPost_ret (v := .agg #[.int .i64 x, .int .i64 y]) (by simp [results, Try.results52, go_sem]) rfl ⟨rfl, ?_⟩
  exact ((Below.refl _ _).alloc (Nat.le_refl _) _).alloc (by simp) _

set_option maxHeartbeats 1000000 in
theorem goodGroup_any (a : Option Addr) (n c : Nat) (zs : List Int) (x y : Int) (w : World) (hz : zs.length = n) (hn : n ≤ 9223372036854775807) (ha : At w a zs) :
    Calls Try.prog 45 #[.agg #[.slice a n c, .int .i64 x, .int .i64 y]] w fun e w' => e = .returned (.bool (good zs && (ins x && (ins y && !nought x y)))) ∧ Below w.heap.size w w' := by
  have B0 : Below w.heap.size w (w.alloc (.cells #[.slice a n c, .int .i64 x, .int .i64 y] 35)) := (Below.refl _ _).alloc (Nat.le_refl _) _
  have HA := ha.below B0
  clear ha
  obtain ⟨g, HG⟩ : ∃ g : Bool, Hid (good zs = g) := ⟨_, Hid.mk rfl⟩
  obtain ⟨i, HI⟩ : ∃ g : Bool, Hid (ins x = g) := ⟨_, Hid.mk rfl⟩
  obtain ⟨j, HJ⟩ : ∃ g : Bool, Hid (ins y = g) := ⟨_, Hid.mk rfl⟩
  obtain ⟨x0, hx⟩ : ∃ g : Bool, (x == 0) = g := ⟨_, rfl⟩
  obtain ⟨y0, hy⟩ : ∃ g : Bool, (y == 0) = g := ⟨_, rfl⟩
  have HN : Hid (nought x y = (x0 && y0)) := by show _ = _; rw [← hx, ← hy]; by_cases h1 : x = 0 <;> by_cases h2 : y = 0 <;> simp [nought, h1, h2]
  rw [HG.out, HI.out, HJ.out, HN.out]
  cases g <;> cases i <;> cases j <;> cases x0 <;> cases y0
  all_goals
    go_enter Try.func45, Try.ntmps45
    go_wp2_with (first | (go_at_call 50; refine (implGoodRow_any _ _ _ zs _ hz hn HA).mono ?_; rintro e w1 ⟨rfl, hb1⟩; rw [HG.out]; have c0 := cell_later hb1 (trip0 w (.slice a n c) (.int .i64 x) (.int .i64 y) 35); have c1 := cell_later hb1 (trip1 w (.slice a n c) (.int .i64 x) (.int .i64 y) 35); have c2 := cell_later hb1 (trip2 w (.slice a n c) (.int .i64 x) (.int .i64 y) 35); have B1 := B0.trans (hb1.mono B0.size); clear hb1) | (go_at_call_of 70 (Value.int .i64 x); refine (withinSum_any _ _).mono ?_; rintro e w2 ⟨rfl, rfl⟩; rw [HI.out]) | (go_at_call_of 70 (Value.int .i64 y); refine (withinSum_any _ _).mono ?_; rintro e w2 ⟨rfl, rfl⟩; rw [HJ.out]) | (go_at_call 52; refine (amountOf_any _ _ _ _ _ _).mono ?_; rintro e w3 ⟨rfl, hb3⟩; have B3 := B1.trans (hb3.mono B1.size); clear hb3))
    go_ret
    first | exact ⟨rfl, B3⟩ | exact ⟨rfl, B1⟩ | exact ⟨ret_bool (by simp [hx, hy]), B3⟩

theorem cellsOfKeys_any (a : Option Addr) (n c : Nat) (ts : List GRow) (w : World) (hz : ts.length = n) (ha : AtV w a ts) :
    Calls Try.prog 68 #[.slice a n c] w fun e w' => e = .returned (.int .i64 (keyN ts)) ∧ w' = w := by
  by_cases h0 : n = 0
  · subst h0
    obtain rfl := List.eq_nil_of_length_eq_zero hz
    go_enter Try.func68, Try.ntmps68
    go_wp2
    go_ret
    exact ⟨rfl, rfl⟩
  · obtain ⟨b, off, rfl, hc⟩ := ha.some (by omega)
    obtain ⟨q, d, hcx, _, _, hm, _⟩ := hc 0 (by omega)
    have HK : Hid (keyN ts = (gat ts 0).1.length) := rfl
    generalize (gat ts 0).1.length = m at *
    simp only [Nat.zero_mul, Nat.add_zero] at hcx
    have hne : ((n : Int) == 0) = false := by simp; omega
    have hlt : (0 : Int) < (n : Int) := by omega
    clear hc ha
    go_enter Try.func68, Try.ntmps68
    go_wp2
    go_ret
    exact ⟨ret_int (by rw [HK.out]), rfl⟩

set_option maxHeartbeats 1000000 in
theorem keysOfOneLength_any (a : Option Addr) (n c : Nat) (ts : List GRow) (w : World) (hz : ts.length = n) (hn : n ≤ 1048576) (ha : AtV w a ts) :
    Calls Try.prog 44 #[.slice a n c] w fun e w' => e = .returned (.bool (oneLen ts)) ∧ Below w.heap.size w w' := by
  by_cases h0 : n = 0
  · subst h0
    obtain rfl := List.eq_nil_of_length_eq_zero hz
    go_enter Try.func44, Try.ntmps44
    go_wp2
    refine wp_loop_rounds 1 ?_
    rw [rounds_succ]
    go_wp2
    go_ret
    exact ⟨ret_bool rfl, Below.refl _ _⟩
  · go_enter Try.func44, Try.ntmps44
    go_wp2
    go_loopw [7] (fun i wr => ∃ (k : Nat), k ≤ n ∧ i = .int .i64 k ∧ (∀ j, j < k → (gat ts j).1.length = keyN ts) ∧ Below w.heap.size w wr) (fun i _ => n - (intOf i).toNat)
    case atStart => exact ⟨0, Nat.zero_le _, rfl, fun j hj => by omega, Below.refl _ _⟩
    case round =>
      obtain ⟨k, hk, rfl, hall, hbw⟩ := hrel
      by_cases hlt : k < n
      · have HA := ha.below hbw
        obtain ⟨b, off, rfl, hc⟩ := HA.some (by omega)
        obtain ⟨q, d, hcx, hwx, hvx, hm, hat⟩ := hc k (by omega)
        have HN : Hid ((gat ts k).1.length ≠ keyN ts → oneLen ts = false) := fun h => oneLen_not k (by omega) h
        have HS : Hid ((gat ts k).1.length = keyN ts → ∀ j, j < k + 1 → (gat ts j).1.length = keyN ts) := fun h j hj => by
          by_cases e : j = k
          · subst e; exact h
          · exact hall j (by omega)
        generalize gat ts k = Y at *
        obtain ⟨ys, x, y⟩ := Y
        simp only at hcx hwx hvx hat hm HN HS
        obtain ⟨m, hmm⟩ : ∃ m, ys.length = m := ⟨_, rfl⟩
        rw [hmm] at hcx hm HN HS
        obtain ⟨K, hK⟩ : ∃ K, keyN ts = K := ⟨_, rfl⟩
        rw [hK] at HN HS
        have HK := Hid.mk hK
        have hki : (k : Int) < (n : Int) := by omega
        have HA2 := HA.alloc (.cells #[.slice q m d, .int .i64 x, .int .i64 y] 35)
        have B2 := hbw.alloc hbw.size (.cells #[.slice q m d, .int .i64 x, .int .i64 y] 35)
        have CKK : Hid (∀ (cc : Nat) (W : World), AtV W (some ⟨b, off, none⟩) ts → Calls Try.prog 68 #[.slice (some ⟨b, off, none⟩) n cc] W fun e w' => e = .returned (.int .i64 K) ∧ w' = W) := fun cc W h => by
          have := cellsOfKeys_any (some ⟨b, off, none⟩) n cc ts W hz h
          rw [hK] at this
          exact this
        clear hall hc hmm hK ha HA hat
        by_cases he : m = K
        · have hne : ((m : Int) != (K : Int)) = false := by simp [he]
          have HE := Hid.mk he
          clear he
          go_wp2_with fail
          go_quiet ((go_at_call 68; refine Calls.quiet_of_same (CKK.out _ _ HA2)))
          go_wp2
          go_roundw
          case rel => exact ⟨k + 1, by omega, by go_num, by rw [HK.out]; exact HS.out HE.out, below_drewN B2 _⟩
          case measure => simp [intOf]; omega
        · have hne : ((m : Int) != (K : Int)) = true := by simp; omega
          have HE := Hid.mk he
          clear he
          go_wp2_with fail
          go_quiet ((go_at_call 68; refine Calls.quiet_of_same (CKK.out _ _ HA2)))
          go_wp2
          go_ret
          exact ⟨ret_bool (HN.out HE.out).symm, below_drewN B2 _⟩
      · go_wp2
        go_ret
        exact ⟨ret_bool (oneLen_of (fun j hj => hall j (by omega))).symm, hbw⟩

end Go.Proofs.Ytlfljfmhhnoinaa
