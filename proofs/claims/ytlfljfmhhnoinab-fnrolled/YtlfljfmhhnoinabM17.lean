/- Several texts of one proof, in build order: MapV, RollP, GtP, InV, GoodV. -/
import Derived.Test.YtlfljfmhhnoinabM14
import Derived.Test.YtlfljfmhhnoinabM16
import Derived.Test.YtlfljfmhhnoinabM11
import Derived.Test.YtlfljfmhhnoinabM2
import Derived.Deep.AppendLies
import Derived.Laws.StructEq
import Derived.Test.YtlfljfmhhnoinabM6

/- Maps of amounts keyed by arrays: what they hold; which groups they tell. -/
namespace Go.Proofs.Ytlfljfmhhnoinab
open Go.RowKit Go.Maps

/-- What an amount reads as. -/
def amtD (x : Amt) : DataW Unit := .agg [.lit (.int .i64 x.1), .lit (.int .i64 x.2)]
theorem amtD_inj {x y : Amt} (h : amtD x = amtD y) : x = y := by
  simp only [amtD, DataW.agg.injEq, List.cons.injEq, DataW.lit.injEq, Lit.int.injEq, true_and, and_true] at h
  exact Prod.ext h.1 h.2
/-- How an element of type amount reads. -/
def amtElem (v : Value) : Option (DataW Unit × List MemPlace) :=
  match v with
  | .agg cs => match cs.toList with
    | [.int .i64 a, .int .i64 b] => some (amtD (a, b), [])
    | _ => none
  | _ => none
def amtVal (x : Amt) : Value := .agg #[.int .i64 x.1, .int .i64 x.2]
theorem amtElem_mk (x : Amt) : amtElem (amtVal x) = some (amtD x, []) := rfl
theorem amtElem_inv {v : Value} {z : DataW Unit × List MemPlace} (h : amtElem v = some z) : ∃ x : Amt, v = amtVal x ∧ z = (amtD x, []) := by
  unfold amtElem at h
  split at h
  · rename_i cs
    split at h
    · rename_i a b hcs
      refine ⟨(a, b), ?_, by simpa using h.symm⟩
      obtain ⟨l⟩ := cs
      simp only at hcs
      subst hcs
      rfl
    · cases h
  · cases h

/-- A map of amounts: at each array f's, an entry just where that is not nothing. -/
def MapV (D : DataW Unit) (f : List Int → Amt) : Prop :=
  ∀ a, Fits a → D.atKey (klit a) (amtD (0, 0)) = amtD (f a) ∧ Maps.has D (klit a) = decide (f a ≠ (0, 0))
theorem MapV.empty : MapV (.map []) (fun _ => (0, 0)) := fun a _ => ⟨rfl, by simp [Maps.has_eq]⟩
theorem MapV.put {D : DataW Unit} {f : List Int → Amt} (h : MapV D f) (hD : IsMap D) {a : List Int} (ha : Fits a) {v : Amt} (hv : v ≠ (0, 0)) :
    MapV (D.put (klit a) (amtD v)) (fun x => if x = a then v else f x) := fun x hx => by
  by_cases e : x = a
  · subst e
    exact ⟨by rw [atKey_put_same hD (klit_key hx)]; simp, by rw [has_put_same hD (klit_key hx)]; simp [hv]⟩
  · have hne : klit x ≠ klit a := fun e' => e (klit_inj hx ha e')
    obtain ⟨h1, h2⟩ := h x hx
    exact ⟨by rw [atKey_put_other hne, h1]; simp [e], by rw [has_put_other hne, h2]; simp [e]⟩
theorem MapV.del {D : DataW Unit} {f : List Int → Amt} (h : MapV D f) {a : List Int} (ha : Fits a) :
    MapV (D.del (klit a)) (fun x => if x = a then (0, 0) else f x) := fun x hx => by
  by_cases e : x = a
  · subst e
    exact ⟨by rw [atKey_del_same]; simp, by rw [has_del_same]; simp⟩
  · have hne : klit x ≠ klit a := fun e' => e (klit_inj hx ha e')
    obtain ⟨h1, h2⟩ := h x hx
    exact ⟨by rw [atKey_del_other hne, h1]; simp [e], by rw [has_del_other hne, h2]; simp [e]⟩
theorem MapV.at {D : DataW Unit} {f : List Int → Amt} (h : MapV D f) {a : List Int} (ha : Fits a) {c : Amt} (hc : D.atKey (klit a) (amtD (0, 0)) = amtD c) : c = f a := by
  rw [(h a ha).1] at hc
  exact (amtD_inj hc).symm
theorem MapV.congr {D : DataW Unit} {f f' : List Int → Amt} (h : MapV D f) (hf : ∀ x, f x = f' x) : MapV D f' := by
  obtain rfl : f = f' := funext hf
  exact h

/-- Groups by keys of q cells that have just the amounts of f. -/
structure TellsV (q : Nat) (f : List Int → Amt) (ts : List GRow) : Prop where
  rises : RisesV ts
  noZero : NoZeroV ts
  rows : ∀ t ∈ ts, good t.1 = true ∧ t.1.length = q
  weight : ∀ zs, good zs = true → zs.length = q → vOf ts zs = f (raised zs)
  keys : ∀ a, f a ≠ (0, 0) → ∃ zs, good zs = true ∧ zs.length = q ∧ a = raised zs
theorem TellsV.nil (q : Nat) : TellsV q (fun _ => (0, 0)) [] :=
  ⟨List.Pairwise.nil, fun t h => (by cases h), fun t h => (by cases h), fun zs _ _ => rfl, fun a h => absurd rfl h⟩
theorem TellsV.unique {q : Nat} {f : List Int → Amt} {ts us : List GRow} (h : TellsV q f ts) (k : TellsV q f us) : ts = us := by
  refine risesV_ext h.rises k.rises h.noZero k.noZero fun zs => ?_
  by_cases e : good zs = true ∧ zs.length = q
  · rw [h.weight zs e.1 e.2, k.weight zs e.1 e.2]
  · rw [vOf_absent fun t ht e' => e (by rw [← e']; exact h.rows t ht), vOf_absent fun t ht e' => e (by rw [← e']; exact k.rows t ht)]
theorem TellsV.put {q : Nat} {f : List Int → Amt} {ts : List GRow} (h : TellsV q f ts) {zs : List Int} (hg : good zs = true) (hl : zs.length = q) (x : Amt) :
    TellsV q (fun a => if a = raised zs then addA (f a) x else f a) (putV ts zs x) where
  rises := putV_rises h.rises
  noZero := putV_nozero h.noZero
  rows := fun t ht => by
    rcases putV_mem ht with h' | h'
    · exact h.rows t h'
    · rw [h']; exact ⟨hg, hl⟩
  weight := fun ys h1 h2 => by
    rw [putV_vOf ys h.rises, h.weight ys h1 h2]
    by_cases e : zs = ys
    · subst e; simp
    · have : raised ys ≠ raised zs := fun e' => e (raised_inj h1 hg e').symm
      simp [e, this, addA_zero]
  keys := fun a ha => by
    by_cases e : a = raised zs
    · exact ⟨zs, hg, hl, e⟩
    · simp only [if_neg e] at ha
      exact h.keys a ha

/-- The map in the block b tells the groups ts. -/
def CntV (w : World) (b q M : Nat) (ts : List GRow) : Prop :=
  ∃ cnt D f, w.ownsMap Try.prog 111 amtElem b cnt D ∧ MapV D f ∧ TellsV q f ts ∧ cnt ≤ M
section
variable {w w' : World} {b q M : Nat} {ts : List GRow}
theorem CntV.grown {row : Option Nat} (h : CntV w b q M ts) (hg : w.grownBy w' row) (hne : some b ≠ row) : CntV w' b q M ts := by
  obtain ⟨cnt, D, f, h1, h2⟩ := h
  exact ⟨cnt, D, f, h1.kept hg hne, h2⟩
theorem CntV.below (h : CntV w b q M ts) (hb : Below w.heap.size w w') : CntV w' b q M ts := h.grown (Below.toGrown hb none) (by simp)
theorem CntV.alloc (h : CntV w b q M ts) (o : Obj) : CntV (w.alloc o) b q M ts := h.below ((Below.refl _ _).alloc (Nat.le_refl _) o)
theorem CntV.drew (h : CntV w b q M ts) : CntV w.drew b q M ts := h.below (Below.refl _ _).drew
theorem CntV.mono {M' : Nat} (h : CntV w b q M ts) (hM : M ≤ M') : CntV w b q M' ts := by
  obtain ⟨cnt, D, f, h1, h2, h3, h4⟩ := h
  exact ⟨cnt, D, f, h1, h2, h3, by omega⟩
theorem CntV.lt (h : CntV w b q M ts) : b < w.heap.size := by
  obtain ⟨cnt, D, f, ⟨es, clock, hb, _⟩, _⟩ := h
  exact (Array.getElem?_eq_some_iff.1 hb).1
theorem CntV.rises (h : CntV w b q M ts) : RisesV ts := by obtain ⟨_, _, _, _, _, h, _⟩ := h; exact h.rises
theorem CntV.nocell (h : CntV w b q M ts) (a : Addr) {v : Value} (hc : w.cell? a = some v) : a.block ≠ b := by
  obtain ⟨cnt, D, f, ⟨es, clock, hb, _⟩, _⟩ := h
  rintro rfl
  simp [World.cell?, hb] at hc
end
theorem CntV.made (w : World) (q : Nat) : CntV (w.alloc (.map #[] 0)) w.heap.size q 0 [] :=
  ⟨0, _, _, World.ownsMap_made w Try.prog 111 amtElem, MapV.empty, TellsV.nil q, Nat.le_refl _⟩

end Go.Proofs.Ytlfljfmhhnoinab

/- Plain: groups rolled up, their totals. -/
namespace Go.Proofs.Ytlfljfmhhnoinab

/-- Numbers that may be the keys' cells'. -/
def colsUp (cols : List Int) (ts : List GRow) : Bool := decide (cols.length ≤ 6) && cols.all fun k => decide (0 ≤ k) && (decide (ts = []) || decide (k < keyN ts))
/-- Numbers from 0 on, at most six. -/
def mayPick (cols : List Int) : Bool := decide (cols.length ≤ 6) && cols.all fun k => decide (0 ≤ k)
def rolled (ts : List GRow) (cols : List Int) : List GRow := ts.map fun g => (pick g.1 cols, g.2)
def rollL (ts : List GRow) (cols : List Int) : List GRow := putAllV [] (rolled ts cols)
def rollB (ts : List GRow) (cols : List Int) : Bool := goodV ts && (colsUp cols ts && goodV (rollL ts cols))

theorem rolled_length (ts : List GRow) (cols : List Int) : (rolled ts cols).length = ts.length := by simp [rolled]
theorem rolled_at (ts : List GRow) (cols : List Int) (k : Nat) (h : k < ts.length) : gat (rolled ts cols) k = (pick (gat ts k).1 cols, (gat ts k).2) := by
  simp [rolled, gat, List.getD, h]
theorem rollB_good {ts : List GRow} {cols : List Int} (h : goodV ts = false) : rollB ts cols = false := by simp [rollB, h]
theorem rollB_cols {ts : List GRow} {cols : List Int} (h : colsUp cols ts = false) : rollB ts cols = false := by simp [rollB, h]
theorem rollB_yes {ts : List GRow} {cols : List Int} (h1 : goodV ts = true) (h2 : colsUp cols ts = true) : rollB ts cols = goodV (rollL ts cols) := by simp [rollB, h1, h2]
theorem rollB_goodV {ts : List GRow} {cols : List Int} (h : rollB ts cols = true) : goodV (rollL ts cols) = true := by
  simp only [rollB, Bool.and_eq_true] at h; exact h.2.2
theorem colsUp_may {ts : List GRow} {cols : List Int} (h : mayPick cols = false) : colsUp cols ts = false := by
  cases hg : colsUp cols ts with
  | false => rfl
  | true =>
    simp only [colsUp, Bool.and_eq_true, decide_eq_true_eq, List.all_eq_true] at hg
    have : mayPick cols = true := by
      simp only [mayPick, Bool.and_eq_true, decide_eq_true_eq, List.all_eq_true]
      exact ⟨hg.1, fun k hk => (hg.2 k hk).1⟩
    rw [this] at h; cases h
theorem colsUp_ok {ts : List GRow} {cols : List Int} (h : colsUp cols ts = true) (hne : ts ≠ []) : colsOk cols (keyN ts) = true := by
  simp only [colsUp, Bool.and_eq_true, decide_eq_true_eq, List.all_eq_true, Bool.or_eq_true] at h
  simp only [colsOk, colIn, Bool.and_eq_true, decide_eq_true_eq, List.all_eq_true]
  refine ⟨h.1, fun k hk => ?_⟩
  obtain ⟨h1, h2⟩ := h.2 k hk
  rcases h2 with h2 | h2
  · exact absurd h2 hne
  · exact ⟨h1, h2⟩
theorem colsUp_of {ts : List GRow} {cols : List Int} (h : mayPick cols = true) (h2 : ts ≠ [] → colsOk cols (keyN ts) = true) : colsUp cols ts = true := by
  simp only [mayPick, Bool.and_eq_true, decide_eq_true_eq, List.all_eq_true] at h
  simp only [colsUp, Bool.and_eq_true, decide_eq_true_eq, List.all_eq_true, Bool.or_eq_true]
  refine ⟨h.1, fun k hk => ⟨h.2 k hk, ?_⟩⟩
  by_cases e : ts = []
  · exact .inl e
  · right
    have := h2 e
    simp only [colsOk, colIn, Bool.and_eq_true, decide_eq_true_eq, List.all_eq_true] at this
    exact (this.2 k hk).2
theorem colsUp_not {ts : List GRow} {cols : List Int} (hne : ts ≠ []) (h : colsOk cols (keyN ts) = false) : colsUp cols ts = false := by
  cases hg : colsUp cols ts with
  | false => rfl
  | true => rw [colsUp_ok hg hne] at h; cases h
/-- A good group's parts. -/
theorem goodV_at {ts : List GRow} (h : goodV ts = true) (k : Nat) (hk : k < ts.length) : good (gat ts k).1 = true ∧ (gat ts k).1.length = keyN ts ∧ InA 100000000000000 (gat ts k).2 ∧ (gat ts k).2 ≠ (0, 0) := by
  obtain ⟨h1, h2, h3, h4, h5⟩ := goodG_cells (stepV_good ((goodV_parts h).2 k hk))
  have i1 := ins_range h3
  have i2 := ins_range h4
  refine ⟨h1, h2, ⟨i1.1, i1.2, i2.1, i2.2⟩, fun e => ?_⟩
  rw [e] at h5
  simp [nought] at h5
theorem goodV_mem {ts : List GRow} (h : goodV ts = true) : ∀ t ∈ ts, good t.1 = true ∧ t.1.length = keyN ts ∧ InA 100000000000000 t.2 ∧ t.2 ≠ (0, 0) := fun t ht => by
  obtain ⟨k, hk, rfl⟩ := List.getElem_of_mem ht
  have := goodV_at h k hk
  rwa [show gat ts k = ts[k] by simp [gat, List.getD, hk]] at this
theorem pick_good {zs cols : List Int} {n : Nat} (hg : good zs = true) (hl : zs.length = n) (hc : colsOk cols n = true) : good (pick zs cols) = true ∧ (pick zs cols).length = cols.length := by
  have hl' : (pick zs cols).length = cols.length := by simp [pick]
  refine ⟨good_of (by rw [hl']; exact colsOk_len hc) fun k hk => ?_, hl'⟩
  rw [hl'] at hk
  have h1 := colsOk_at hc k hk
  have e : (pick zs cols).getD k 0 = zs.getD (cols.getD k 0).toNat 0 := by simp [pick, List.getD, hk]
  rw [e]
  exact good_cell hg _ (by omega)
theorem rolled_mem {ts : List GRow} {cols : List Int} (h : goodV ts = true) (hc : ts ≠ [] → colsOk cols (keyN ts) = true) : ∀ t ∈ rolled ts cols, good t.1 = true ∧ t.1.length = cols.length ∧ InA 100000000000000 t.2 := fun t ht => by
  obtain ⟨s, hs, rfl⟩ := List.mem_map.1 ht
  obtain ⟨h1, h2, h3, _⟩ := goodV_mem h s hs
  have hne : ts ≠ [] := fun e => by rw [e] at hs; cases hs
  have := pick_good h1 h2 (hc hne)
  exact ⟨this.1, this.2, h3⟩
/-- What putting some of them makes lies within a bound. -/
theorem putAllV_in {l : List GRow} {M : Int} (hM : 0 ≤ M) (h : ∀ t ∈ l, InA M t.2) : ∀ t ∈ putAllV [] l, InA (M * l.length) t.2 := fun t ht => by
  have hr := putAllV_rises (l := l) (ts := []) List.Pairwise.nil
  have := vOf_mem hr ht
  rw [← this, putAllV_vOf _ List.Pairwise.nil, vOf_nil, zero_addA]
  exact sumV_bound hM h
theorem take_in {l : List GRow} {M : Int} (hM : 0 ≤ M) (h : ∀ t ∈ l, InA M t.2) (k n : Nat) (hk : k ≤ n) : ∀ t ∈ putAllV [] (l.take k), InA (M * n) t.2 := fun t ht => by
  refine (putAllV_in hM (fun t ht => h t (List.mem_of_mem_take ht)) t ht).mono (Int.mul_le_mul_of_nonneg_left ?_ hM)
  rw [List.length_take]
  omega
theorem putAllV_six {l : List GRow} (h : ∀ t ∈ l, good t.1 = true) : ∀ t ∈ putAllV [] l, t.1.length ≤ 6 := fun t ht => by
  rcases putAllV_rows ht with ⟨s, hs, _⟩ | ⟨s, hs, e⟩
  · cases hs
  · rw [← e]; exact good_len (h s hs)

/-- All numbers together. -/
def totalV (ts : List GRow) : Amt := ts.foldl (fun acc t => addA acc t.2) (0, 0)
def totB (ts : List GRow) : Bool := goodV ts && (ins (totalV ts).1 && ins (totalV ts).2)
theorem totalV_snoc (ts : List GRow) (t : GRow) : totalV (ts ++ [t]) = addA (totalV ts) t.2 := by unfold totalV; rw [List.foldl_append]; rfl
theorem totalV_take (ts : List GRow) (k : Nat) (h : k < ts.length) : totalV (ts.take (k + 1)) = addA (totalV (ts.take k)) (gat ts k).2 := by rw [vtake_succ ts k h, totalV_snoc]
theorem oneV_put (x y : Amt) : putV (oneV [] x) [] y = oneV [] (addA x y) := by
  by_cases hx : x = (0, 0)
  · subst hx
    show restV [] y [] = _
    rw [zero_addA]; rfl
  · unfold oneV
    rw [if_neg hx]
    show (if cmp ([] : List Int) [] < 0 then _ else restV [] y [(([] : List Int), x)]) = _
    rw [if_neg (by decide)]
    simp only [restV, cmp, if_true]
    rw [List.append_nil, addA_comm]; rfl
theorem rollL_nil (ts : List GRow) : rollL ts [] = oneV [] (totalV ts) := by
  have : ∀ k, k ≤ ts.length → putAllV [] ((rolled ts []).take k) = oneV [] (totalV (ts.take k)) := by
    intro k hk
    induction k with
    | zero => rfl
    | succ k ih =>
      rw [putAllV_take _ _ k (by rw [rolled_length]; omega), ih (by omega), rolled_at ts [] k (by omega), totalV_take ts k (by omega)]
      exact oneV_put _ _
  have h1 := this ts.length (Nat.le_refl _)
  rw [List.take_of_length_le (by rw [rolled_length]; omega), List.take_of_length_le (Nat.le_refl _)] at h1
  exact h1
theorem goodV_one (x : Amt) : goodV (oneV [] x) = (ins x.1 && ins x.2) := by
  by_cases hx : x = (0, 0)
  · subst hx; rfl
  · unfold oneV
    rw [if_neg hx]
    obtain ⟨a, b⟩ := x
    have hn : nought a b = false := by
      simp only [nought, Bool.and_eq_false_iff, decide_eq_false_iff_not]
      by_cases ha : a = 0
      · right; intro hb; exact hx (by rw [ha, hb])
      · left; exact ha
    have hg : good ([] : List Int) = true := rfl
    simp [goodV, stepV, goodG, keyN, gat, hn, hg]
theorem totB_roll (ts : List GRow) : rollB ts [] = totB ts := by
  have : colsUp [] ts = true := by simp [colsUp]
  simp only [rollB, totB, this, Bool.true_and, rollL_nil, goodV_one]

end Go.Proofs.Ytlfljfmhhnoinab

/- Plain: the groups of a table. -/
namespace Go.Proofs.Ytlfljfmhhnoinab

def gtRows (ts : List WRow) (cols : List Int) (s : Nat) : List GRow := ts.map fun t => (pick t.1 cols, t.2, t.2 * t.1.getD s 0)
def gtL (ts : List WRow) (cols : List Int) (s : Nat) : List GRow := putAllV [] (gtRows ts cols s)
def gtB (p : Int) (ts : List WRow) (cols : List Int) (s : Int) : Bool := goodT p ts && (colsOk cols p.toNat && (decide (0 ≤ s) && (decide (s < p) && goodV (gtL ts cols s.toNat))))
theorem gtRows_length (ts : List WRow) (cols : List Int) (s : Nat) : (gtRows ts cols s).length = ts.length := by simp [gtRows]
theorem gtRows_at (ts : List WRow) (cols : List Int) (s k : Nat) (h : k < ts.length) : gat (gtRows ts cols s) k = (pick (wat ts k).1 cols, (wat ts k).2, (wat ts k).2 * (wat ts k).1.getD s 0) := by
  simp [gtRows, gat, wat, List.getD, h]
section
variable {p s : Int} {ts : List WRow} {cols : List Int}
theorem gtB_t (h : goodT p ts = false) : gtB p ts cols s = false := by simp [gtB, h]
theorem gtB_c (h : colsOk cols p.toNat = false) : gtB p ts cols s = false := by simp [gtB, h]
theorem gtB_0 (h : s < 0) : gtB p ts cols s = false := by
  have : decide (0 ≤ s) = false := by simp; omega
  simp [gtB, this]
theorem gtB_p (h : p ≤ s) : gtB p ts cols s = false := by
  have : decide (s < p) = false := by simp; omega
  simp [gtB, this]
theorem gtB_yes (h1 : goodT p ts = true) (h2 : colsOk cols p.toNat = true) (h3 : 0 ≤ s) (h4 : s < p) : gtB p ts cols s = goodV (gtL ts cols s.toNat) := by simp [gtB, h1, h2, h3, h4]
theorem gtB_goodV (h : gtB p ts cols s = true) : goodV (gtL ts cols s.toNat) = true := by simp only [gtB, Bool.and_eq_true] at h; exact h.2.2.2.2
end
theorem mul_cell {x z : Int} (h1 : -1000000 ≤ x) (h2 : x ≤ 1000000) (h3 : -100000 ≤ z) (h4 : z ≤ 100000) : -100000000000 ≤ x * z ∧ x * z ≤ 100000000000 := by
  have a1 : (x + 1000000) * (z + 100000) ≥ 0 := Int.mul_nonneg (by omega) (by omega)
  have a2 : (1000000 - x) * (100000 - z) ≥ 0 := Int.mul_nonneg (by omega) (by omega)
  have a3 : (x + 1000000) * (100000 - z) ≥ 0 := Int.mul_nonneg (by omega) (by omega)
  have a4 : (1000000 - x) * (z + 100000) ≥ 0 := Int.mul_nonneg (by omega) (by omega)
  simp only [Int.add_mul, Int.sub_mul, Int.mul_add, Int.mul_sub] at a1 a2 a3 a4
  omega
/-- One row's group. -/
theorem gt_at {q s : Nat} {ts : List WRow} {cols : List Int} (h : goodT q ts = true) (_ : colsOk cols q = true) (hs : s < q) (k : Nat) (hk : k < ts.length) :
    good (wat ts k).1 = true ∧ (wat ts k).1.length = q ∧ (-1000000 ≤ (wat ts k).2 ∧ (wat ts k).2 ≤ 1000000) ∧ (-100000 ≤ (wat ts k).1.getD s 0 ∧ (wat ts k).1.getD s 0 ≤ 100000) := by
  obtain ⟨h1, h2, h3, h4⟩ := goodW_cells (stepB_good ((goodT_parts h).2.2 k hk))
  have hl : (wat ts k).1.length = q := by omega
  exact ⟨h1, hl, ⟨h3, h4⟩, good_cell h1 s (by omega)⟩
theorem gtRows_mem {q s : Nat} {ts : List WRow} {cols : List Int} (h : goodT q ts = true) (hc : colsOk cols q = true) (hs : s < q) : ∀ t ∈ gtRows ts cols s, good t.1 = true ∧ t.1.length = cols.length ∧ InA 100000000000 t.2 := fun t ht => by
  obtain ⟨k, hk, rfl⟩ := List.getElem_of_mem ht
  rw [gtRows_length] at hk
  have e : (gtRows ts cols s)[k] = gat (gtRows ts cols s) k := by simp [gat, List.getD, gtRows_length, hk]
  rw [e, gtRows_at ts cols s k hk]
  obtain ⟨h1, h2, h3, h4⟩ := gt_at h hc hs k hk
  have hp := pick_good h1 h2 hc
  have hm := mul_cell h3.1 h3.2 h4.1 h4.2
  exact ⟨hp.1, hp.2, ⟨by show -100000000000 ≤ (wat ts k).2; omega, by show (wat ts k).2 ≤ 100000000000; omega, hm.1, hm.2⟩⟩
end Go.Proofs.Ytlfljfmhhnoinab

/- Contract of impl.groupSums.inOrder. -/
namespace Go.Proofs.Ytlfljfmhhnoinab
open Go.RowKit Go.Maps

/-- The arrays that the range has passed. -/
structure PassedV (D : DataW Unit) (left : Lit → Bool) (ks : List Six) : Prop where
  fits : ∀ x ∈ ks, Fits (Six.list x)
  once : ks.Nodup
  just : ∀ x : Six, Fits (Six.list x) → (x ∈ ks ↔ (Maps.has D (klit (Six.list x)) = true ∧ left (klit (Six.list x)) = false))

theorem PassedV.start (D : DataW Unit) : PassedV D (Maps.has D) [] := ⟨by simp, by simp, fun x _ => by
  constructor
  · intro h; cases h
  · rintro ⟨h1, h2⟩; rw [h1] at h2; cases h2⟩

theorem PassedV.step {D : DataW Unit} {left : Lit → Bool} {ks : List Six} (h : PassedV D left ks) {x : Six} (hx : Fits (Six.list x)) (hl : left (klit (Six.list x)) = true) (hh : Maps.has D (klit (Six.list x)) = true) :
    PassedV D (fun z => left z && !z.sameKey (klit (Six.list x))) (ks ++ [x]) := by
  have hself : (klit (Six.list x)).sameKey (klit (Six.list x)) = true := WideAt.sameKey_self (klit_key hx)
  have hoth : ∀ y : Six, Fits (Six.list y) → y ≠ x → (klit (Six.list y)).sameKey (klit (Six.list x)) = false := fun y hy hne =>
    sameKey_ne (fun e => hne (Six.list_inj (klit_inj hy hx e)))
  have hnot : x ∉ ks := fun hm => by have := ((h.just x hx).1 hm).2; rw [hl] at this; cases this
  refine ⟨fun y hy => ?_, ?_, fun y hy => ?_⟩
  · rcases List.mem_append.1 hy with h1 | h1
    · exact h.fits y h1
    · obtain rfl : y = x := by simpa using h1
      exact hx
  · rw [List.nodup_append]
    exact ⟨h.once, by simp, fun a ha b hb e => by obtain rfl : b = x := by simpa using hb
                                                  exact hnot (e ▸ ha)⟩
  · by_cases e : y = x
    · subst e
      simp [hself, hh]
    · have := h.just y hy
      simp only [List.mem_append, List.mem_singleton, e, or_false, hoth y hy e, Bool.not_false, Bool.and_true]
      exact this

set_option maxRecDepth 100000 in
set_option maxHeartbeats 2000000 in
theorem inOrderV (b cnt : Nat) (D : DataW Unit) (w : World) (hcnt : cnt ≤ 1048576) (hown : w.ownsMap Try.prog 111 amtElem b cnt D) :
    Calls Try.prog 98 #[.map (some b)] w fun e w' => ∃ (ks : List Six) (r : Option Addr) (d n : Nat), e = .returned (.slice r n d) ∧ ks.length = n ∧ n ≤ cnt ∧ w'.ownsRow (w.heap.size + 1) 111 6 (.slice r n d) n (ks.flatMap Six.enc) ∧
      (ks.Pairwise fun x y => cmp (Six.list x) (Six.list y) < 0) ∧ (∀ x ∈ ks, Fits (Six.list x)) ∧ (∀ x : Six, Fits (Six.list x) → (x ∈ ks ↔ Maps.has D (klit (Six.list x)) = true)) ∧ Below w.heap.size w w' := by
  obtain ⟨i0, hi, hz0, hz1, hz2⟩ := info_parts Try.infoA
  have hsz := hown.size_le
  go_enter Try.func98, Try.ntmps98
  go_wp2_with (first | (at_range; refine wpList_range_own _ rfl _ 80 rfl 111 83 Try.keyedA Try.underlying80 _ b cnt D rfl hown ?_; intro w0 hrg0 hg0 hs0) | go_in)
  go_frame
  have B0 : Below w.heap.size w w0 := (Below.refl _ _).grown hg0 (Nat.le_refl _) (by simp)
  go_loopw [3] (fun o wr => ∃ (left : Lit → Bool) (c0 : Nat) (ks : List Six) (r : Option Addr) (d : Nat), o = .slice r ks.length d ∧ wr.ranges Try.prog 111 amtElem b w.heap.size cnt D left c0 ∧ PassedV D left ks ∧ ks.length + c0 ≤ cnt ∧
      wr.ownsRow (w.heap.size + 1) 111 6 (.slice r ks.length d) ks.length (ks.flatMap Six.enc) ∧ Below w.heap.size w wr) (fun _ wr => wr.rangeLeft b w.heap.size)
  case atStart => exact ⟨_, _, [], none, 0, rfl, hrg0, PassedV.start D, by simpa using hsz, World.ownsRow_nil _ _ _ _, B0⟩
  case round =>
    clear hrg0 hg0 hs0 B0 w0
    obtain ⟨left, c0, ks, r, d, rfl, hrg, hP, hlen, ho, hbw⟩ := hrel
    go_wp2_with (first | (at_next; refine wpList_next_ranges _ rfl _ rfl 111 Try.keyedA amtElem Six.val amtVal (fun _ _ h => six_key h) (fun v y hv => by obtain ⟨c, rfl, _⟩ := amtElem_inv hv; exact ⟨c, rfl⟩) b w.heap.size cnt D left c0 rfl hrg ?_ ?_) | go_in)
    · intro h00 hl0
      have hs : ∀ ks' : List Six, ks'.Perm ks → (∀ x ∈ ks', Fits (Six.list x)) ∧ (∀ x : Six, Fits (Six.list x) → (x ∈ ks' ↔ Maps.has D (klit (Six.list x)) = true)) := fun ks' hp =>
        ⟨fun x hx => hP.fits x (hp.mem_iff.1 hx), fun x hx => by rw [hp.mem_iff, hP.just x hx, hl0]; simp⟩
      have HSS := Hid.mk hs
      have HON := Hid.mk hP.once
      obtain ⟨n, hn⟩ : ∃ n, ks.length = n := ⟨_, rfl⟩
      rw [hn] at ho hlen
      have HN := Hid.mk hn
      rw [hn]
      clear hl0 hs hP hrg hn
      by_cases hn0 : n = 0
      · subst hn0
        obtain rfl : ks = [] := List.eq_nil_of_length_eq_zero HN.out
        go_wp2_with fail
        refine (sortNone_any _ _ _ _).mono ?_
        rintro e w2 ⟨rfl, rfl⟩
        go_wp2
        go_ret
        exact ⟨[], r, d, 0, rfl, rfl, by omega, ho, List.Pairwise.nil, (HSS.out [] (List.Perm.refl _)).1, (HSS.out [] (List.Perm.refl _)).2, hbw⟩
      · obtain ⟨g, hgv⟩ : ∃ g, r = some ⟨g, 0, none⟩ := by
          rcases ho.2 with ⟨_, h⟩ | ⟨g, cap, cur, hv, _⟩
          · omega
          · simp only [Value.slice.injEq, true_and] at hv
            exact ⟨g, hv.1⟩
        subst hgv
        have hgl := (ho.lt g rfl).1
        go_wp2_with fail
        refine (sortFunc_any g n d _ _ ks _ HN.out (by omega) ho).mono ?_
        rintro e w2 ⟨rfl, ho2, hg2⟩
        have HB := Hid.mk (hbw.grown hg2 hbw.size (fun j hj => by cases hj; omega))
        clear hg2 hbw ho
        go_wp2
        go_ret
        exact ⟨sorted ks, some ⟨g, 0, none⟩, d, n, rfl, (sorted_perm ks).length_eq.trans HN.out, by omega, ho2, sorted_rises HON.out, (HSS.out _ (sorted_perm ks)).1, (HSS.out _ (sorted_perm ks)).2, HB.out⟩
    · intro x0 x1 x2 x3 x4 x5 c ck kl yd yp w1 cnt1 hkey hlk hv hat hrg1 hlt hg1 hs1 hen
      have hbw1 : Below w.heap.size w w1 := hbw.grown hg1 hbw.size (fun j hj => by cases hj; exact Nat.le_refl _)
      have ho1 : w1.ownsRow (w.heap.size + 1) 111 6 (.slice r ks.length d) ks.length (ks.flatMap Six.enc) := ho.kept hg1 (by
        cases hv' : (Value.slice r ks.length d).ownBlock with
        | none => exact .inl rfl
        | some k => exact .inr (fun e => by have := (ho.lt k hv').1; simp at e; omega))
      obtain ⟨zs, hfz, hvz, rfl⟩ := keyOf_arr_inv hkey
      obtain rfl : zs = Six.list (x0, x1, x2, x3, x4, x5) := (arrV_inj (by rw [← hvz]; rfl)).symm
      have hhas : Maps.has D (klit (Six.list (x0, x1, x2, x3, x4, x5))) = true := has_true_of_atKey hat
      have hst := hP.step hfz hlk hhas
      have HST := Hid.mk hst
      have HRG := Hid.mk hrg1
      have HBW := Hid.mk hbw1
      have hlf := hrg.left_eq
      have HLF := Hid.mk hlf
      have z1 : w.heap.size + 1 ≤ w1.heap.size := by rw [hs1]; have := hrg.lt; omega
      clear hst hrg1 hbw1 hlf hat hkey hv hlk hvz hhas hg1 ho hbw hrg hP hs1
      simp only [Six.val, amtVal] at hen
      have hbl := hown.lt
      have hks : ks.length ≤ 1048576 := by omega
      obtain ⟨n, hn⟩ : ∃ n, ks.length = n := ⟨_, rfl⟩
      rw [hn] at ho1 hks
      have HN := Hid.mk hn
      have HO1 := ho1
      rw [hn]
      clear hn
      go_wp2_with (at_builtin; refine wpList_append_lies _ rfl (.tmp 11) (.tmp 13) 143 rfl (w.heap.size + 1) 111 i0 (.agg #[.int .i64 0, .int .i64 0, .int .i64 0, .int .i64 0, .int .i64 0, .int .i64 0]) 6 48 Try.underlying143 hi hz0 hz1 hz2 rfl (by decide) _ _ _ rfl ((HO1.alloc _).alloc _) ⟨w1.heap.size + 1, 0, none⟩ 1 1 [.int .i64 x0, .int .i64 x1, .int .i64 x2, .int .i64 x3, .int .i64 x4, .int .i64 x5] rfl rfl (by simpa using news_at (w1.alloc (.cells #[.int .i64 x0, .int .i64 x1, .int .i64 x2, .int .i64 x3, .int .i64 x4, .int .i64 x5] 111)) #[.int .i64 x0, .int .i64 x1, .int .i64 x2, .int .i64 x3, .int .i64 x4, .int .i64 x5] 111) (by intro u hu; simp at hu; rcases hu with rfl | rfl | rfl | rfl | rfl | rfl <;> rfl) (by decide) (by unfold maxLen; omega) (by omega) (by simp; omega) (w1.heap.size + 1 + 1) (by simp) ?_; intro g2 cap2 w4 hown4 hgrow4 hat4 hlt4)
      have hgr : w1.grownBy w4 (Value.slice r n d).ownBlock := grown_alloc (grown_alloc hgrow4)
      have hrb : ∀ k, (Value.slice r n d).ownBlock = some k → w.heap.size + 1 ≤ k := fun k hk => (ho1.lt k hk).1
      have HR4 := Hid.mk (HRG.out.kept hgr (fun e => by have := hrb b e.symm; omega) (fun e => by have := hrb _ e.symm; omega))
      have HB4 : Hid (Below w.heap.size w w4) := HBW.out.grown hgr HBW.out.size (fun j hj => by have := hrb j hj; omega)
      have HO4 : Hid (w4.ownsRow (w.heap.size + 1) 111 6 (.slice (some ⟨g2, 0, none⟩) (ks ++ [(x0, x1, x2, x3, x4, x5)]).length cap2) (ks ++ [(x0, x1, x2, x3, x4, x5)]).length ((ks ++ [(x0, x1, x2, x3, x4, x5)]).flatMap Six.enc)) := by
        have hl : (ks ++ [(x0, x1, x2, x3, x4, x5)]).length = n + 1 := by rw [List.length_append, HN.out]; rfl
        rw [hl, List.flatMap_append]
        exact hown4
      have HLN : Hid ((ks ++ [(x0, x1, x2, x3, x4, x5)]).length = n + 1) := by show _ = _; rw [List.length_append, HN.out]; rfl
      clear hown4 hgrow4 hat4 hlt4 hgr hrb ho1 HO1
      go_wp2
      go_roundw
      case rel => exact ⟨_, cnt1, ks ++ [(x0, x1, x2, x3, x4, x5)], some ⟨g2, 0, none⟩, cap2, by rw [HLN.out], HR4.out, HST.out, by rw [HLN.out]; have := HN.out; omega, HO4.out, HB4.out⟩
      case measure => rw [HR4.out.left_eq, HLF.out]; exact hlt

end Go.Proofs.Ytlfljfmhhnoinab

/- Contracts of impl.withinSum, amountOf, goodGroup, cellsOfKeys, keysOfOneLength. -/
namespace Go.Proofs.Ytlfljfmhhnoinab
open Go.RowKit

theorem trip0 (w : World) (u v x : Value) (t : TypeId) : (w.alloc (.cells #[u, v, x] t)).cell? ⟨w.heap.size, 0, none⟩ = some u := by simp
theorem trip1 (w : World) (u v x : Value) (t : TypeId) : (w.alloc (.cells #[u, v, x] t)).cell? ⟨w.heap.size, 1, none⟩ = some v := by simp
theorem trip2 (w : World) (u v x : Value) (t : TypeId) : (w.alloc (.cells #[u, v, x] t)).cell? ⟨w.heap.size, 2, none⟩ = some x := by simp

theorem withinSum_any (p : Int) (w : World) :
    Calls Try.prog 135 #[.int .i64 p] w fun e w' => e = .returned (.bool (ins p)) ∧ w' = w := by
  by_cases h : -100000000000000 ≤ p
  · go_enter Try.func135, Try.ntmps135
    go_wp2
    go_ret
    exact ⟨ret_bool (by simp [ins, h]), rfl⟩
  · go_enter Try.func135, Try.ntmps135
    go_wp2
    go_ret
    exact ⟨ret_bool (by simp only [ins, decide_eq_false (show ¬ -100000000000000 ≤ p by omega), Bool.false_and]), rfl⟩

theorem amountOf_any (a : Option Addr) (n c : Nat) (x y : Int) (w : World) :
    Calls Try.prog 58 #[.agg #[.slice a n c, .int .i64 x, .int .i64 y]] w fun e w' => e = .returned (.agg #[.int .i64 x, .int .i64 y]) ∧ Below w.heap.size w w' := by
  go_enter Try.func58, Try.ntmps58
  go_wp2
  refine bodyPost_ret (v := .agg #[.int .i64 x, .int .i64 y]) (by simp [results, Try.results58, go_sem]) rfl ⟨rfl, ?_⟩
  exact ((Below.refl _ _).alloc (Nat.le_refl _) _).alloc (by simp) _

set_option maxHeartbeats 1000000 in
theorem goodGroup_any (a : Option Addr) (n c : Nat) (zs : List Int) (x y : Int) (w : World) (hz : zs.length = n) (hn : n ≤ 9223372036854775807) (ha : At w a zs) :
    Calls Try.prog 107 #[.agg #[.slice a n c, .int .i64 x, .int .i64 y]] w fun e w' => e = .returned (.bool (good zs && (ins x && (ins y && !nought x y)))) ∧ Below w.heap.size w w' := by
  have B0 : Below w.heap.size w (w.alloc (.cells #[.slice a n c, .int .i64 x, .int .i64 y] 73)) := (Below.refl _ _).alloc (Nat.le_refl _) _
  have HA := ha.below B0
  clear ha
  obtain ⟨g, HG⟩ : ∃ g : Bool, Hid (good zs = g) := ⟨_, Hid.mk rfl⟩
  obtain ⟨i, HI⟩ : ∃ g : Bool, Hid (ins x = g) := ⟨_, Hid.mk rfl⟩
  obtain ⟨j, HJ⟩ : ∃ g : Bool, Hid (ins y = g) := ⟨_, Hid.mk rfl⟩
  obtain ⟨x0, hx⟩ : ∃ g : Bool, (x == 0) = g := ⟨_, rfl⟩
  obtain ⟨y0, hy⟩ : ∃ g : Bool, (y == 0) = g := ⟨_, rfl⟩
  have HN : Hid (nought x y = (x0 && y0)) := by show _ = _; rw [← hx, ← hy]; by_cases h1 : x = 0 <;> by_cases h2 : y = 0 <;> simp [nought, h1, h2]
  rw [HG.out, HI.out, HJ.out, HN.out]
  cases g <;> cases i <;> cases j <;> cases x0 <;> cases y0
  all_goals
    go_enter Try.func107, Try.ntmps107
    go_wp2_with (first | (go_at_call 63; refine (implGoodRow_any _ _ _ zs _ hz hn HA).mono ?_; rintro e w1 ⟨rfl, hb1⟩; rw [HG.out]; have c0 := cell_later hb1 (trip0 w (.slice a n c) (.int .i64 x) (.int .i64 y) 73); have c1 := cell_later hb1 (trip1 w (.slice a n c) (.int .i64 x) (.int .i64 y) 73); have c2 := cell_later hb1 (trip2 w (.slice a n c) (.int .i64 x) (.int .i64 y) 73); have B1 := B0.trans (hb1.mono B0.size); clear hb1) | (go_at_call_of 135 (Value.int .i64 x); refine (withinSum_any _ _).mono ?_; rintro e w2 ⟨rfl, rfl⟩; rw [HI.out]) | (go_at_call_of 135 (Value.int .i64 y); refine (withinSum_any _ _).mono ?_; rintro e w2 ⟨rfl, rfl⟩; rw [HJ.out]) | (go_at_call 58; refine (amountOf_any _ _ _ _ _ _).mono ?_; rintro e w3 ⟨rfl, hb3⟩; have B3 := B1.trans (hb3.mono B1.size); clear hb3))
    go_ret
    first | exact ⟨rfl, B3⟩ | exact ⟨rfl, B1⟩ | exact ⟨ret_bool (by simp [hx, hy]), B3⟩

theorem cellsOfKeys_any (a : Option Addr) (n c : Nat) (ts : List GRow) (w : World) (hz : ts.length = n) (ha : AtV w a ts) :
    Calls Try.prog 134 #[.slice a n c] w fun e w' => e = .returned (.int .i64 (keyN ts)) ∧ w' = w := by
  by_cases h0 : n = 0
  · subst h0
    obtain rfl := List.eq_nil_of_length_eq_zero hz
    go_enter Try.func134, Try.ntmps134
    go_wp2
    go_ret
    exact ⟨rfl, rfl⟩
  · obtain ⟨b, off, rfl, hc⟩ := ha.some (by omega)
    obtain ⟨q, d, hcx, _, _, hm, _⟩ := hc 0 (by omega)
    have HK : Hid (keyN ts = (gat ts 0).1.length) := rfl
    generalize (gat ts 0).1.length = m at *
    simp only [Nat.zero_mul, Nat.add_zero] at hcx
    have hne : ((n : Int) == 0) = false := by simp; omega
    have hlt : (0 : Int) < (n : Int) := by omega
    clear hc ha
    go_enter Try.func134, Try.ntmps134
    go_wp2
    go_ret
    exact ⟨ret_int (by rw [HK.out]), rfl⟩

set_option maxHeartbeats 1000000 in
theorem keysOfOneLength_any (a : Option Addr) (n c : Nat) (ts : List GRow) (w : World) (hz : ts.length = n) (hn : n ≤ 1048576) (ha : AtV w a ts) :
    Calls Try.prog 106 #[.slice a n c] w fun e w' => e = .returned (.bool (oneLen ts)) ∧ Below w.heap.size w w' := by
  by_cases h0 : n = 0
  · subst h0
    obtain rfl := List.eq_nil_of_length_eq_zero hz
    go_enter Try.func106, Try.ntmps106
    go_wp2
    refine wp_loop_rounds 1 ?_
    rw [rounds_succ]
    go_wp2
    go_ret
    exact ⟨ret_bool rfl, Below.refl _ _⟩
  · go_enter Try.func106, Try.ntmps106
    go_wp2
    go_loopw [7] (fun i wr => ∃ (k : Nat), k ≤ n ∧ i = .int .i64 k ∧ (∀ j, j < k → (gat ts j).1.length = keyN ts) ∧ Below w.heap.size w wr) (fun i _ => n - (intOf i).toNat)
    case atStart => exact ⟨0, Nat.zero_le _, rfl, fun j hj => by omega, Below.refl _ _⟩
    case round =>
      obtain ⟨k, hk, rfl, hall, hbw⟩ := hrel
      by_cases hlt : k < n
      · have HA := ha.below hbw
        obtain ⟨b, off, rfl, hc⟩ := HA.some (by omega)
        obtain ⟨q, d, hcx, hwx, hvx, hm, hat⟩ := hc k (by omega)
        have HN : Hid ((gat ts k).1.length ≠ keyN ts → oneLen ts = false) := fun h => oneLen_not k (by omega) h
        have HS : Hid ((gat ts k).1.length = keyN ts → ∀ j, j < k + 1 → (gat ts j).1.length = keyN ts) := fun h j hj => by
          by_cases e : j = k
          · subst e; exact h
          · exact hall j (by omega)
        generalize gat ts k = Y at *
        obtain ⟨ys, x, y⟩ := Y
        simp only at hcx hwx hvx hat hm HN HS
        obtain ⟨m, hmm⟩ : ∃ m, ys.length = m := ⟨_, rfl⟩
        rw [hmm] at hcx hm HN HS
        obtain ⟨K, hK⟩ : ∃ K, keyN ts = K := ⟨_, rfl⟩
        rw [hK] at HN HS
        have HK := Hid.mk hK
        have hki : (k : Int) < (n : Int) := by omega
        have HA2 := HA.alloc (.cells #[.slice q m d, .int .i64 x, .int .i64 y] 73)
        have B2 := hbw.alloc hbw.size (.cells #[.slice q m d, .int .i64 x, .int .i64 y] 73)
        have CKK : Hid (∀ (cc : Nat) (W : World), AtV W (some ⟨b, off, none⟩) ts → Calls Try.prog 134 #[.slice (some ⟨b, off, none⟩) n cc] W fun e w' => e = .returned (.int .i64 K) ∧ w' = W) := fun cc W h => by
          have := cellsOfKeys_any (some ⟨b, off, none⟩) n cc ts W hz h
          rw [hK] at this
          exact this
        clear hall hc hmm hK ha HA hat
        by_cases he : m = K
        · have hne : ((m : Int) != (K : Int)) = false := by simp [he]
          have HE := Hid.mk he
          clear he
          go_wp2_with fail
          go_quiet ((go_at_call 134; refine Calls.quiet_of_same (CKK.out _ _ HA2)))
          go_wp2
          go_roundw
          case rel => exact ⟨k + 1, by omega, by go_num, by rw [HK.out]; exact HS.out HE.out, below_drewN B2 _⟩
          case measure => simp [intOf]; omega
        · have hne : ((m : Int) != (K : Int)) = true := by simp; omega
          have HE := Hid.mk he
          clear he
          go_wp2_with fail
          go_quiet ((go_at_call 134; refine Calls.quiet_of_same (CKK.out _ _ HA2)))
          go_wp2
          go_ret
          exact ⟨ret_bool (HN.out HE.out).symm, below_drewN B2 _⟩
      · go_wp2
        go_ret
        exact ⟨ret_bool (oneLen_of (fun j hj => hall j (by omega))).symm, hbw⟩

end Go.Proofs.Ytlfljfmhhnoinab
