/- Several texts of one proof, in build order: PlainT, PlainC, PlainP, KeyA, TellP, TableP. -/
import Derived.Test.YtipgepienagplaaM0
import Derived.Test.YtipgepienagplaaM10
import Derived.Test.YtipgepienagplaaRows
import Derived.Maps.OwnSet
import Derived.Maps.OwnOps
import Derived.Maps.RangeWalk
import Derived.WideKeyArr2

/- Plain functions on lists of weighted rows: what a good table is. -/
namespace Go.Proofs.Ytipgepienagplaa

def inw (x : Int) : Bool := decide (-1000000 ≤ x) && decide (x ≤ 1000000)
def inc (p : Int) : Bool := decide (0 ≤ p) && decide (p ≤ 6)
/-- A row that may be handed in. -/
def goodW (p : Int) (t : WRow) : Bool := good t.1 && (decide ((t.1.length : Int) = p) && inw t.2)
/-- The k-th row may stand in a table. -/
def stepB (p : Int) (ts : List WRow) (k : Nat) : Bool := goodW p (wat ts k) && (!decide ((wat ts k).2 = 0) && (decide (k = 0) || decide (cmp (wat ts (k - 1)).1 (wat ts k).1 < 0)))
/-- A good table. -/
def goodT (p : Int) (ts : List WRow) : Bool := inc p && (decide (ts.length ≤ 60) && (List.range ts.length).all (stepB p ts))
def goodL (p : Int) (ts : List WRow) : Bool := ts.all (goodW p)

theorem goodW_cells {p : Int} {t : WRow} (h : goodW p t = true) : good t.1 = true ∧ (t.1.length : Int) = p ∧ -1000000 ≤ t.2 ∧ t.2 ≤ 1000000 := by
  simpa [goodW, inw] using h
theorem goodW_mk {p : Int} {t : WRow} (h1 : good t.1 = true) (h2 : (t.1.length : Int) = p) (h3 : inw t.2 = true) : goodW p t = true := by
  simp [goodW, h1, h2, h3]
theorem goodW_row {p : Int} {t : WRow} (h : good t.1 = false) : goodW p t = false := by simp [goodW, h]
theorem goodW_len {p : Int} {t : WRow} (h : (t.1.length : Int) ≠ p) : goodW p t = false := by simp [goodW, h]
theorem goodW_wt {p : Int} {t : WRow} (h : inw t.2 = false) : goodW p t = false := by simp [goodW, h]

theorem wat_mem {ts : List WRow} {k : Nat} (h : k < ts.length) : wat ts k ∈ ts := by
  rw [show wat ts k = ts[k] by simp [wat, List.getD, h]]; exact List.getElem_mem h

theorem goodL_of {p : Int} {ts : List WRow} (h : ∀ k, k < ts.length → goodW p (wat ts k) = true) : goodL p ts = true := by
  unfold goodL
  rw [List.all_eq_true]
  intro t ht
  obtain ⟨k, hk, rfl⟩ := List.getElem_of_mem ht
  simpa [wat, List.getD, hk] using h k hk
theorem goodL_at {p : Int} {ts : List WRow} (h : goodL p ts = true) (k : Nat) (hk : k < ts.length) : goodW p (wat ts k) = true := List.all_eq_true.1 h _ (wat_mem hk)
theorem goodL_not {p : Int} {ts : List WRow} (k : Nat) (hk : k < ts.length) (h : goodW p (wat ts k) = false) : goodL p ts = false := by
  cases hg : goodL p ts with
  | false => rfl
  | true => rw [goodL_at hg k hk] at h; cases h

theorem goodT_of {p : Int} {ts : List WRow} (h1 : inc p = true) (h2 : ts.length ≤ 60) (h : ∀ k, k < ts.length → stepB p ts k = true) : goodT p ts = true := by
  simp only [goodT, h1, decide_eq_true h2, Bool.true_and, List.all_eq_true, List.mem_range]; exact h
theorem goodT_parts {p : Int} {ts : List WRow} (h : goodT p ts = true) : inc p = true ∧ ts.length ≤ 60 ∧ ∀ k, k < ts.length → stepB p ts k = true := by
  simpa only [goodT, Bool.and_eq_true, decide_eq_true_eq, List.all_eq_true, List.mem_range] using h
theorem goodT_col {p : Int} {ts : List WRow} (h : inc p = false) : goodT p ts = false := by simp [goodT, h]
theorem goodT_len {p : Int} {ts : List WRow} (h : 60 < ts.length) : goodT p ts = false := by
  have : decide (ts.length ≤ 60) = false := by simp; omega
  simp [goodT, this]
theorem goodT_not {p : Int} {ts : List WRow} (k : Nat) (hk : k < ts.length) (h : stepB p ts k = false) : goodT p ts = false := by
  cases hg : goodT p ts with
  | false => rfl
  | true => rw [(goodT_parts hg).2.2 k hk] at h; cases h
theorem stepB_good {p : Int} {ts : List WRow} {k : Nat} (h : stepB p ts k = true) : goodW p (wat ts k) = true := by
  simp only [stepB, Bool.and_eq_true] at h; exact h.1
theorem stepB_row {p : Int} {ts : List WRow} {k : Nat} (h : goodW p (wat ts k) = false) : stepB p ts k = false := by simp only [stepB, h, Bool.false_and]
theorem stepB_zero {p : Int} {ts : List WRow} {k : Nat} (h : (wat ts k).2 = 0) : stepB p ts k = false := by simp only [stepB, h, decide_true, Bool.not_true, Bool.false_and, Bool.and_false]
theorem stepB_cmp {p : Int} {ts : List WRow} {k : Nat} (h0 : k ≠ 0) (h : ¬ cmp (wat ts (k - 1)).1 (wat ts k).1 < 0) : stepB p ts k = false := by
  simp only [stepB, decide_eq_false h0, decide_eq_false h, Bool.or_false, Bool.and_false]
theorem stepB_mk {p : Int} {ts : List WRow} {k : Nat} (h1 : goodW p (wat ts k) = true) (h2 : (wat ts k).2 ≠ 0) (h3 : k = 0 ∨ cmp (wat ts (k - 1)).1 (wat ts k).1 < 0) : stepB p ts k = true := by
  rcases h3 with h3 | h3 <;> simp only [stepB, h1, decide_eq_false h2, decide_eq_true h3, Bool.not_false, Bool.true_and, Bool.or_true, Bool.true_or]
theorem goodL_of_goodT {p : Int} {ts : List WRow} (h : goodT p ts = true) : goodL p ts = true := goodL_of fun k hk => stepB_good ((goodT_parts h).2.2 k hk)
theorem goodT_goodL {p : Int} {ts : List WRow} (h : goodL p ts = false) : goodT p ts = false := by
  cases hg : goodT p ts with
  | false => rfl
  | true => rw [goodL_of_goodT hg] at h; cases h
theorem inc_range {p : Int} (h : inc p = true) : 0 ≤ p ∧ p ≤ 6 := by simpa [inc] using h

/-- cmp tells -1, 0 or 1. -/
theorem cmp_range (xs : List Int) : ∀ ys, cmp xs ys = -1 ∨ cmp xs ys = 0 ∨ cmp xs ys = 1 := by
  induction xs with
  | nil => intro ys; cases ys <;> simp [cmp]
  | cons x xs ih =>
    intro ys
    cases ys with
    | nil => simp [cmp]
    | cons y ys =>
      simp only [cmp]
      by_cases h1 : x < y
      · simp [h1]
      · by_cases h2 : y < x
        · simp [h1, h2]
        · simp [h1, h2, ih ys]

end Go.Proofs.Ytipgepienagplaa

/- Plain facts: cmp is an order of the rows; the rows of a good table rise; the weight of a row. -/
namespace Go.Proofs.Ytipgepienagplaa

theorem cmp_eq {xs : List Int} : ∀ {ys : List Int}, cmp xs ys = 0 → xs = ys := by
  induction xs with
  | nil => intro ys h; cases ys with
    | nil => rfl
    | cons y ys => simp [cmp] at h
  | cons x xs ih =>
    intro ys h
    cases ys with
    | nil => simp [cmp] at h
    | cons y ys =>
      simp only [cmp] at h
      by_cases h1 : x < y
      · simp [h1] at h
      · by_cases h2 : y < x
        · simp [h1, h2] at h
        · simp only [if_neg h1, if_neg h2] at h
          obtain rfl : x = y := by omega
          rw [ih h]

theorem cmp_swap (xs : List Int) : ∀ ys, cmp ys xs = - cmp xs ys := by
  induction xs with
  | nil => intro ys; cases ys <;> simp [cmp]
  | cons x xs ih =>
    intro ys
    cases ys with
    | nil => simp [cmp]
    | cons y ys =>
      simp only [cmp]
      by_cases h1 : x < y
      · rw [if_neg (by omega), if_pos h1, if_pos h1]; rfl
      · by_cases h2 : y < x
        · rw [if_pos h2, if_neg h1, if_pos h2]
        · rw [if_neg h2, if_neg h1, if_neg h1, if_neg h2, ih ys]

theorem cmp_trans {xs : List Int} : ∀ {ys zs : List Int}, cmp xs ys < 0 → cmp ys zs < 0 → cmp xs zs < 0 := by
  induction xs with
  | nil =>
    intro ys zs h1 h2
    cases ys with
    | nil => simp [cmp] at h1
    | cons y ys => cases zs with
      | nil => simp [cmp] at h2
      | cons z zs => simp [cmp]
  | cons x xs ih =>
    intro ys zs h1 h2
    cases ys with
    | nil => simp [cmp] at h1
    | cons y ys => cases zs with
      | nil => simp [cmp] at h2
      | cons z zs =>
        simp only [cmp] at *
        by_cases a1 : x < y
        · by_cases a2 : y < z
          · rw [if_pos (by omega)]; omega
          · rw [if_neg a2] at h2
            by_cases a3 : z < y
            · rw [if_pos a3] at h2; omega
            · rw [if_pos (by omega)]; omega
        · rw [if_neg a1] at h1
          by_cases a1' : y < x
          · rw [if_pos a1'] at h1; omega
          · rw [if_neg a1'] at h1
            by_cases a2 : y < z
            · rw [if_pos (by omega)]; omega
            · rw [if_neg a2] at h2
              by_cases a3 : z < y
              · rw [if_pos a3] at h2; omega
              · rw [if_neg a3] at h2
                rw [if_neg (by omega), if_neg (by omega)]
                exact ih h1 h2

theorem cmp_irrefl (xs : List Int) : ¬ cmp xs xs < 0 := by rw [cmp_self]; omega
theorem cmp_ne {xs ys : List Int} (h : cmp xs ys < 0) : xs ≠ ys := fun e => by rw [e] at h; exact cmp_irrefl ys h

/-- Rows that rise. -/
def Rises (ts : List WRow) : Prop := ts.Pairwise fun s t => cmp s.1 t.1 < 0

theorem rises_of {ts : List WRow} (h : ∀ k, k + 1 < ts.length → cmp (wat ts k).1 (wat ts (k + 1)).1 < 0) : Rises ts := by
  induction ts with
  | nil => exact List.Pairwise.nil
  | cons t ts ih =>
    have ih' : Rises ts := ih fun k hk => by simpa [wat, List.getD] using h (k + 1) (by simpa using hk)
    refine List.pairwise_cons.2 ⟨fun s hs => ?_, ih'⟩
    cases ts with
    | nil => simp at hs
    | cons u us =>
      have h0 : cmp t.1 u.1 < 0 := by simpa [wat, List.getD] using h 0 (by simp)
      rcases List.mem_cons.1 hs with rfl | hs
      · exact h0
      · exact cmp_trans h0 ((List.pairwise_cons.1 ih').1 s hs)

theorem goodT_rises {p : Int} {ts : List WRow} (h : goodT p ts = true) : Rises ts := rises_of fun k hk => by
  have := (goodT_parts h).2.2 (k + 1) hk
  simp only [stepB, Bool.and_eq_true, Bool.or_eq_true, decide_eq_true_eq] at this
  rcases this.2.2 with h0 | h0
  · omega
  · simpa using h0

theorem raised_inj {xs ys : List Int} (hx : good xs = true) (hy : good ys = true) (h : raised xs = raised ys) : xs = ys := by
  apply cmp_eq
  rw [← cmp_raised hx hy, h, cmp_self]

/-- The weight of a row, 0 where it is not there. -/
def wOf (ts : List WRow) (zs : List Int) : Int := ((ts.find? fun t => decide (t.1 = zs)).map fun t => t.2).getD 0

theorem wOf_nil (zs : List Int) : wOf [] zs = 0 := rfl
theorem wOf_cons (t : WRow) (ts : List WRow) (zs : List Int) : wOf (t :: ts) zs = if t.1 = zs then t.2 else wOf ts zs := by
  unfold wOf
  by_cases e : t.1 = zs <;> simp [e]
theorem wOf_absent {ts : List WRow} {zs : List Int} (h : ∀ t ∈ ts, t.1 ≠ zs) : wOf ts zs = 0 := by
  induction ts with
  | nil => rfl
  | cons t ts ih => rw [wOf_cons, if_neg (h t (by simp))]; exact ih fun s hs => h s (by simp [hs])
theorem wOf_drop (ts : List WRow) (k : Nat) (zs : List Int) (h : k < ts.length) : wOf (ts.drop k) zs = if (wat ts k).1 = zs then (wat ts k).2 else wOf (ts.drop (k + 1)) zs := by
  rw [List.drop_eq_getElem_cons h, wOf_cons]
  simp [wat, List.getD, h]

end Go.Proofs.Ytipgepienagplaa

/- Plain facts: a weight put to a row, many of them, and that a rising list is told by its weights. -/
namespace Go.Proofs.Ytipgepienagplaa

/-- A row with its weight, nothing where it is 0. -/
def oneW (zs : List Int) (x : Int) : List WRow := if x = 0 then [] else [(zs, x)]
/-- What is left behind the place at which a row is put. -/
def restW (zs : List Int) (x : Int) : List WRow → List WRow
  | [] => oneW zs x
  | t :: ts => if cmp t.1 zs = 0 then oneW zs (x + t.2) ++ ts else oneW zs x ++ t :: ts
/-- A weight is put to a row. -/
def putW : List WRow → List Int → Int → List WRow
  | [], zs, x => restW zs x []
  | t :: ts, zs, x => if cmp t.1 zs < 0 then t :: putW ts zs x else restW zs x (t :: ts)

theorem putW_at (zs : List Int) (x : Int) : ∀ (ts : List WRow) (k : Nat), k ≤ ts.length → (∀ j, j < k → cmp (wat ts j).1 zs < 0) → (k < ts.length → ¬ cmp (wat ts k).1 zs < 0) → putW ts zs x = ts.take k ++ restW zs x (ts.drop k) := by
  intro ts
  induction ts with
  | nil => intro k hk _ _; obtain rfl : k = 0 := by simpa using hk
           rfl
  | cons t ts ih =>
    intro k hk h1 h2
    cases k with
    | zero =>
      have : ¬ cmp t.1 zs < 0 := by simpa [wat, List.getD] using h2 (by simp)
      simp only [putW, if_neg this, List.take_zero, List.drop_zero, List.nil_append]
    | succ k =>
      have h0 : cmp t.1 zs < 0 := by simpa [wat, List.getD] using h1 0 (by omega)
      simp only [putW, if_pos h0, List.take_succ_cons, List.drop_succ_cons, List.cons_append]
      rw [ih k (by simpa using hk) (fun j hj => by simpa [wat, List.getD] using h1 (j + 1) (by omega)) (fun h => by simpa [wat, List.getD] using h2 (by simpa using h))]

theorem restW_cons (zs : List Int) (x : Int) (ts : List WRow) (k : Nat) (h : k < ts.length) :
    restW zs x (ts.drop k) = if cmp (wat ts k).1 zs = 0 then oneW zs (x + (wat ts k).2) ++ ts.drop (k + 1) else oneW zs x ++ ts.drop k := by
  rw [List.drop_eq_getElem_cons h]
  simp [restW, wat, List.getD, h]

/-- No weight is 0. -/
def NoZero (ts : List WRow) : Prop := ∀ t ∈ ts, t.2 ≠ 0

theorem oneW_mem {zs : List Int} {x : Int} {t : WRow} (h : t ∈ oneW zs x) : t = (zs, x) ∧ x ≠ 0 := by
  unfold oneW at h
  by_cases e : x = 0
  · simp [e] at h
  · rw [if_neg e] at h; exact ⟨by simpa using h, e⟩

theorem cmp_tri (xs ys : List Int) : cmp xs ys < 0 ∨ xs = ys ∨ cmp ys xs < 0 := by
  rcases cmp_range xs ys with h | h | h
  · left; omega
  · right; left; exact cmp_eq h
  · right; right; have := cmp_swap xs ys; omega

theorem putW_mem {zs : List Int} {x : Int} {t : WRow} : ∀ {ts : List WRow}, t ∈ putW ts zs x → t ∈ ts ∨ t.1 = zs := by
  intro ts
  induction ts with
  | nil => intro h; right; exact congrArg Prod.fst (oneW_mem h).1
  | cons s ts ih =>
    intro h
    simp only [putW] at h
    by_cases e : cmp s.1 zs < 0
    · rw [if_pos e] at h
      rcases List.mem_cons.1 h with rfl | h
      · left; simp
      · rcases ih h with h | h
        · left; simp [h]
        · right; exact h
    · rw [if_neg e] at h
      simp only [restW] at h
      by_cases e2 : cmp s.1 zs = 0
      · rw [if_pos e2] at h
        rcases List.mem_append.1 h with h | h
        · right; exact congrArg Prod.fst (oneW_mem h).1
        · left; simp [h]
      · rw [if_neg e2] at h
        rcases List.mem_append.1 h with h | h
        · right; exact congrArg Prod.fst (oneW_mem h).1
        · left; exact h

theorem rises_one (zs : List Int) (x : Int) (ts : List WRow) (hr : Rises ts) (h : ∀ t ∈ ts, cmp zs t.1 < 0) : Rises (oneW zs x ++ ts) := by
  unfold oneW
  by_cases e : x = 0
  · simpa [e] using hr
  · rw [if_neg e]; exact List.pairwise_cons.2 ⟨h, hr⟩

theorem putW_rises {zs : List Int} {x : Int} : ∀ {ts : List WRow}, Rises ts → Rises (putW ts zs x) := by
  intro ts
  induction ts with
  | nil => intro _; have := rises_one zs x [] List.Pairwise.nil (by simp); simpa [putW, restW] using this
  | cons s ts ih =>
    intro h
    obtain ⟨h1, h2⟩ := List.pairwise_cons.1 h
    simp only [putW]
    by_cases e : cmp s.1 zs < 0
    · rw [if_pos e]
      refine List.pairwise_cons.2 ⟨fun t ht => ?_, ih h2⟩
      rcases putW_mem ht with h' | h'
      · exact h1 t h'
      · rw [h']; exact e
    · rw [if_neg e]
      simp only [restW]
      by_cases e2 : cmp s.1 zs = 0
      · rw [if_pos e2]
        refine rises_one _ _ _ h2 fun t ht => ?_
        rw [← cmp_eq e2]; exact h1 t ht
      · rw [if_neg e2]
        have e3 : cmp zs s.1 < 0 := by have := cmp_swap s.1 zs; have := cmp_range s.1 zs; omega
        refine rises_one _ _ _ h fun t ht => ?_
        rcases List.mem_cons.1 ht with rfl | ht
        · exact e3
        · exact cmp_trans e3 (h1 t ht)

theorem putW_nozero {zs : List Int} {x : Int} : ∀ {ts : List WRow}, NoZero ts → NoZero (putW ts zs x) := by
  intro ts
  induction ts with
  | nil => intro _ t ht; obtain ⟨rfl, h⟩ := oneW_mem ht; exact h
  | cons s ts ih =>
    intro h t ht
    simp only [putW] at ht
    have hts : NoZero ts := fun t ht => h t (by simp [ht])
    by_cases e : cmp s.1 zs < 0
    · rw [if_pos e] at ht
      rcases List.mem_cons.1 ht with rfl | ht
      · exact h _ (by simp)
      · exact ih hts t ht
    · rw [if_neg e] at ht
      simp only [restW] at ht
      by_cases e2 : cmp s.1 zs = 0
      · rw [if_pos e2] at ht
        rcases List.mem_append.1 ht with ht | ht
        · obtain ⟨rfl, h⟩ := oneW_mem ht; exact h
        · exact hts t ht
      · rw [if_neg e2] at ht
        rcases List.mem_append.1 ht with ht | ht
        · obtain ⟨rfl, h⟩ := oneW_mem ht; exact h
        · exact h t ht

theorem wOf_one (zs : List Int) (x : Int) (ts : List WRow) (ys : List Int) (h : ∀ t ∈ ts, t.1 ≠ zs) : wOf (oneW zs x ++ ts) ys = wOf ts ys + if zs = ys then x else 0 := by
  unfold oneW
  by_cases e : x = 0
  · rw [if_pos e]; simp [e]
  · rw [if_neg e, List.singleton_append, wOf_cons]
    by_cases e2 : zs = ys
    · subst e2
      rw [if_pos rfl, if_pos rfl, wOf_absent h]; simp
    · rw [if_neg e2, if_neg e2]; simp

theorem putW_wOf {zs : List Int} {x : Int} (ys : List Int) : ∀ {ts : List WRow}, Rises ts → wOf (putW ts zs x) ys = wOf ts ys + if zs = ys then x else 0 := by
  intro ts
  induction ts with
  | nil => intro _; have := wOf_one zs x [] ys (by simp); simpa [putW, restW] using this
  | cons s ts ih =>
    intro h
    obtain ⟨h1, h2⟩ := List.pairwise_cons.1 h
    simp only [putW]
    by_cases e : cmp s.1 zs < 0
    · rw [if_pos e, wOf_cons, wOf_cons, ih h2]
      by_cases e2 : s.1 = ys
      · rw [if_pos e2, if_pos e2, if_neg (fun e3 => cmp_ne e (e2.trans e3.symm))]; simp
      · rw [if_neg e2, if_neg e2]
    · rw [if_neg e]
      simp only [restW]
      by_cases e2 : cmp s.1 zs = 0
      · have es := cmp_eq e2
        rw [if_pos e2, wOf_one _ _ _ _ (fun t ht e' => cmp_ne (h1 t ht) (es.trans e'.symm)), wOf_cons, es]
        by_cases e3 : zs = ys
        · subst e3
          rw [if_pos rfl, if_pos rfl, if_pos rfl, wOf_absent (fun t ht e' => cmp_ne (h1 t ht) (es.trans e'.symm))]; omega
        · rw [if_neg e3, if_neg e3, if_neg e3]
      · rw [if_neg e2]
        have e3 : cmp zs s.1 < 0 := by have := cmp_swap s.1 zs; have := cmp_range s.1 zs; omega
        exact wOf_one _ _ _ _ fun t ht e' => by
          rcases List.mem_cons.1 ht with rfl | ht
          · exact cmp_ne e3 e'.symm
          · exact cmp_ne (cmp_trans e3 (h1 t ht)) e'.symm

theorem wOf_mem {ts : List WRow} (hr : Rises ts) {t : WRow} (h : t ∈ ts) : wOf ts t.1 = t.2 := by
  induction ts with
  | nil => simp at h
  | cons s ts ih =>
    obtain ⟨h1, h2⟩ := List.pairwise_cons.1 hr
    rw [wOf_cons]
    rcases List.mem_cons.1 h with rfl | h
    · simp
    · rw [if_neg (fun e => cmp_ne (h1 t h) e)]; exact ih h2 h
theorem mem_wOf {ts : List WRow} {zs : List Int} (h : wOf ts zs ≠ 0) : (zs, wOf ts zs) ∈ ts := by
  induction ts with
  | nil => exact absurd rfl h
  | cons s ts ih =>
    rw [wOf_cons] at h ⊢
    by_cases e : s.1 = zs
    · rw [if_pos e]; subst e; simp
    · rw [if_neg e] at h ⊢; simp [ih h]

/-- Two rising lists without zeros that have the same weights are one. -/
theorem rises_ext : ∀ {ts us : List WRow}, Rises ts → Rises us → NoZero ts → NoZero us → (∀ zs, wOf ts zs = wOf us zs) → ts = us := by
  intro ts
  induction ts with
  | nil =>
    intro us _ hu _ nu h
    cases us with
    | nil => rfl
    | cons u us =>
      have := h u.1
      rw [wOf_mem hu (by simp), wOf_nil] at this
      exact absurd this.symm (nu u (by simp))
  | cons t ts ih =>
    intro us ht hu nt nu h
    cases us with
    | nil =>
      have := h t.1
      rw [wOf_mem ht (by simp), wOf_nil] at this
      exact absurd this (nt t (by simp))
    | cons u us =>
      obtain ⟨t1, t2⟩ := List.pairwise_cons.1 ht
      obtain ⟨u1, u2⟩ := List.pairwise_cons.1 hu
      have e1 : (t.1, t.2) ∈ u :: us := by
        have := h t.1
        rw [wOf_mem ht (by simp)] at this
        rw [this]; exact mem_wOf (by rw [← this]; exact nt t (by simp))
      have e2 : (u.1, u.2) ∈ t :: ts := by
        have := h u.1
        rw [wOf_mem hu (by simp)] at this
        rw [← this]; exact mem_wOf (by rw [this]; exact nu u (by simp))
      have e : t = u := by
        rcases List.mem_cons.1 e1 with e1 | e1
        · exact e1
        · rcases List.mem_cons.1 e2 with e2 | e2
          · exact e2.symm
          · exact absurd (cmp_trans (u1 _ e1) (t1 _ e2)) (cmp_irrefl _)
      subst e
      congr 1
      refine ih t2 u2 (fun s hs => nt s (by simp [hs])) (fun s hs => nu s (by simp [hs])) fun zs => ?_
      have := h zs
      rw [wOf_cons, wOf_cons] at this
      by_cases e : t.1 = zs
      · subst e
        rw [wOf_absent fun s hs e' => cmp_ne (t1 s hs) e'.symm, wOf_absent fun s hs e' => cmp_ne (u1 s hs) e'.symm]
      · rwa [if_neg e, if_neg e] at this

/-- What rows add at a row. -/
def sumW (l : List WRow) (zs : List Int) : Int := (l.map fun t => if t.1 = zs then t.2 else 0).sum
/-- All rows are put, one by one. -/
def putAll (ts l : List WRow) : List WRow := l.foldl (fun acc t => putW acc t.1 t.2) ts
theorem putAll_nil (ts : List WRow) : putAll ts [] = ts := rfl
theorem putAll_snoc (ts l : List WRow) (t : WRow) : putAll ts (l ++ [t]) = putW (putAll ts l) t.1 t.2 := by simp [putAll]
theorem putAll_take (ts l : List WRow) (k : Nat) (h : k < l.length) : putAll ts (l.take (k + 1)) = putW (putAll ts (l.take k)) (wat l k).1 (wat l k).2 := by rw [wtake_succ l k h, putAll_snoc]
theorem putAll_rises {l : List WRow} : ∀ {ts : List WRow}, Rises ts → Rises (putAll ts l) := by
  induction l with
  | nil => intro ts h; exact h
  | cons t l ih => intro ts h; exact ih (putW_rises h)
theorem putAll_nozero {l : List WRow} : ∀ {ts : List WRow}, NoZero ts → NoZero (putAll ts l) := by
  induction l with
  | nil => intro ts h; exact h
  | cons t l ih => intro ts h; exact ih (putW_nozero h)
theorem putAll_wOf {l : List WRow} (zs : List Int) : ∀ {ts : List WRow}, Rises ts → wOf (putAll ts l) zs = wOf ts zs + sumW l zs := by
  induction l with
  | nil => intro ts h; simp [putAll, sumW]
  | cons t l ih =>
    intro ts h
    have := ih (ts := putW ts t.1 t.2) (putW_rises h)
    rw [putW_wOf zs h] at this
    simp only [putAll, List.foldl_cons] at this ⊢
    rw [this]
    simp only [sumW, List.map_cons, List.sum_cons]
    omega
theorem putW_len {zs : List Int} {x : Int} : ∀ {ts : List WRow}, (putW ts zs x).length ≤ ts.length + 1 := by
  have h1 : ∀ y, (oneW zs y).length ≤ 1 := fun y => by unfold oneW; split <;> simp
  intro ts
  induction ts with
  | nil => simpa [putW, restW] using h1 x
  | cons t ts ih =>
    simp only [putW]
    split
    · simpa using ih
    · simp only [restW]
      split
      · have := h1 (x + t.2); simp; omega
      · have := h1 x; simp; omega
theorem putAll_len (l : List WRow) : ∀ (ts : List WRow), (putAll ts l).length ≤ ts.length + l.length := by
  induction l with
  | nil => intro ts; simp [putAll]
  | cons t l ih => intro ts; have := ih (putW ts t.1 t.2); have := putW_len (zs := t.1) (x := t.2) (ts := ts); simp only [putAll, List.foldl_cons, List.length_cons] at *; omega
/-- Each row of it is one that was there or was put. -/
theorem putAll_rows {l : List WRow} {t : WRow} : ∀ {ts : List WRow}, t ∈ putAll ts l → (∃ s ∈ ts, s.1 = t.1) ∨ ∃ s ∈ l, s.1 = t.1 := by
  induction l with
  | nil => intro ts h; exact .inl ⟨t, h, rfl⟩
  | cons s l ih =>
    intro ts h
    rcases ih (ts := putW ts s.1 s.2) h with ⟨u, hu, e⟩ | ⟨u, hu, e⟩
    · rcases putW_mem hu with h' | h'
      · exact .inl ⟨u, h', e⟩
      · exact .inr ⟨s, by simp, by rw [← e, h']⟩
    · exact .inr ⟨u, by simp [hu], e⟩
/-- Weights stay within what was there and what was put. -/
theorem sumW_bound {l : List WRow} {zs : List Int} {M : Int} (hM : 0 ≤ M) (h : ∀ t ∈ l, -M ≤ t.2 ∧ t.2 ≤ M) : -(M * l.length) ≤ sumW l zs ∧ sumW l zs ≤ M * l.length := by
  induction l with
  | nil => simp [sumW]
  | cons t l ih =>
    have h1 := ih fun s hs => h s (by simp [hs])
    have h2 := h t (by simp)
    have e : M * ((t :: l).length : Int) = M * (l.length : Int) + M := by rw [List.length_cons]; push_cast; rw [Int.mul_add]; omega
    rw [e]
    simp only [sumW, List.map_cons, List.sum_cons] at h1 ⊢
    by_cases e2 : t.1 = zs
    · rw [if_pos e2]; omega
    · rw [if_neg e2]; omega
theorem wOf_bound {ts : List WRow} {zs : List Int} {M : Int} (hM : 0 ≤ M) (h : ∀ t ∈ ts, -M ≤ t.2 ∧ t.2 ≤ M) : -M ≤ wOf ts zs ∧ wOf ts zs ≤ M := by
  by_cases e : wOf ts zs = 0
  · rw [e]; omega
  · exact h _ (mem_wOf e)

end Go.Proofs.Ytipgepienagplaa

/- Arrays of six ints as keys of a map, and what a map of weights holds. -/
namespace Go.Proofs.Ytipgepienagplaa
open Go.RowKit Go.Maps

/-- An array of ints as a value. -/
def arrV (zs : List Int) : Value := .agg (zs.map (Value.int .i64)).toArray
/-- Six numbers that fit. -/
def Fits (zs : List Int) : Prop := zs.length = 6 ∧ ∀ z ∈ zs, (Lit.int .i64 z).wf = true

theorem arrV_inj {a b : List Int} (h : arrV a = arrV b) : a = b := by
  simp only [arrV, Value.agg.injEq] at h
  have h' : a.map (Value.int .i64) = b.map (Value.int .i64) := by simpa using congrArg Array.toList h
  exact List.map_inj_right (fun _ _ e => by simpa using e) |>.1 h'

theorem Try.arrKey : WideMaps.ArrKey Try.prog 129 3 6 := ⟨Try.underlying129, by kernel_rfl, by kernel_rfl, by kernel_rfl⟩
theorem Try.keyedA : Keyed Try.prog 129 := Keyed.of_law Try.arrKey.law
theorem Try.typesPos : 0 < Try.prog.types.size := by decide +kernel
theorem Try.typesSome : ∃ m, Try.prog.types.size = m + 1 := ⟨Try.prog.types.size - 1, by have := Try.typesPos; omega⟩

/-- What six numbers read as, as a key. -/
def klit (zs : List Int) : Lit := .string (keyBytes (zs.map (.int .i64)))

theorem range6 : List.range 6 = [0, 1, 2, 3, 4, 5] := rfl

theorem keyLits_arr (zs : List Int) (h : Fits zs) : Try.prog.keyLits (Try.prog.types.size + 1) 129 (zs.map (Value.int .i64)) = some (zs.map (.int .i64)) := by
  obtain ⟨m, hm⟩ := Try.typesSome
  obtain ⟨x0, x1, x2, x3, x4, x5, rfl⟩ := list6 h.1
  have hw := h.2
  simp only [List.mem_cons, List.not_mem_nil, or_false, forall_eq_or_imp, forall_eq] at hw
  obtain ⟨w0, w1, w2, w3, w4, w5⟩ := hw
  rw [hm]
  unfold Program.keyLits
  simp only [Try.arrKey.hu]
  rw [if_pos (by rw [Try.arrKey.size]; rfl), range6]
  simp [List.mapM_cons, Try.arrKey.one, Program.keyLits, Try.underlying3, w0, w1, w2, w3, w4, w5]

theorem keyOf_arr (zs : List Int) (h : Fits zs) : keyOf Try.prog 129 (arrV zs) = some (klit zs) := by
  have hkt := Try.arrKey.keyType Try.typesSome
  unfold keyOf
  simp only [Try.arrKey.hu]
  rw [if_pos (by simp [hkt, arrV, Value.formed, Try.arrKey.hu, Try.arrKey.size, h.1])]
  have := keyLits_arr zs h
  simp only [arrV, Value.cells]
  rw [this]
  rfl

theorem klit_inj {a b : List Int} (ha : Fits a) (hb : Fits b) (h : klit a = klit b) : a = b :=
  arrV_inj (Try.keyedA.inj (keyOf_arr a ha) (by rw [h]; exact keyOf_arr b hb))

theorem klit_key {a : List Int} (ha : Fits a) : WideAt.IsKeyLit (klit a) := Try.keyedA.key (keyOf_arr a ha)

theorem keyInt_inv {P : Program} {e : TypeId} (he : P.underlying e = some (.int .i64)) {m : Nat} {y : Value} {la : List Lit} (h : P.keyLits (m + 1) e [y] = some la) : ∃ z, y = .int .i64 z ∧ la = [.int .i64 z] ∧ (Lit.int .i64 z).wf = true := by
  cases y <;> simp [Program.keyLits, he] at h
  obtain ⟨⟨rfl, hw⟩, rfl⟩ := h
  exact ⟨_, rfl, rfl, hw⟩

theorem keyOf_arr6_inv {P : Program} {k e : TypeId} (A : WideMaps.ArrKey P k e 6) (he : P.underlying e = some (.int .i64)) (hsz : ∃ m, P.types.size = m + 1) {key : Value} {l : Lit} (h : keyOf P k key = some l) :
    ∃ zs, Fits zs ∧ key = arrV zs ∧ l = klit zs := by
  obtain ⟨xs, L, rfl, hl, rfl⟩ := keyOf_top A.wide h
  clear h
  obtain ⟨m, hm⟩ := hsz
  rw [hm] at hl
  unfold Program.keyLits at hl
  simp only [A.hu] at hl
  split at hl
  · rename_i hlen
    rw [A.size] at hlen
    obtain ⟨l6⟩ := xs
    match l6, hlen with
    | [y0, y1, y2, y3, y4, y5], _ =>
      rw [range6] at hl
      simp only [A.one, List.mapM_cons, List.mapM_nil, Option.map_eq_some_iff, bind, Option.bind_eq_some_iff, pure, Option.some.injEq] at hl
      obtain ⟨_, ⟨b0, h0, _, ⟨b1, h1, _, ⟨b2, h2, _, ⟨b3, h3, _, ⟨b4, h4, _, ⟨b5, h5, _, rfl, rfl⟩, rfl⟩, rfl⟩, rfl⟩, rfl⟩, rfl⟩, rfl⟩ := hl
      obtain ⟨z0, rfl, rfl, w0⟩ := keyInt_inv he h0
      obtain ⟨z1, rfl, rfl, w1⟩ := keyInt_inv he h1
      obtain ⟨z2, rfl, rfl, w2⟩ := keyInt_inv he h2
      obtain ⟨z3, rfl, rfl, w3⟩ := keyInt_inv he h3
      obtain ⟨z4, rfl, rfl, w4⟩ := keyInt_inv he h4
      obtain ⟨z5, rfl, rfl, w5⟩ := keyInt_inv he h5
      exact ⟨[z0, z1, z2, z3, z4, z5], ⟨rfl, by simp [w0, w1, w2, w3, w4, w5]⟩, rfl, rfl⟩
  · cases hl
theorem keyOf_arr_inv {key : Value} {l : Lit} (h : keyOf Try.prog 129 key = some l) : ∃ zs, Fits zs ∧ key = arrV zs ∧ l = klit zs := keyOf_arr6_inv Try.arrKey Try.underlying3 Try.typesSome h

/-- A map of weights: at each array f's number, an entry just at the arrays of S. -/
def MapIs (D : DataW Unit) (f : List Int → Int) (S : List (List Int)) : Prop :=
  ∀ a, Fits a → D.atKey (klit a) (.lit (.int .i64 0)) = .lit (.int .i64 (f a)) ∧ Maps.has D (klit a) = decide (a ∈ S)

theorem MapIs.empty : MapIs (.map []) (fun _ => 0) [] := fun a _ => ⟨rfl, by simp [Maps.has_eq]⟩

theorem MapIs.put {D : DataW Unit} {f : List Int → Int} {S : List (List Int)} (h : MapIs D f S) (hD : IsMap D) {a : List Int} (ha : Fits a) (v : Int) :
    MapIs (D.put (klit a) (.lit (.int .i64 v))) (fun x => if x = a then v else f x) (a :: S) := fun x hx => by
  by_cases e : x = a
  · subst e
    exact ⟨by rw [atKey_put_same hD (klit_key hx)]; simp, by rw [has_put_same hD (klit_key hx)]; simp⟩
  · have hne : klit x ≠ klit a := fun e' => e (klit_inj hx ha e')
    obtain ⟨h1, h2⟩ := h x hx
    exact ⟨by rw [atKey_put_other hne, h1]; simp [e], by rw [has_put_other hne, h2]; simp [e]⟩

theorem MapIs.at {D : DataW Unit} {f : List Int → Int} {S : List (List Int)} (h : MapIs D f S) {a : List Int} (ha : Fits a) {c : Int} (hc : D.atKey (klit a) (.lit (.int .i64 0)) = .lit (.int .i64 c)) : c = f a := by
  rw [(h a ha).1] at hc
  simpa using hc.symm

theorem wf_i64 {z : Int} (h1 : -9223372036854775808 ≤ z) (h2 : z ≤ 9223372036854775807) : (Lit.int .i64 z).wf = true := WalkArith.wf_i64 (by omega)

theorem fits_raised {zs : List Int} (h : good zs = true) : Fits (raised zs) := by
  refine ⟨raised_length (good_len h), fun z hz => ?_⟩
  unfold raised at hz
  rcases List.mem_append.1 hz with hz | hz
  · obtain ⟨x, hx, rfl⟩ := List.mem_map.1 hz
    have := good_mem h x hx
    exact wf_i64 (by omega) (by omega)
  · obtain ⟨_, rfl⟩ := List.mem_replicate.1 hz
    exact wf_i64 (by omega) (by omega)

theorem nocell_map {w : World} {b n : Nat} {D : DataW Unit} {k : TypeId} {R : Value → Option (DataW Unit × List MemPlace)} (h : w.ownsMap Try.prog k R b n D) (a : Addr) {v : Value} (hc : w.cell? a = some v) : a.block ≠ b := by
  obtain ⟨es, clock, hb, _⟩ := h
  rintro rfl
  simp [World.cell?, hb] at hc

theorem At.grown {w w' : World} {b : Nat} {a : Option Addr} {zs : List Int} (h : At w a zs) (hg : w.grownBy w' (Option.some b)) (hm : ∀ (p : Addr) (v : Value), w.cell? p = Option.some v → p.block ≠ b) : At w' a zs := by
  rcases h with h | ⟨b', off, rfl, hc⟩
  · exact .inl h
  · exact .inr ⟨b', off, rfl, fun i hi => hg.cell (hc i hi) (fun e => hm _ _ (hc i hi) (by simpa using e))⟩
theorem AtW.grown {w w' : World} {b : Nat} {a : Option Addr} {ts : List WRow} (h : AtW w a ts) (hg : w.grownBy w' (Option.some b)) (hm : ∀ (p : Addr) (v : Value), w.cell? p = Option.some v → p.block ≠ b) : AtW w' a ts := by
  rcases h with h | ⟨b', off, rfl, hc⟩
  · exact .inl h
  · refine .inr ⟨b', off, rfl, fun i hi => ?_⟩
    obtain ⟨a', c', h1, h2, h3, h4⟩ := hc i hi
    exact ⟨a', c', hg.cell h1 (fun e => hm _ _ h1 (by simpa using e)), hg.cell h2 (fun e => hm _ _ h2 (by simpa using e)), h3, h4.grown hg hm⟩
theorem Below.toGrown {w w' : World} (h : Below w.heap.size w w') (row : Option Nat) : w.grownBy w' row := ⟨h.os, h.tape, h.output, h.size, fun k hk _ => h.block k hk⟩

/-- What the first k rows add at the array a. -/
def sumAt (ts : List WRow) (k : Nat) (times : Int) (a : List Int) : Int := ((ts.take k).map fun t => if raised t.1 = a then t.2 * times else 0).sum
theorem sumAt_zero (ts : List WRow) (times : Int) (a : List Int) : sumAt ts 0 times a = 0 := rfl
theorem sumAt_succ (ts : List WRow) (k : Nat) (times : Int) (a : List Int) (h : k < ts.length) : sumAt ts (k + 1) times a = sumAt ts k times a + (if raised (wat ts k).1 = a then (wat ts k).2 * times else 0) := by
  unfold sumAt
  rw [wtake_succ ts k h, List.map_append, List.sum_append]
  simp
/-- The arrays of the first k rows. -/
def keysTo (ts : List WRow) (k : Nat) : List (List Int) := ((ts.take k).map fun t => raised t.1).reverse
theorem keysTo_succ (ts : List WRow) (k : Nat) (h : k < ts.length) : keysTo ts (k + 1) = raised (wat ts k).1 :: keysTo ts k := by
  unfold keysTo
  rw [wtake_succ ts k h, List.map_append, List.reverse_append]
  rfl

end Go.Proofs.Ytipgepienagplaa

/- Plain: what a list of rows tells of weights. -/
namespace Go.Proofs.Ytipgepienagplaa

/-- What the arrays of a map of weights have in common: each is a good row's with so many cells. -/
def Keys (q : Nat) (S : List (List Int)) : Prop := ∀ a ∈ S, ∃ zs, good zs = true ∧ zs.length = q ∧ a = raised zs

/-- A list of rows that has just the weights of f. -/
structure Tells (q : Nat) (f : List Int → Int) (ts : List WRow) : Prop where
  rises : Rises ts
  noZero : NoZero ts
  rows : ∀ t ∈ ts, good t.1 = true ∧ t.1.length = q
  weight : ∀ zs, good zs = true → zs.length = q → wOf ts zs = f (raised zs)

end Go.Proofs.Ytipgepienagplaa

/- One more weighted row at a slice's end: what is owned behind 'append(rows, row)'. -/
namespace Go.Proofs.Ytipgepienagplaa
open Go.RowKit

theorem wat_left {ts ts' : List WRow} {i : Nat} (h : i < ts.length) : wat (ts ++ ts') i = wat ts i := by simp [wat, List.getD, List.getElem?_append_left h]
theorem wat_last (ts : List WRow) (t : WRow) : wat (ts ++ [t]) ts.length = t := by simp [wat, List.getD]

theorem OwnWk.pushed {w w2 w4 : World} {lo hi : Nat} {te ti : TypeId} {a a' : Option Addr} {n c m c' g cap : Nat} {ts : List WRow} {cells : List Value} {zs : List Int} {x : Int} {o : Obj} (h : OwnW w lo hi te ti a n c ts cells) (hlo : lo ≤ w.heap.size) (hb : Below w.heap.size w w2)
    (hm : zs.length = m) (hrow : w2.ownsRow w.heap.size ti 1 (.slice a' m c') m (zs.map (.int .i64)))
    (hown : w4.ownsRow lo te 2 (.slice (some ⟨g, 0, none⟩) (n + 1) cap) (n + 1) (cells ++ [.slice a' m c', .int .i64 x])) (hgr : (w2.alloc o).grownBy w4 (Value.slice a n c).ownBlock)
    (hat : (Value.slice a n c).ownBlock = some g ∨ g = w2.heap.size + 1) (hlt : g < w4.heap.size) :
    OwnW w4 lo w4.heap.size te ti (some ⟨g, 0, none⟩) (n + 1) cap (ts ++ [(zs, x)]) (cells ++ [.slice a' m c', .int .i64 x]) := by
  have hz := h.len
  have hl := h.outer.1
  have hz2 := hb.size
  have htop := h.top
  have hsz4 : w2.heap.size + 1 ≤ w4.heap.size := by have := hgr.size; simpa using this
  have hout : ∀ b, (Value.slice a n c).ownBlock = some b → b < w.heap.size := fun b hb' => Nat.lt_of_lt_of_le (h.outerLt b hb') htop
  have hL : ∀ i, i < n → (cells ++ [.slice a' m c', .int .i64 x])[i * 2]? = cells[i * 2]? ∧ (cells ++ [.slice a' m c', .int .i64 x])[i * 2 + 1]? = cells[i * 2 + 1]? := fun i hi =>
    ⟨List.getElem?_append_left (by omega), List.getElem?_append_left (by omega)⟩
  have hN0 : (cells ++ [.slice a' m c', .int .i64 x])[n * 2]? = some (.slice a' m c') := by
    rw [List.getElem?_append_right (by omega), show n * 2 - cells.length = 0 by omega]; rfl
  have hN1 : (cells ++ [.slice a' m c', .int .i64 x])[n * 2 + 1]? = some (.int .i64 x) := by
    rw [List.getElem?_append_right (by omega), show n * 2 + 1 - cells.length = 1 by omega]; rfl
  have hblk : ∀ i, i < n → blkW (cells ++ [.slice a' m c', .int .i64 x]) i = blkW cells i := fun i hi => by simp only [blkW, List.getD, (hL i hi).1]
  have hblkN : blkW (cells ++ [.slice a' m c', .int .i64 x]) n = (Value.slice a' m c').ownBlock := blkW_of hN0
  have hnew : ∀ b, (Value.slice a' m c').ownBlock = some b → w.heap.size ≤ b ∧ b < w2.heap.size := fun b hb' => hrow.lt b hb'
  have hold : ∀ i, i < n → ∀ b, blkW cells i = some b → b < w.heap.size := fun i hi b hb' => Nat.lt_of_lt_of_le (h.rowLt i hi b hb').1 htop
  refine ⟨by simp [hz], Nat.le_refl _, hown, fun b hb' => by simp [Value.ownBlock] at hb'; omega, fun i hi => ?_, fun i hi b hb' => ?_, fun i j hi hj hij b hb' => ?_⟩
  · by_cases e : i = n
    · subst e
      rw [show wat (ts ++ [(zs, x)]) i = (zs, x) by rw [← hz]; exact wat_last ts _]
      refine ⟨a', c', by rw [hN0, hm], hN1, ?_⟩
      simp only [hm]
      refine owns_mono ((hrow.alloc o).kept hgr ?_) hlo
      cases hv : (Value.slice a' m c').ownBlock with
      | none => exact .inl rfl
      | some k => exact .inr (fun e' => by have := hnew k hv; have := hout k e'.symm; omega)
    · have hi' : i < n := by omega
      obtain ⟨a1, c1, k1, k2, k3⟩ := h.row i hi'
      rw [wat_left (by omega)]
      refine ⟨a1, c1, by rw [(hL i hi').1]; exact k1, by rw [(hL i hi').2]; exact k2, ((owns_below k3 hb).alloc o).kept hgr ?_⟩
      cases hv : (Value.slice a1 (wat ts i).1.length c1).ownBlock with
      | none => exact .inl rfl
      | some k => exact .inr (fun e' => (h.rowLt i hi' k (by rw [blkW_of k1]; exact hv)).2 e'.symm)
  · by_cases e : i = n
    · subst e
      rw [hblkN] at hb'
      have := hnew b hb'
      refine ⟨by omega, fun e' => ?_⟩
      have hgb : g = b := by simpa [Value.ownBlock] using e'
      rcases hat with h' | h'
      · have := hout g h'; omega
      · omega
    · have hi' : i < n := by omega
      rw [hblk i hi'] at hb'
      have := hold i hi' b hb'
      refine ⟨by omega, fun e' => ?_⟩
      have hgb : g = b := by simpa [Value.ownBlock] using e'
      rcases hat with h' | h'
      · exact (h.rowLt i hi' b hb').2 (by rw [h', hgb])
      · omega
  · by_cases ei : i = n
    · subst ei
      rw [hblkN] at hb'
      have h1 := hnew b hb'
      rw [hblk j (by omega)]
      intro e'
      have := hold j (by omega) b e'
      omega
    · rw [hblk i (by omega)] at hb'
      by_cases ej : j = n
      · subst ej
        rw [hblkN]
        intro e'
        have := hnew b e'
        have := hold i (by omega) b hb'
        omega
      · rw [hblk j (by omega)]
        exact h.apart i j (by omega) (by omega) hij b hb'

end Go.Proofs.Ytipgepienagplaa
