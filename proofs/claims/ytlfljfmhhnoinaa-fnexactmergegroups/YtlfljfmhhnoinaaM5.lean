/- Several texts of one proof, in build order: PlainP, PutV, PlainPick, GoodRow. -/
import Derived.Test.YtlfljfmhhnoinaaM4
import Derived.Test.YtlfljfmhhnoinaaM1

/- Plain facts: a weight put to a row, many of them, and that a rising list is told by its weights. -/
namespace Go.Proofs.Ytlfljfmhhnoinaa

/-- A row with its weight, nothing where it is 0. -/
def oneW (zs : List Int) (x : Int) : List WRow := if x = 0 then [] else [(zs, x)]
/-- What is left behind the place at which a row is put. -/
def restW (zs : List Int) (x : Int) : List WRow → List WRow
  | [] => oneW zs x
  | t :: ts => if cmp t.1 zs = 0 then oneW zs (x + t.2) ++ ts else oneW zs x ++ t :: ts
/-- A weight is put to a row. -/
def putW : List WRow → List Int → Int → List WRow
  | [], zs, x => restW zs x []
  | t :: ts, zs, x => if cmp t.1 zs < 0 then t :: putW ts zs x else restW zs x (t :: ts)

theorem putW_at (zs : List Int) (x : Int) : ∀ (ts : List WRow) (k : Nat), k ≤ ts.length → (∀ j, j < k → cmp (wat ts j).1 zs < 0) → (k < ts.length → ¬ cmp (wat ts k).1 zs < 0) → putW ts zs x = ts.take k ++ restW zs x (ts.drop k) := by
  intro ts
  induction ts with
  | nil => intro k hk _ _; obtain rfl : k = 0 := by simpa using hk
           rfl
  | cons t ts ih =>
    intro k hk h1 h2
    cases k with
    | zero =>
      have : ¬ cmp t.1 zs < 0 := by simpa [wat, List.getD] using h2 (by simp)
      simp only [putW, if_neg this, List.take_zero, List.drop_zero, List.nil_append]
    | succ k =>
      have h0 : cmp t.1 zs < 0 := by simpa [wat, List.getD] using h1 0 (by omega)
      simp only [putW, if_pos h0, List.take_succ_cons, List.drop_succ_cons, List.cons_append]
      rw [ih k (by simpa using hk) (fun j hj => by simpa [wat, List.getD] using h1 (j + 1) (by omega)) (fun h => by simpa [wat, List.getD] using h2 (by simpa using h))]

theorem restW_cons (zs : List Int) (x : Int) (ts : List WRow) (k : Nat) (h : k < ts.length) :
    restW zs x (ts.drop k) = if cmp (wat ts k).1 zs = 0 then oneW zs (x + (wat ts k).2) ++ ts.drop (k + 1) else oneW zs x ++ ts.drop k := by
  rw [List.drop_eq_getElem_cons h]
  simp [restW, wat, List.getD, h]

/-- No weight is 0. -/
def NoZero (ts : List WRow) : Prop := ∀ t ∈ ts, t.2 ≠ 0

theorem oneW_mem {zs : List Int} {x : Int} {t : WRow} (h : t ∈ oneW zs x) : t = (zs, x) ∧ x ≠ 0 := by
  unfold oneW at h
  by_cases e : x = 0
  · simp [e] at h
  · rw [if_neg e] at h; exact ⟨by simpa using h, e⟩

theorem cmp_tri (xs ys : List Int) : cmp xs ys < 0 ∨ xs = ys ∨ cmp ys xs < 0 := by
  rcases cmp_range xs ys with h | h | h
  · left; omega
  · right; left; exact cmp_eq h
  · right; right; have := cmp_swap xs ys; omega

theorem putW_mem {zs : List Int} {x : Int} {t : WRow} : ∀ {ts : List WRow}, t ∈ putW ts zs x → t ∈ ts ∨ t.1 = zs := by
  intro ts
  induction ts with
  | nil => intro h; right; exact congrArg Prod.fst (oneW_mem h).1
  | cons s ts ih =>
    intro h
    simp only [putW] at h
    by_cases e : cmp s.1 zs < 0
    · rw [if_pos e] at h
      rcases List.mem_cons.1 h with rfl | h
      · left; simp
      · rcases ih h with h | h
        · left; simp [h]
        · right; exact h
    · rw [if_neg e] at h
      simp only [restW] at h
      by_cases e2 : cmp s.1 zs = 0
      · rw [if_pos e2] at h
        rcases List.mem_append.1 h with h | h
        · right; exact congrArg Prod.fst (oneW_mem h).1
        · left; simp [h]
      · rw [if_neg e2] at h
        rcases List.mem_append.1 h with h | h
        · right; exact congrArg Prod.fst (oneW_mem h).1
        · left; exact h

theorem rises_one (zs : List Int) (x : Int) (ts : List WRow) (hr : Rises ts) (h : ∀ t ∈ ts, cmp zs t.1 < 0) : Rises (oneW zs x ++ ts) := by
  unfold oneW
  by_cases e : x = 0
  · simpa [e] using hr
  · rw [if_neg e]; exact List.pairwise_cons.2 ⟨h, hr⟩

theorem putW_rises {zs : List Int} {x : Int} : ∀ {ts : List WRow}, Rises ts → Rises (putW ts zs x) := by
  intro ts
  induction ts with
  | nil => intro _; have := rises_one zs x [] List.Pairwise.nil (by simp); simpa [putW, restW] using this
  | cons s ts ih =>
    intro h
    obtain ⟨h1, h2⟩ := List.pairwise_cons.1 h
    simp only [putW]
    by_cases e : cmp s.1 zs < 0
    · rw [if_pos e]
      refine List.pairwise_cons.2 ⟨fun t ht => ?_, ih h2⟩
      rcases putW_mem ht with h' | h'
      · exact h1 t h'
      · rw [h']; exact e
    · rw [if_neg e]
      simp only [restW]
      by_cases e2 : cmp s.1 zs = 0
      · rw [if_pos e2]
        refine rises_one _ _ _ h2 fun t ht => ?_
        rw [← cmp_eq e2]; exact h1 t ht
      · rw [if_neg e2]
        have e3 : cmp zs s.1 < 0 := by have := cmp_swap s.1 zs; have := cmp_range s.1 zs; omega
        refine rises_one _ _ _ h fun t ht => ?_
        rcases List.mem_cons.1 ht with rfl | ht
        · exact e3
        · exact cmp_trans e3 (h1 t ht)

theorem putW_nozero {zs : List Int} {x : Int} : ∀ {ts : List WRow}, NoZero ts → NoZero (putW ts zs x) := by
  intro ts
  induction ts with
  | nil => intro _ t ht; obtain ⟨rfl, h⟩ := oneW_mem ht; exact h
  | cons s ts ih =>
    intro h t ht
    simp only [putW] at ht
    have hts : NoZero ts := fun t ht => h t (by simp [ht])
    by_cases e : cmp s.1 zs < 0
    · rw [if_pos e] at ht
      rcases List.mem_cons.1 ht with rfl | ht
      · exact h _ (by simp)
      · exact ih hts t ht
    · rw [if_neg e] at ht
      simp only [restW] at ht
      by_cases e2 : cmp s.1 zs = 0
      · rw [if_pos e2] at ht
        rcases List.mem_append.1 ht with ht | ht
        · obtain ⟨rfl, h⟩ := oneW_mem ht; exact h
        · exact hts t ht
      · rw [if_neg e2] at ht
        rcases List.mem_append.1 ht with ht | ht
        · obtain ⟨rfl, h⟩ := oneW_mem ht; exact h
        · exact h t ht

theorem wOf_one (zs : List Int) (x : Int) (ts : List WRow) (ys : List Int) (h : ∀ t ∈ ts, t.1 ≠ zs) : wOf (oneW zs x ++ ts) ys = wOf ts ys + if zs = ys then x else 0 := by
  unfold oneW
  by_cases e : x = 0
  · rw [if_pos e]; simp [e]
  · rw [if_neg e, List.singleton_append, wOf_cons]
    by_cases e2 : zs = ys
    · subst e2
      rw [if_pos rfl, if_pos rfl, wOf_absent h]; simp
    · rw [if_neg e2, if_neg e2]; simp

theorem putW_wOf {zs : List Int} {x : Int} (ys : List Int) : ∀ {ts : List WRow}, Rises ts → wOf (putW ts zs x) ys = wOf ts ys + if zs = ys then x else 0 := by
  intro ts
  induction ts with
  | nil => intro _; have := wOf_one zs x [] ys (by simp); simpa [putW, restW] using this
  | cons s ts ih =>
    intro h
    obtain ⟨h1, h2⟩ := List.pairwise_cons.1 h
    simp only [putW]
    by_cases e : cmp s.1 zs < 0
    · rw [if_pos e, wOf_cons, wOf_cons, ih h2]
      by_cases e2 : s.1 = ys
      · rw [if_pos e2, if_pos e2, if_neg (fun e3 => cmp_ne e (e2.trans e3.symm))]; simp
      · rw [if_neg e2, if_neg e2]
    · rw [if_neg e]
      simp only [restW]
      by_cases e2 : cmp s.1 zs = 0
      · have es := cmp_eq e2
        rw [if_pos e2, wOf_one _ _ _ _ (fun t ht e' => cmp_ne (h1 t ht) (es.trans e'.symm)), wOf_cons, es]
        by_cases e3 : zs = ys
        · subst e3
          rw [if_pos rfl, if_pos rfl, if_pos rfl, wOf_absent (fun t ht e' => cmp_ne (h1 t ht) (es.trans e'.symm))]; omega
        · rw [if_neg e3, if_neg e3, if_neg e3]
      · rw [if_neg e2]
        have e3 : cmp zs s.1 < 0 := by have := cmp_swap s.1 zs; have := cmp_range s.1 zs; omega
        exact wOf_one _ _ _ _ fun t ht e' => by
          rcases List.mem_cons.1 ht with rfl | ht
          · exact cmp_ne e3 e'.symm
          · exact cmp_ne (cmp_trans e3 (h1 t ht)) e'.symm

theorem wOf_mem {ts : List WRow} (hr : Rises ts) {t : WRow} (h : t ∈ ts) : wOf ts t.1 = t.2 := by
  induction ts with
  | nil => simp at h
  | cons s ts ih =>
    obtain ⟨h1, h2⟩ := List.pairwise_cons.1 hr
    rw [wOf_cons]
    rcases List.mem_cons.1 h with rfl | h
    · simp
    · rw [if_neg (fun e => cmp_ne (h1 t h) e)]; exact ih h2 h
theorem mem_wOf {ts : List WRow} {zs : List Int} (h : wOf ts zs ≠ 0) : (zs, wOf ts zs) ∈ ts := by
  induction ts with
  | nil => exact absurd rfl h
  | cons s ts ih =>
    rw [wOf_cons] at h ⊢
    by_cases e : s.1 = zs
    · rw [if_pos e]; subst e; simp
    · rw [if_neg e] at h ⊢; simp [ih h]

/-- Two rising lists without zeros that have the same weights are one. -/
theorem rises_ext : ∀ {ts us : List WRow}, Rises ts → Rises us → NoZero ts → NoZero us → (∀ zs, wOf ts zs = wOf us zs) → ts = us := by
  intro ts
  induction ts with
  | nil =>
    intro us _ hu _ nu h
    cases us with
    | nil => rfl
    | cons u us =>
      have := h u.1
      rw [wOf_mem hu (by simp), wOf_nil] at this
      exact absurd this.symm (nu u (by simp))
  | cons t ts ih =>
    intro us ht hu nt nu h
    cases us with
    | nil =>
      have := h t.1
      rw [wOf_mem ht (by simp), wOf_nil] at this
      exact absurd this (nt t (by simp))
    | cons u us =>
      obtain ⟨t1, t2⟩ := List.pairwise_cons.1 ht
      obtain ⟨u1, u2⟩ := List.pairwise_cons.1 hu
      have e1 : (t.1, t.2) ∈ u :: us := by
        have := h t.1
        rw [wOf_mem ht (by simp)] at this
        rw [this]; exact mem_wOf (by rw [← this]; exact nt t (by simp))
      have e2 : (u.1, u.2) ∈ t :: ts := by
        have := h u.1
        rw [wOf_mem hu (by simp)] at this
        rw [← this]; exact mem_wOf (by rw [this]; exact nu u (by simp))
      have e : t = u := by
        rcases List.mem_cons.1 e1 with e1 | e1
        · exact e1
        · rcases List.mem_cons.1 e2 with e2 | e2
          · exact e2.symm
          · exact absurd (cmp_trans (u1 _ e1) (t1 _ e2)) (cmp_irrefl _)
      subst e
      congr 1
      refine ih t2 u2 (fun s hs => nt s (by simp [hs])) (fun s hs => nu s (by simp [hs])) fun zs => ?_
      have := h zs
      rw [wOf_cons, wOf_cons] at this
      by_cases e : t.1 = zs
      · subst e
        rw [wOf_absent fun s hs e' => cmp_ne (t1 s hs) e'.symm, wOf_absent fun s hs e' => cmp_ne (u1 s hs) e'.symm]
      · rwa [if_neg e, if_neg e] at this

/-- What rows add at a row. -/
def sumW (l : List WRow) (zs : List Int) : Int := (l.map fun t => if t.1 = zs then t.2 else 0).sum
/-- All rows are put, one by one. -/
def putAll (ts l : List WRow) : List WRow := l.foldl (fun acc t => putW acc t.1 t.2) ts
theorem putAll_nil (ts : List WRow) : putAll ts [] = ts := rfl
theorem putAll_snoc (ts l : List WRow) (t : WRow) : putAll ts (l ++ [t]) = putW (putAll ts l) t.1 t.2 := by simp [putAll]
theorem putAll_take (ts l : List WRow) (k : Nat) (h : k < l.length) : putAll ts (l.take (k + 1)) = putW (putAll ts (l.take k)) (wat l k).1 (wat l k).2 := by rw [wtake_succ l k h, putAll_snoc]
theorem putAll_rises {l : List WRow} : ∀ {ts : List WRow}, Rises ts → Rises (putAll ts l) := by
  induction l with
  | nil => intro ts h; exact h
  | cons t l ih => intro ts h; exact ih (putW_rises h)
theorem putAll_nozero {l : List WRow} : ∀ {ts : List WRow}, NoZero ts → NoZero (putAll ts l) := by
  induction l with
  | nil => intro ts h; exact h
  | cons t l ih => intro ts h; exact ih (putW_nozero h)
theorem putAll_wOf {l : List WRow} (zs : List Int) : ∀ {ts : List WRow}, Rises ts → wOf (putAll ts l) zs = wOf ts zs + sumW l zs := by
  induction l with
  | nil => intro ts h; simp [putAll, sumW]
  | cons t l ih =>
    intro ts h
    have := ih (ts := putW ts t.1 t.2) (putW_rises h)
    rw [putW_wOf zs h] at this
    simp only [putAll, List.foldl_cons] at this ⊢
    rw [this]
    simp only [sumW, List.map_cons, List.sum_cons]
    omega
theorem putW_len {zs : List Int} {x : Int} : ∀ {ts : List WRow}, (putW ts zs x).length ≤ ts.length + 1 := by
  have h1 : ∀ y, (oneW zs y).length ≤ 1 := fun y => by unfold oneW; split <;> simp
  intro ts
  induction ts with
  | nil => simpa [putW, restW] using h1 x
  | cons t ts ih =>
    simp only [putW]
    split
    · simpa using ih
    · simp only [restW]
      split
      · have := h1 (x + t.2); simp; omega
      · have := h1 x; simp; omega
theorem putAll_len (l : List WRow) : ∀ (ts : List WRow), (putAll ts l).length ≤ ts.length + l.length := by
  induction l with
  | nil => intro ts; simp [putAll]
  | cons t l ih => intro ts; have := ih (putW ts t.1 t.2); have := putW_len (zs := t.1) (x := t.2) (ts := ts); simp only [putAll, List.foldl_cons, List.length_cons] at *; omega
/-- Each row of it is one that was there or was put. -/
theorem putAll_rows {l : List WRow} {t : WRow} : ∀ {ts : List WRow}, t ∈ putAll ts l → (∃ s ∈ ts, s.1 = t.1) ∨ ∃ s ∈ l, s.1 = t.1 := by
  induction l with
  | nil => intro ts h; exact .inl ⟨t, h, rfl⟩
  | cons s l ih =>
    intro ts h
    rcases ih (ts := putW ts s.1 s.2) h with ⟨u, hu, e⟩ | ⟨u, hu, e⟩
    · rcases putW_mem hu with h' | h'
      · exact .inl ⟨u, h', e⟩
      · exact .inr ⟨s, by simp, by rw [← e, h']⟩
    · exact .inr ⟨u, by simp [hu], e⟩
/-- Weights stay within what was there and what was put. -/
theorem sumW_bound {l : List WRow} {zs : List Int} {M : Int} (hM : 0 ≤ M) (h : ∀ t ∈ l, -M ≤ t.2 ∧ t.2 ≤ M) : -(M * l.length) ≤ sumW l zs ∧ sumW l zs ≤ M * l.length := by
  induction l with
  | nil => simp [sumW]
  | cons t l ih =>
    have h1 := ih fun s hs => h s (by simp [hs])
    have h2 := h t (by simp)
    have e : M * ((t :: l).length : Int) = M * (l.length : Int) + M := by rw [List.length_cons]; push_cast; rw [Int.mul_add]; omega
    rw [e]
    simp only [sumW, List.map_cons, List.sum_cons] at h1 ⊢
    by_cases e2 : t.1 = zs
    · rw [if_pos e2]; omega
    · rw [if_neg e2]; omega
theorem wOf_bound {ts : List WRow} {zs : List Int} {M : Int} (hM : 0 ≤ M) (h : ∀ t ∈ ts, -M ≤ t.2 ∧ t.2 ≤ M) : -M ≤ wOf ts zs ∧ wOf ts zs ≤ M := by
  by_cases e : wOf ts zs = 0
  · rw [e]; omega
  · exact h _ (mem_wOf e)

end Go.Proofs.Ytlfljfmhhnoinaa

/- Plain facts: an amount put to a key, many of them, and that a rising list of groups is told by its amounts. -/
namespace Go.Proofs.Ytlfljfmhhnoinaa

/-- Two numbers of a group. -/
abbrev Amt := Int × Int
def addA (x y : Amt) : Amt := (x.1 + y.1, x.2 + y.2)
theorem addA_zero (x : Amt) : addA x (0, 0) = x := by simp [addA]
theorem zero_addA (x : Amt) : addA (0, 0) x = x := by simp [addA]
theorem addA_comm (x y : Amt) : addA x y = addA y x := by simp [addA, Int.add_comm]
theorem addA_assoc (x y z : Amt) : addA (addA x y) z = addA x (addA y z) := by simp [addA, Int.add_assoc]

/-- Keys that rise. -/
def RisesV (ts : List GRow) : Prop := ts.Pairwise fun s t => cmp s.1 t.1 < 0
theorem risesV_of {ts : List GRow} (h : ∀ k, k + 1 < ts.length → cmp (gat ts k).1 (gat ts (k + 1)).1 < 0) : RisesV ts := by
  induction ts with
  | nil => exact List.Pairwise.nil
  | cons t ts ih =>
    have ih' : RisesV ts := ih fun k hk => by simpa [gat, List.getD] using h (k + 1) (by simpa using hk)
    refine List.pairwise_cons.2 ⟨fun s hs => ?_, ih'⟩
    cases ts with
    | nil => simp at hs
    | cons u us =>
      have h0 : cmp t.1 u.1 < 0 := by simpa [gat, List.getD] using h 0 (by simp)
      rcases List.mem_cons.1 hs with rfl | hs
      · exact h0
      · exact cmp_trans h0 ((List.pairwise_cons.1 ih').1 s hs)
theorem goodV_rises {ts : List GRow} (h : goodV ts = true) : RisesV ts := risesV_of fun k hk => by
  have := (goodV_parts h).2 (k + 1) hk
  simp only [stepV, Bool.and_eq_true, Bool.or_eq_true, decide_eq_true_eq] at this
  rcases this.2 with h0 | h0
  · omega
  · simpa using h0

/-- The amount of a key, nothing where it is not there. -/
def vOf (ts : List GRow) (zs : List Int) : Amt := ((ts.find? fun t => decide (t.1 = zs)).map fun t => t.2).getD (0, 0)
theorem vOf_nil (zs : List Int) : vOf [] zs = (0, 0) := rfl
theorem vOf_cons (t : GRow) (ts : List GRow) (zs : List Int) : vOf (t :: ts) zs = if t.1 = zs then t.2 else vOf ts zs := by
  unfold vOf
  by_cases e : t.1 = zs <;> simp [e]
theorem vOf_absent {ts : List GRow} {zs : List Int} (h : ∀ t ∈ ts, t.1 ≠ zs) : vOf ts zs = (0, 0) := by
  induction ts with
  | nil => rfl
  | cons t ts ih => rw [vOf_cons, if_neg (h t (by simp))]; exact ih fun s hs => h s (by simp [hs])

/-- A key with its amount, nothing where it is nothing. -/
def oneV (zs : List Int) (x : Amt) : List GRow := if x = (0, 0) then [] else [(zs, x)]
/-- What is left behind the place at which a key is put. -/
def restV (zs : List Int) (x : Amt) : List GRow → List GRow
  | [] => oneV zs x
  | t :: ts => if cmp t.1 zs = 0 then oneV zs (addA x t.2) ++ ts else oneV zs x ++ t :: ts
/-- An amount is put to a key. -/
def putV : List GRow → List Int → Amt → List GRow
  | [], zs, x => restV zs x []
  | t :: ts, zs, x => if cmp t.1 zs < 0 then t :: putV ts zs x else restV zs x (t :: ts)

theorem putV_at (zs : List Int) (x : Amt) : ∀ (ts : List GRow) (k : Nat), k ≤ ts.length → (∀ j, j < k → cmp (gat ts j).1 zs < 0) → (k < ts.length → ¬ cmp (gat ts k).1 zs < 0) → putV ts zs x = ts.take k ++ restV zs x (ts.drop k) := by
  intro ts
  induction ts with
  | nil => intro k hk _ _; obtain rfl : k = 0 := by simpa using hk
           rfl
  | cons t ts ih =>
    intro k hk h1 h2
    cases k with
    | zero =>
      have : ¬ cmp t.1 zs < 0 := by simpa [gat, List.getD] using h2 (by simp)
      simp only [putV, if_neg this, List.take_zero, List.drop_zero, List.nil_append]
    | succ k =>
      have h0 : cmp t.1 zs < 0 := by simpa [gat, List.getD] using h1 0 (by omega)
      simp only [putV, if_pos h0, List.take_succ_cons, List.drop_succ_cons, List.cons_append]
      rw [ih k (by simpa using hk) (fun j hj => by simpa [gat, List.getD] using h1 (j + 1) (by omega)) (fun h => by simpa [gat, List.getD] using h2 (by simpa using h))]

theorem restV_cons (zs : List Int) (x : Amt) (ts : List GRow) (k : Nat) (h : k < ts.length) :
    restV zs x (ts.drop k) = if cmp (gat ts k).1 zs = 0 then oneV zs (addA x (gat ts k).2) ++ ts.drop (k + 1) else oneV zs x ++ ts.drop k := by
  rw [List.drop_eq_getElem_cons h]
  simp [restV, gat, List.getD, h]

/-- No amount is nothing. -/
def NoZeroV (ts : List GRow) : Prop := ∀ t ∈ ts, t.2 ≠ (0, 0)

theorem oneV_mem {zs : List Int} {x : Amt} {t : GRow} (h : t ∈ oneV zs x) : t = (zs, x) ∧ x ≠ (0, 0) := by
  unfold oneV at h
  by_cases e : x = (0, 0)
  · simp [e] at h
  · rw [if_neg e] at h; exact ⟨by simpa using h, e⟩

theorem putV_mem {zs : List Int} {x : Amt} {t : GRow} : ∀ {ts : List GRow}, t ∈ putV ts zs x → t ∈ ts ∨ t.1 = zs := by
  intro ts
  induction ts with
  | nil => intro h; right; exact congrArg Prod.fst (oneV_mem h).1
  | cons s ts ih =>
    intro h
    simp only [putV] at h
    by_cases e : cmp s.1 zs < 0
    · rw [if_pos e] at h
      rcases List.mem_cons.1 h with rfl | h
      · left; simp
      · rcases ih h with h | h
        · left; simp [h]
        · right; exact h
    · rw [if_neg e] at h
      simp only [restV] at h
      by_cases e2 : cmp s.1 zs = 0
      · rw [if_pos e2] at h
        rcases List.mem_append.1 h with h | h
        · right; exact congrArg Prod.fst (oneV_mem h).1
        · left; simp [h]
      · rw [if_neg e2] at h
        rcases List.mem_append.1 h with h | h
        · right; exact congrArg Prod.fst (oneV_mem h).1
        · left; exact h

theorem risesV_one (zs : List Int) (x : Amt) (ts : List GRow) (hr : RisesV ts) (h : ∀ t ∈ ts, cmp zs t.1 < 0) : RisesV (oneV zs x ++ ts) := by
  unfold oneV
  by_cases e : x = (0, 0)
  · simpa [e] using hr
  · rw [if_neg e]; exact List.pairwise_cons.2 ⟨h, hr⟩

theorem putV_rises {zs : List Int} {x : Amt} : ∀ {ts : List GRow}, RisesV ts → RisesV (putV ts zs x) := by
  intro ts
  induction ts with
  | nil => intro _; have := risesV_one zs x [] List.Pairwise.nil (by simp); simpa [putV, restV] using this
  | cons s ts ih =>
    intro h
    obtain ⟨h1, h2⟩ := List.pairwise_cons.1 h
    simp only [putV]
    by_cases e : cmp s.1 zs < 0
    · rw [if_pos e]
      refine List.pairwise_cons.2 ⟨fun t ht => ?_, ih h2⟩
      rcases putV_mem ht with h' | h'
      · exact h1 t h'
      · rw [h']; exact e
    · rw [if_neg e]
      simp only [restV]
      by_cases e2 : cmp s.1 zs = 0
      · rw [if_pos e2]
        refine risesV_one _ _ _ h2 fun t ht => ?_
        rw [← cmp_eq e2]; exact h1 t ht
      · rw [if_neg e2]
        have e3 : cmp zs s.1 < 0 := by have := cmp_swap s.1 zs; have := cmp_range s.1 zs; omega
        refine risesV_one _ _ _ h fun t ht => ?_
        rcases List.mem_cons.1 ht with rfl | ht
        · exact e3
        · exact cmp_trans e3 (h1 t ht)

theorem putV_nozero {zs : List Int} {x : Amt} : ∀ {ts : List GRow}, NoZeroV ts → NoZeroV (putV ts zs x) := by
  intro ts
  induction ts with
  | nil => intro _ t ht; obtain ⟨rfl, h⟩ := oneV_mem ht; exact h
  | cons s ts ih =>
    intro h t ht
    simp only [putV] at ht
    have hts : NoZeroV ts := fun t ht => h t (by simp [ht])
    by_cases e : cmp s.1 zs < 0
    · rw [if_pos e] at ht
      rcases List.mem_cons.1 ht with rfl | ht
      · exact h _ (by simp)
      · exact ih hts t ht
    · rw [if_neg e] at ht
      simp only [restV] at ht
      by_cases e2 : cmp s.1 zs = 0
      · rw [if_pos e2] at ht
        rcases List.mem_append.1 ht with ht | ht
        · obtain ⟨rfl, h⟩ := oneV_mem ht; exact h
        · exact hts t ht
      · rw [if_neg e2] at ht
        rcases List.mem_append.1 ht with ht | ht
        · obtain ⟨rfl, h⟩ := oneV_mem ht; exact h
        · exact h t ht

theorem vOf_one (zs : List Int) (x : Amt) (ts : List GRow) (ys : List Int) (h : ∀ t ∈ ts, t.1 ≠ zs) : vOf (oneV zs x ++ ts) ys = addA (vOf ts ys) (if zs = ys then x else (0, 0)) := by
  unfold oneV
  by_cases e : x = (0, 0)
  · rw [if_pos e]; simp [e, addA_zero]
  · rw [if_neg e, List.singleton_append, vOf_cons]
    by_cases e2 : zs = ys
    · subst e2
      rw [if_pos rfl, if_pos rfl, vOf_absent h, zero_addA]
    · rw [if_neg e2, if_neg e2, addA_zero]

theorem putV_vOf {zs : List Int} {x : Amt} (ys : List Int) : ∀ {ts : List GRow}, RisesV ts → vOf (putV ts zs x) ys = addA (vOf ts ys) (if zs = ys then x else (0, 0)) := by
  intro ts
  induction ts with
  | nil => intro _; have := vOf_one zs x [] ys (by simp); simpa [putV, restV] using this
  | cons s ts ih =>
    intro h
    obtain ⟨h1, h2⟩ := List.pairwise_cons.1 h
    simp only [putV]
    by_cases e : cmp s.1 zs < 0
    · rw [if_pos e, vOf_cons, vOf_cons, ih h2]
      by_cases e2 : s.1 = ys
      · rw [if_pos e2, if_pos e2, if_neg (fun e3 => cmp_ne e (e2.trans e3.symm)), addA_zero]
      · rw [if_neg e2, if_neg e2]
    · rw [if_neg e]
      simp only [restV]
      by_cases e2 : cmp s.1 zs = 0
      · have es := cmp_eq e2
        rw [if_pos e2, vOf_one _ _ _ _ (fun t ht e' => cmp_ne (h1 t ht) (es.trans e'.symm)), vOf_cons, es]
        by_cases e3 : zs = ys
        · subst e3
          rw [if_pos rfl, if_pos rfl, if_pos rfl, vOf_absent (fun t ht e' => cmp_ne (h1 t ht) (es.trans e'.symm)), zero_addA, addA_comm]
        · rw [if_neg e3, if_neg e3, if_neg e3]
      · rw [if_neg e2]
        have e3 : cmp zs s.1 < 0 := by have := cmp_swap s.1 zs; have := cmp_range s.1 zs; omega
        exact vOf_one _ _ _ _ fun t ht e' => by
          rcases List.mem_cons.1 ht with rfl | ht
          · exact cmp_ne e3 e'.symm
          · exact cmp_ne (cmp_trans e3 (h1 t ht)) e'.symm

theorem vOf_mem {ts : List GRow} (hr : RisesV ts) {t : GRow} (h : t ∈ ts) : vOf ts t.1 = t.2 := by
  induction ts with
  | nil => simp at h
  | cons s ts ih =>
    obtain ⟨h1, h2⟩ := List.pairwise_cons.1 hr
    rw [vOf_cons]
    rcases List.mem_cons.1 h with rfl | h
    · simp
    · rw [if_neg (fun e => cmp_ne (h1 t h) e)]; exact ih h2 h
theorem mem_vOf {ts : List GRow} {zs : List Int} (h : vOf ts zs ≠ (0, 0)) : (zs, vOf ts zs) ∈ ts := by
  induction ts with
  | nil => exact absurd rfl h
  | cons s ts ih =>
    rw [vOf_cons] at h ⊢
    by_cases e : s.1 = zs
    · rw [if_pos e]; subst e; simp
    · rw [if_neg e] at h ⊢; simp [ih h]

/-- Two rising lists that have the same amounts, none nothing, are one. -/
theorem risesV_ext : ∀ {ts us : List GRow}, RisesV ts → RisesV us → NoZeroV ts → NoZeroV us → (∀ zs, vOf ts zs = vOf us zs) → ts = us := by
  intro ts
  induction ts with
  | nil =>
    intro us _ hu _ nu h
    cases us with
    | nil => rfl
    | cons u us =>
      have := h u.1
      rw [vOf_mem hu (by simp), vOf_nil] at this
      exact absurd this.symm (nu u (by simp))
  | cons t ts ih =>
    intro us ht hu nt nu h
    cases us with
    | nil =>
      have := h t.1
      rw [vOf_mem ht (by simp), vOf_nil] at this
      exact absurd this (nt t (by simp))
    | cons u us =>
      obtain ⟨t1, t2⟩ := List.pairwise_cons.1 ht
      obtain ⟨u1, u2⟩ := List.pairwise_cons.1 hu
      have e1 : (t.1, t.2) ∈ u :: us := by
        have := h t.1
        rw [vOf_mem ht (by simp)] at this
        rw [this]; exact mem_vOf (by rw [← this]; exact nt t (by simp))
      have e2 : (u.1, u.2) ∈ t :: ts := by
        have := h u.1
        rw [vOf_mem hu (by simp)] at this
        rw [← this]; exact mem_vOf (by rw [this]; exact nu u (by simp))
      have e : t = u := by
        rcases List.mem_cons.1 e1 with e1 | e1
        · exact e1
        · rcases List.mem_cons.1 e2 with e2 | e2
          · exact e2.symm
          · exact absurd (cmp_trans (u1 _ e1) (t1 _ e2)) (cmp_irrefl _)
      subst e
      congr 1
      refine ih t2 u2 (fun s hs => nt s (by simp [hs])) (fun s hs => nu s (by simp [hs])) fun zs => ?_
      have := h zs
      rw [vOf_cons, vOf_cons] at this
      by_cases e : t.1 = zs
      · subst e
        rw [vOf_absent fun s hs e' => cmp_ne (t1 s hs) e'.symm, vOf_absent fun s hs e' => cmp_ne (u1 s hs) e'.symm]
      · rwa [if_neg e, if_neg e] at this

/-- What groups add at a key. -/
def sumV (l : List GRow) (zs : List Int) : Amt := l.foldl (fun acc t => addA acc (if t.1 = zs then t.2 else (0, 0))) (0, 0)
theorem sumV_from (l : List GRow) (zs : List Int) : ∀ x : Amt, l.foldl (fun acc t => addA acc (if t.1 = zs then t.2 else (0, 0))) x = addA x (sumV l zs) := by
  unfold sumV
  induction l with
  | nil => intro x; simp [addA_zero]
  | cons t l ih => intro x; rw [List.foldl_cons, List.foldl_cons, ih, ih (addA (0, 0) _), zero_addA, addA_assoc]
theorem sumV_nil (zs : List Int) : sumV [] zs = (0, 0) := rfl
theorem sumV_cons (t : GRow) (l : List GRow) (zs : List Int) : sumV (t :: l) zs = addA (if t.1 = zs then t.2 else (0, 0)) (sumV l zs) := by
  show List.foldl _ _ _ = _
  rw [List.foldl_cons, sumV_from, zero_addA]
theorem sumV_snoc (l : List GRow) (t : GRow) (zs : List Int) : sumV (l ++ [t]) zs = addA (sumV l zs) (if t.1 = zs then t.2 else (0, 0)) := by
  unfold sumV; rw [List.foldl_append]; rfl
/-- All groups are put, one by one. -/
def putAllV (ts l : List GRow) : List GRow := l.foldl (fun acc t => putV acc t.1 t.2) ts
theorem putAllV_nil (ts : List GRow) : putAllV ts [] = ts := rfl
theorem putAllV_snoc (ts l : List GRow) (t : GRow) : putAllV ts (l ++ [t]) = putV (putAllV ts l) t.1 t.2 := by simp [putAllV]
theorem putAllV_take (ts l : List GRow) (k : Nat) (h : k < l.length) : putAllV ts (l.take (k + 1)) = putV (putAllV ts (l.take k)) (gat l k).1 (gat l k).2 := by rw [vtake_succ l k h, putAllV_snoc]
theorem putAllV_rises {l : List GRow} : ∀ {ts : List GRow}, RisesV ts → RisesV (putAllV ts l) := by
  induction l with
  | nil => intro ts h; exact h
  | cons t l ih => intro ts h; exact ih (putV_rises h)
theorem putAllV_nozero {l : List GRow} : ∀ {ts : List GRow}, NoZeroV ts → NoZeroV (putAllV ts l) := by
  induction l with
  | nil => intro ts h; exact h
  | cons t l ih => intro ts h; exact ih (putV_nozero h)
theorem putAllV_vOf {l : List GRow} (zs : List Int) : ∀ {ts : List GRow}, RisesV ts → vOf (putAllV ts l) zs = addA (vOf ts zs) (sumV l zs) := by
  induction l with
  | nil => intro ts h; simp [putAllV, sumV_nil, addA_zero]
  | cons t l ih =>
    intro ts h
    have := ih (ts := putV ts t.1 t.2) (putV_rises h)
    rw [putV_vOf zs h] at this
    simp only [putAllV, List.foldl_cons] at this ⊢
    rw [this, sumV_cons, addA_assoc]
theorem putV_len {zs : List Int} {x : Amt} : ∀ {ts : List GRow}, (putV ts zs x).length ≤ ts.length + 1 := by
  have h1 : ∀ y, (oneV zs y).length ≤ 1 := fun y => by unfold oneV; split <;> simp
  intro ts
  induction ts with
  | nil => simpa [putV, restV] using h1 x
  | cons t ts ih =>
    simp only [putV]
    split
    · simpa using ih
    · simp only [restV]
      split
      · have := h1 (addA x t.2); simp; omega
      · have := h1 x; simp; omega
theorem putAllV_len (l : List GRow) : ∀ (ts : List GRow), (putAllV ts l).length ≤ ts.length + l.length := by
  induction l with
  | nil => intro ts; simp [putAllV]
  | cons t l ih => intro ts; have := ih (putV ts t.1 t.2); have := putV_len (zs := t.1) (x := t.2) (ts := ts); simp only [putAllV, List.foldl_cons, List.length_cons] at *; omega
/-- Each key of it is one that was there or was put. -/
theorem putAllV_rows {l : List GRow} {t : GRow} : ∀ {ts : List GRow}, t ∈ putAllV ts l → (∃ s ∈ ts, s.1 = t.1) ∨ ∃ s ∈ l, s.1 = t.1 := by
  induction l with
  | nil => intro ts h; exact .inl ⟨t, h, rfl⟩
  | cons s l ih =>
    intro ts h
    rcases ih (ts := putV ts s.1 s.2) h with ⟨u, hu, e⟩ | ⟨u, hu, e⟩
    · rcases putV_mem hu with h' | h'
      · exact .inl ⟨u, h', e⟩
      · exact .inr ⟨s, by simp, by rw [← e, h']⟩
    · exact .inr ⟨u, by simp [hu], e⟩
/-- Both numbers lie within a bound. -/
def InA (M : Int) (x : Amt) : Prop := -M ≤ x.1 ∧ x.1 ≤ M ∧ -M ≤ x.2 ∧ x.2 ≤ M
theorem inA_zero {M : Int} (h : 0 ≤ M) : InA M (0, 0) := ⟨by show -M ≤ 0; omega, h, by show -M ≤ 0; omega, h⟩
theorem InA.add {M M' : Int} {x y : Amt} (h : InA M x) (k : InA M' y) : InA (M + M') (addA x y) := by
  obtain ⟨h1, h2, h3, h4⟩ := h
  obtain ⟨k1, k2, k3, k4⟩ := k
  refine ⟨?_, ?_, ?_, ?_⟩ <;> (simp only [addA]; omega)
theorem InA.mono {M M' : Int} {x : Amt} (h : InA M x) (hM : M ≤ M') : InA M' x := by
  obtain ⟨h1, h2, h3, h4⟩ := h
  refine ⟨?_, ?_, ?_, ?_⟩ <;> omega
theorem sumV_bound {l : List GRow} {zs : List Int} {M : Int} (hM : 0 ≤ M) (h : ∀ t ∈ l, InA M t.2) : InA (M * l.length) (sumV l zs) := by
  induction l with
  | nil => simpa [sumV_nil] using inA_zero (Int.le_refl 0)
  | cons t l ih =>
    have h1 := ih fun s hs => h s (by simp [hs])
    have h2 := h t (by simp)
    have e : M * ((t :: l).length : Int) = M + M * (l.length : Int) := by rw [List.length_cons]; push_cast; rw [Int.mul_add]; omega
    rw [e, sumV_cons]
    refine InA.add ?_ h1
    by_cases e2 : t.1 = zs
    · rw [if_pos e2]; exact h2
    · rw [if_neg e2]; exact inA_zero hM
theorem vOf_bound {ts : List GRow} {zs : List Int} {M : Int} (hM : 0 ≤ M) (h : ∀ t ∈ ts, InA M t.2) : InA M (vOf ts zs) := by
  by_cases e : vOf ts zs = (0, 0)
  · rw [e]; exact inA_zero hM
  · exact h _ (mem_vOf e)

end Go.Proofs.Ytlfljfmhhnoinaa

/- Plain functions: picking cells. -/
namespace Go.Proofs.Ytlfljfmhhnoinaa

def colIn (n : Nat) (k : Int) : Bool := decide (0 ≤ k) && decide (k < n)
def colsOk (cols : List Int) (n : Nat) : Bool := decide (cols.length ≤ 6) && cols.all (colIn n)
def pick (zs cols : List Int) : List Int := cols.map fun k => zs.getD k.toNat 0
def pickOk (zs cols : List Int) : Bool := good zs && colsOk cols zs.length
def pickZ (zs cols : List Int) : List Int := if pickOk zs cols then pick zs cols else []

theorem colsOk_of {cols : List Int} {n : Nat} (hl : cols.length ≤ 6) (h : ∀ j, j < cols.length → 0 ≤ cols.getD j 0 ∧ cols.getD j 0 < n) : colsOk cols n = true := by
  simp only [colsOk, Bool.and_eq_true, decide_eq_true_eq, List.all_eq_true, colIn]
  refine ⟨hl, fun x hx => ?_⟩
  obtain ⟨k, hk, rfl⟩ := List.getElem_of_mem hx
  simpa [List.getD, hk] using h k hk
theorem colsOk_at {cols : List Int} {n : Nat} (h : colsOk cols n = true) (k : Nat) (hk : k < cols.length) : 0 ≤ cols.getD k 0 ∧ cols.getD k 0 < n := by
  simp only [colsOk, Bool.and_eq_true, decide_eq_true_eq, List.all_eq_true, colIn] at h
  have := h.2 (cols[k]) (List.getElem_mem hk)
  simpa [List.getD, hk] using this
theorem colsOk_long {cols : List Int} {n : Nat} (h : 6 < cols.length) : colsOk cols n = false := by simp [colsOk]; omega
theorem colsOk_len {cols : List Int} {n : Nat} (h : colsOk cols n = true) : cols.length ≤ 6 := by
  simp only [colsOk, Bool.and_eq_true, decide_eq_true_eq] at h; exact h.1
theorem not_colsOk {cols : List Int} {n : Nat} (k : Nat) (hk : k < cols.length) (h : cols.getD k 0 < 0 ∨ (n : Int) ≤ cols.getD k 0) : colsOk cols n = false := by
  cases hg : colsOk cols n with
  | false => rfl
  | true => have := colsOk_at hg k hk; omega
theorem pick_succ (zs cols : List Int) (k : Nat) (h : k < cols.length) : pick zs (cols.take (k + 1)) = pick zs (cols.take k) ++ [zs.getD (cols.getD k 0).toNat 0] := by
  unfold pick
  rw [take_snocD cols k h, List.map_append]; rfl
theorem pick_length (zs cols : List Int) (k : Nat) (h : k ≤ cols.length) : (pick zs (cols.take k)).length = k := by simp [pick]; omega
theorem pickZ_small (zs cols : List Int) : (pickZ zs cols).length ≤ 6 := by
  unfold pickZ
  split
  · rename_i h
    simp only [pickOk, Bool.and_eq_true] at h
    have := colsOk_len h.2
    simpa [pick] using this
  · simp

end Go.Proofs.Ytlfljfmhhnoinaa

/- Contracts of impl.GoodRow and spec.GoodRow. -/
namespace Go.Proofs.Ytlfljfmhhnoinaa
open Go.RowKit

set_option maxHeartbeats 400000 in
theorem implGoodRow_any (a : Option Addr) (n c : Nat) (zs : List Int) (w : World) (hz : zs.length = n) (hn : n ≤ 9223372036854775807) (ha : At w a zs) :
    Calls Try.prog 50 #[.agg #[.slice a n c]] w fun e w' => e = .returned (.bool (good zs)) ∧ Below w.heap.size w w' := by
  by_cases h6 : n ≤ 6
  · by_cases h0 : n = 0
    · subst h0
      obtain rfl := List.eq_nil_of_length_eq_zero hz
      go_enter Try.func50, Try.ntmps50
      go_wp2
      refine wp_loop_rounds 1 ?_
      rw [rounds_succ]
      go_wp2
      go_ret
      exact ⟨ret_bool (by simp [good]), (Below.refl _ _).alloc (Nat.le_refl _) _⟩
    · obtain ⟨b, off, rfl, hb, hc⟩ := (ha.alloc (.cells #[.slice a n c] 33)).some (by omega)
      clear ha
      go_enter Try.func50, Try.ntmps50
      go_wp2
      go_loop [12] (fun i => ∃ k : Nat, k ≤ n ∧ i = .int .i64 k ∧ ∀ j, j < k → -100000 ≤ zs.getD j 0 ∧ zs.getD j 0 ≤ 100000) (fun i => n - (intOf i).toNat)
      case atStart => exact ⟨0, Nat.zero_le _, rfl, fun j hj => by omega⟩
      case round =>
        obtain ⟨k, hk, rfl, hall⟩ := hrel
        by_cases hlt : k < n
        · have hcx := hc k (by omega)
          have HN := not_good_cell (zs := zs) k (by omega)
          have HS : Hid (-100000 ≤ zs.getD k 0 → zs.getD k 0 ≤ 100000 → ∀ j, j < k + 1 → -100000 ≤ zs.getD j 0 ∧ zs.getD j 0 ≤ 100000) := fun h1 h2 j hj => by
            by_cases e : j = k
            · subst e; exact ⟨h1, h2⟩
            · exact hall j (by omega)
          clear hall hc
          obtain ⟨x, hx⟩ : ∃ x, x = zs.getD k 0 := ⟨_, rfl⟩
          rw [← hx] at hcx HN HS
          have HN' : Hid (x < -100000 ∨ 100000 < x → good zs = false) := HN
          clear hx HN
          by_cases hlo : x < -100000
          · go_wp2
            go_ret
            exact ⟨ret_bool (HN'.out (.inl hlo)).symm, (Below.refl _ _).alloc (Nat.le_refl _) _⟩
          · by_cases hhi : 100000 < x
            · go_wp2
              go_ret
              exact ⟨ret_bool (HN'.out (.inr hhi)).symm, (Below.refl _ _).alloc (Nat.le_refl _) _⟩
            · go_wp2
              go_round
              case rel => exact ⟨k + 1, by omega, by go_num, HS.out (by omega) (by omega)⟩
              case measure => simp [intOf]; omega
        · go_wp2
          go_ret
          exact ⟨ret_bool (good_of (by omega) (fun j hj => hall j (by omega))).symm, (Below.refl _ _).alloc (Nat.le_refl _) _⟩
  · go_enter Try.func50, Try.ntmps50
    go_wp2
    go_ret
    exact ⟨ret_bool (good_long (by omega)).symm, (Below.refl _ _).alloc (Nat.le_refl _) _⟩

set_option maxHeartbeats 400000 in
theorem specGoodRow_any (a : Option Addr) (n c : Nat) (zs : List Int) (w : World) (hz : zs.length = n) (hn : n ≤ 9223372036854775807) (ha : At w a zs) :
    Calls Try.prog 40 #[.agg #[.slice a n c]] w fun e w' => e = .returned (.bool (good zs)) ∧ Below w.heap.size w w' := by
  by_cases h0 : n = 0
  · subst h0
    obtain rfl := List.eq_nil_of_length_eq_zero hz
    go_enter Try.func40, Try.ntmps40
    go_wp2
    refine wp_loop_rounds 1 ?_
    rw [rounds_succ]
    go_wp2
    go_ret
    exact ⟨ret_bool (by simp [good]), (Below.refl _ _).alloc (Nat.le_refl _) _⟩
  · obtain ⟨b, off, rfl, hb, hc⟩ := (ha.alloc (.cells #[.slice a n c] 33)).some (by omega)
    clear ha
    go_enter Try.func40, Try.ntmps40
    go_wp2
    go_loop [8] (fun i => ∃ k : Nat, k ≤ n ∧ i = .int .i64 k ∧ ∀ j, j < k → -100000 ≤ zs.getD j 0 ∧ zs.getD j 0 ≤ 100000) (fun i => n - (intOf i).toNat)
    case atStart => exact ⟨0, Nat.zero_le _, rfl, fun j hj => by omega⟩
    case round =>
      obtain ⟨k, hk, rfl, hall⟩ := hrel
      by_cases hlt : k < n
      · have hcx := hc k (by omega)
        have HN := not_good_cell (zs := zs) k (by omega)
        have HS : Hid (-100000 ≤ zs.getD k 0 → zs.getD k 0 ≤ 100000 → ∀ j, j < k + 1 → -100000 ≤ zs.getD j 0 ∧ zs.getD j 0 ≤ 100000) := fun h1 h2 j hj => by
          by_cases e : j = k
          · subst e; exact ⟨h1, h2⟩
          · exact hall j (by omega)
        clear hall hc
        obtain ⟨x, hx⟩ : ∃ x, x = zs.getD k 0 := ⟨_, rfl⟩
        rw [← hx] at hcx HN HS
        have HN' : Hid (x < -100000 ∨ 100000 < x → good zs = false) := HN
        clear hx HN
        by_cases hlo : x < -100000
        · go_wp2
          go_ret
          exact ⟨ret_bool (HN'.out (.inl hlo)).symm, (Below.refl _ _).alloc (Nat.le_refl _) _⟩
        · by_cases hhi : 100000 < x
          · have hd : decide (x ≤ 100000) = false := by simp; omega
            go_wp2
            go_ret
            exact ⟨ret_bool (HN'.out (.inr hhi)).symm, (Below.refl _ _).alloc (Nat.le_refl _) _⟩
          · have hd : decide (x ≤ 100000) = true := by simp; omega
            go_wp2
            go_round
            case rel => exact ⟨k + 1, by omega, by go_num, HS.out (by omega) (by omega)⟩
            case measure => simp [intOf]; omega
      · by_cases h6 : n ≤ 6
        · have hg := good_of (zs := zs) (by omega) (fun j hj => hall j (by omega))
          clear hall hc
          have HG : Hid (good zs = true) := hg
          clear hg
          go_wp2
          go_ret
          exact ⟨ret_bool (by rw [HG.out]; simp; omega), (Below.refl _ _).alloc (Nat.le_refl _) _⟩
        · have HG : Hid (good zs = false) := good_long (zs := zs) (by omega)
          clear hall hc
          go_wp2
          go_ret
          exact ⟨ret_bool (by rw [HG.out]; simp; omega), (Below.refl _ _).alloc (Nat.le_refl _) _⟩

end Go.Proofs.Ytlfljfmhhnoinaa
