/- Plain facts: a weight put to a row, many of them, and that a rising list is told by its weights. -/
import Derived.Test.YtecaaekilbdgdaaPlainC
namespace Go.Proofs.Ytecaaekilbdgdaa

/-- A row with its weight, nothing where it is 0. -/
def oneW (zs : List Int) (x : Int) : List WRow := if x = 0 then [] else [(zs, x)]
/-- What is left behind the place at which a row is put. -/
def restW (zs : List Int) (x : Int) : List WRow → List WRow
  | [] => oneW zs x
  | t :: ts => if cmp t.1 zs = 0 then oneW zs (x + t.2) ++ ts else oneW zs x ++ t :: ts
/-- A weight is put to a row. -/
def putW : List WRow → List Int → Int → List WRow
  | [], zs, x => restW zs x []
  | t :: ts, zs, x => if cmp t.1 zs < 0 then t :: putW ts zs x else restW zs x (t :: ts)

theorem putW_at (zs : List Int) (x : Int) : ∀ (ts : List WRow) (k : Nat), k ≤ ts.length → (∀ j, j < k → cmp (wat ts j).1 zs < 0) → (k < ts.length → ¬ cmp (wat ts k).1 zs < 0) → putW ts zs x = ts.take k ++ restW zs x (ts.drop k) := by
  intro ts
  induction ts with
  | nil => intro k hk _ _; obtain rfl : k = 0 := by simpa using hk
           rfl
  | cons t ts ih =>
    intro k hk h1 h2
    cases k with
    | zero =>
      have : ¬ cmp t.1 zs < 0 := by simpa [wat, List.getD] using h2 (by simp)
      simp only [putW, if_neg this, List.take_zero, List.drop_zero, List.nil_append]
    | succ k =>
      have h0 : cmp t.1 zs < 0 := by simpa [wat, List.getD] using h1 0 (by omega)
      simp only [putW, if_pos h0, List.take_succ_cons, List.drop_succ_cons, List.cons_append]
      rw [ih k (by simpa using hk) (fun j hj => by simpa [wat, List.getD] using h1 (j + 1) (by omega)) (fun h => by simpa [wat, List.getD] using h2 (by simpa using h))]

theorem restW_cons (zs : List Int) (x : Int) (ts : List WRow) (k : Nat) (h : k < ts.length) :
    restW zs x (ts.drop k) = if cmp (wat ts k).1 zs = 0 then oneW zs (x + (wat ts k).2) ++ ts.drop (k + 1) else oneW zs x ++ ts.drop k := by
  rw [List.drop_eq_getElem_cons h]
  simp [restW, wat, List.getD, h]

/-- No weight is 0. -/
def NoZero (ts : List WRow) : Prop := ∀ t ∈ ts, t.2 ≠ 0

theorem oneW_mem {zs : List Int} {x : Int} {t : WRow} (h : t ∈ oneW zs x) : t = (zs, x) ∧ x ≠ 0 := by
  unfold oneW at h
  by_cases e : x = 0
  · simp [e] at h
  · rw [if_neg e] at h; exact ⟨by simpa using h, e⟩

theorem cmp_tri (xs ys : List Int) : cmp xs ys < 0 ∨ xs = ys ∨ cmp ys xs < 0 := by
  rcases cmp_range xs ys with h | h | h
  · left; omega
  · right; left; exact cmp_eq h
  · right; right; have := cmp_swap xs ys; omega

theorem putW_mem {zs : List Int} {x : Int} {t : WRow} : ∀ {ts : List WRow}, t ∈ putW ts zs x → t ∈ ts ∨ t.1 = zs := by
  intro ts
  induction ts with
  | nil => intro h; right; exact congrArg Prod.fst (oneW_mem h).1
  | cons s ts ih =>
    intro h
    simp only [putW] at h
    by_cases e : cmp s.1 zs < 0
    · rw [if_pos e] at h
      rcases List.mem_cons.1 h with rfl | h
      · left; simp
      · rcases ih h with h | h
        · left; simp [h]
        · right; exact h
    · rw [if_neg e] at h
      simp only [restW] at h
      by_cases e2 : cmp s.1 zs = 0
      · rw [if_pos e2] at h
        rcases List.mem_append.1 h with h | h
        · right; exact congrArg Prod.fst (oneW_mem h).1
        · left; simp [h]
      · rw [if_neg e2] at h
        rcases List.mem_append.1 h with h | h
        · right; exact congrArg Prod.fst (oneW_mem h).1
        · left; exact h

theorem rises_one (zs : List Int) (x : Int) (ts : List WRow) (hr : Rises ts) (h : ∀ t ∈ ts, cmp zs t.1 < 0) : Rises (oneW zs x ++ ts) := by
  unfold oneW
  by_cases e : x = 0
  · simpa [e] using hr
  · rw [if_neg e]; exact List.pairwise_cons.2 ⟨h, hr⟩

theorem putW_rises {zs : List Int} {x : Int} : ∀ {ts : List WRow}, Rises ts → Rises (putW ts zs x) := by
  intro ts
  induction ts with
  | nil => intro _; have := rises_one zs x [] List.Pairwise.nil (by simp); simpa [putW, restW] using this
  | cons s ts ih =>
    intro h
    obtain ⟨h1, h2⟩ := List.pairwise_cons.1 h
    simp only [putW]
    by_cases e : cmp s.1 zs < 0
    · rw [if_pos e]
      refine List.pairwise_cons.2 ⟨fun t ht => ?_, ih h2⟩
      rcases putW_mem ht with h' | h'
      · exact h1 t h'
      · rw [h']; exact e
    · rw [if_neg e]
      simp only [restW]
      by_cases e2 : cmp s.1 zs = 0
      · rw [if_pos e2]
        refine rises_one _ _ _ h2 fun t ht => ?_
        rw [← cmp_eq e2]; exact h1 t ht
      · rw [if_neg e2]
        have e3 : cmp zs s.1 < 0 := by have := cmp_swap s.1 zs; have := cmp_range s.1 zs; omega
        refine rises_one _ _ _ h fun t ht => ?_
        rcases List.mem_cons.1 ht with rfl | ht
        · exact e3
        · exact cmp_trans e3 (h1 t ht)

theorem putW_nozero {zs : List Int} {x : Int} : ∀ {ts : List WRow}, NoZero ts → NoZero (putW ts zs x) := by
  intro ts
  induction ts with
  | nil => intro _ t ht; obtain ⟨rfl, h⟩ := oneW_mem ht; exact h
  | cons s ts ih =>
    intro h t ht
    simp only [putW] at ht
    have hts : NoZero ts := fun t ht => h t (by simp [ht])
    by_cases e : cmp s.1 zs < 0
    · rw [if_pos e] at ht
      rcases List.mem_cons.1 ht with rfl | ht
      · exact h _ (by simp)
      · exact ih hts t ht
    · rw [if_neg e] at ht
      simp only [restW] at ht
      by_cases e2 : cmp s.1 zs = 0
      · rw [if_pos e2] at ht
        rcases List.mem_append.1 ht with ht | ht
        · obtain ⟨rfl, h⟩ := oneW_mem ht; exact h
        · exact hts t ht
      · rw [if_neg e2] at ht
        rcases List.mem_append.1 ht with ht | ht
        · obtain ⟨rfl, h⟩ := oneW_mem ht; exact h
        · exact h t ht

theorem wOf_one (zs : List Int) (x : Int) (ts : List WRow) (ys : List Int) (h : ∀ t ∈ ts, t.1 ≠ zs) : wOf (oneW zs x ++ ts) ys = wOf ts ys + if zs = ys then x else 0 := by
  unfold oneW
  by_cases e : x = 0
  · rw [if_pos e]; simp [e]
  · rw [if_neg e, List.singleton_append, wOf_cons]
    by_cases e2 : zs = ys
    · subst e2
      rw [if_pos rfl, if_pos rfl, wOf_absent h]; simp
    · rw [if_neg e2, if_neg e2]; simp

theorem putW_wOf {zs : List Int} {x : Int} (ys : List Int) : ∀ {ts : List WRow}, Rises ts → wOf (putW ts zs x) ys = wOf ts ys + if zs = ys then x else 0 := by
  intro ts
  induction ts with
  | nil => intro _; have := wOf_one zs x [] ys (by simp); simpa [putW, restW] using this
  | cons s ts ih =>
    intro h
    obtain ⟨h1, h2⟩ := List.pairwise_cons.1 h
    simp only [putW]
    by_cases e : cmp s.1 zs < 0
    · rw [if_pos e, wOf_cons, wOf_cons, ih h2]
      by_cases e2 : s.1 = ys
      · rw [if_pos e2, if_pos e2, if_neg (fun e3 => cmp_ne e (e2.trans e3.symm))]; simp
      · rw [if_neg e2, if_neg e2]
    · rw [if_neg e]
      simp only [restW]
      by_cases e2 : cmp s.1 zs = 0
      · have es := cmp_eq e2
        rw [if_pos e2, wOf_one _ _ _ _ (fun t ht e' => cmp_ne (h1 t ht) (es.trans e'.symm)), wOf_cons, es]
        by_cases e3 : zs = ys
        · subst e3
          rw [if_pos rfl, if_pos rfl, if_pos rfl, wOf_absent (fun t ht e' => cmp_ne (h1 t ht) (es.trans e'.symm))]; omega
        · rw [if_neg e3, if_neg e3, if_neg e3]
      · rw [if_neg e2]
        have e3 : cmp zs s.1 < 0 := by have := cmp_swap s.1 zs; have := cmp_range s.1 zs; omega
        exact wOf_one _ _ _ _ fun t ht e' => by
          rcases List.mem_cons.1 ht with rfl | ht
          · exact cmp_ne e3 e'.symm
          · exact cmp_ne (cmp_trans e3 (h1 t ht)) e'.symm

theorem wOf_mem {ts : List WRow} (hr : Rises ts) {t : WRow} (h : t ∈ ts) : wOf ts t.1 = t.2 := by
  induction ts with
  | nil => simp at h
  | cons s ts ih =>
    obtain ⟨h1, h2⟩ := List.pairwise_cons.1 hr
    rw [wOf_cons]
    rcases List.mem_cons.1 h with rfl | h
    · simp
    · rw [if_neg (fun e => cmp_ne (h1 t h) e)]; exact ih h2 h
theorem mem_wOf {ts : List WRow} {zs : List Int} (h : wOf ts zs ≠ 0) : (zs, wOf ts zs) ∈ ts := by
  induction ts with
  | nil => exact absurd rfl h
  | cons s ts ih =>
    rw [wOf_cons] at h ⊢
    by_cases e : s.1 = zs
    · rw [if_pos e]; subst e; simp
    · rw [if_neg e] at h ⊢; simp [ih h]

/-- Two rising lists without zeros that have the same weights are one. -/
theorem rises_ext : ∀ {ts us : List WRow}, Rises ts → Rises us → NoZero ts → NoZero us → (∀ zs, wOf ts zs = wOf us zs) → ts = us := by
  intro ts
  induction ts with
  | nil =>
    intro us _ hu _ nu h
    cases us with
    | nil => rfl
    | cons u us =>
      have := h u.1
      rw [wOf_mem hu (by simp), wOf_nil] at this
      exact absurd this.symm (nu u (by simp))
  | cons t ts ih =>
    intro us ht hu nt nu h
    cases us with
    | nil =>
      have := h t.1
      rw [wOf_mem ht (by simp), wOf_nil] at this
      exact absurd this (nt t (by simp))
    | cons u us =>
      obtain ⟨t1, t2⟩ := List.pairwise_cons.1 ht
      obtain ⟨u1, u2⟩ := List.pairwise_cons.1 hu
      have e1 : (t.1, t.2) ∈ u :: us := by
        have := h t.1
        rw [wOf_mem ht (by simp)] at this
        rw [this]; exact mem_wOf (by rw [← this]; exact nt t (by simp))
      have e2 : (u.1, u.2) ∈ t :: ts := by
        have := h u.1
        rw [wOf_mem hu (by simp)] at this
        rw [← this]; exact mem_wOf (by rw [this]; exact nu u (by simp))
      have e : t = u := by
        rcases List.mem_cons.1 e1 with e1 | e1
        · exact e1
        · rcases List.mem_cons.1 e2 with e2 | e2
          · exact e2.symm
          · exact absurd (cmp_trans (u1 _ e1) (t1 _ e2)) (cmp_irrefl _)
      subst e
      congr 1
      refine ih t2 u2 (fun s hs => nt s (by simp [hs])) (fun s hs => nu s (by simp [hs])) fun zs => ?_
      have := h zs
      rw [wOf_cons, wOf_cons] at this
      by_cases e : t.1 = zs
      · subst e
        rw [wOf_absent fun s hs e' => cmp_ne (t1 s hs) e'.symm, wOf_absent fun s hs e' => cmp_ne (u1 s hs) e'.symm]
      · rwa [if_neg e, if_neg e] at this

/-- What rows add at a row. -/
def sumW (l : List WRow) (zs : List Int) : Int := (l.map fun t => if t.1 = zs then t.2 else 0).sum
/-- All rows are put, one by one. -/
def putAll (ts l : List WRow) : List WRow := l.foldl (fun acc t => putW acc t.1 t.2) ts
theorem putAll_nil (ts : List WRow) : putAll ts [] = ts := rfl
theorem putAll_snoc (ts l : List WRow) (t : WRow) : putAll ts (l ++ [t]) = putW (putAll ts l) t.1 t.2 := by simp [putAll]
theorem putAll_take (ts l : List WRow) (k : Nat) (h : k < l.length) : putAll ts (l.take (k + 1)) = putW (putAll ts (l.take k)) (wat l k).1 (wat l k).2 := by rw [wtake_succ l k h, putAll_snoc]
theorem putAll_rises {l : List WRow} : ∀ {ts : List WRow}, Rises ts → Rises (putAll ts l) := by
  induction l with
  | nil => intro ts h; exact h
  | cons t l ih => intro ts h; exact ih (putW_rises h)
theorem putAll_nozero {l : List WRow} : ∀ {ts : List WRow}, NoZero ts → NoZero (putAll ts l) := by
  induction l with
  | nil => intro ts h; exact h
  | cons t l ih => intro ts h; exact ih (putW_nozero h)
theorem putAll_wOf {l : List WRow} (zs : List Int) : ∀ {ts : List WRow}, Rises ts → wOf (putAll ts l) zs = wOf ts zs + sumW l zs := by
  induction l with
  | nil => intro ts h; simp [putAll, sumW]
  | cons t l ih =>
    intro ts h
    have := ih (ts := putW ts t.1 t.2) (putW_rises h)
    rw [putW_wOf zs h] at this
    simp only [putAll, List.foldl_cons] at this ⊢
    rw [this]
    simp only [sumW, List.map_cons, List.sum_cons]
    omega
theorem putW_len {zs : List Int} {x : Int} : ∀ {ts : List WRow}, (putW ts zs x).length ≤ ts.length + 1 := by
  have h1 : ∀ y, (oneW zs y).length ≤ 1 := fun y => by unfold oneW; split <;> simp
  intro ts
  induction ts with
  | nil => simpa [putW, restW] using h1 x
  | cons t ts ih =>
    simp only [putW]
    split
    · simpa using ih
    · simp only [restW]
      split
      · have := h1 (x + t.2); simp; omega
      · have := h1 x; simp; omega
theorem putAll_len (l : List WRow) : ∀ (ts : List WRow), (putAll ts l).length ≤ ts.length + l.length := by
  induction l with
  | nil => intro ts; simp [putAll]
  | cons t l ih => intro ts; have := ih (putW ts t.1 t.2); have := putW_len (zs := t.1) (x := t.2) (ts := ts); simp only [putAll, List.foldl_cons, List.length_cons] at *; omega
/-- Each row of it is one that was there or was put. -/
theorem putAll_rows {l : List WRow} {t : WRow} : ∀ {ts : List WRow}, t ∈ putAll ts l → (∃ s ∈ ts, s.1 = t.1) ∨ ∃ s ∈ l, s.1 = t.1 := by
  induction l with
  | nil => intro ts h; exact .inl ⟨t, h, rfl⟩
  | cons s l ih =>
    intro ts h
    rcases ih (ts := putW ts s.1 s.2) h with ⟨u, hu, e⟩ | ⟨u, hu, e⟩
    · rcases putW_mem hu with h' | h'
      · exact .inl ⟨u, h', e⟩
      · exact .inr ⟨s, by simp, by rw [← e, h']⟩
    · exact .inr ⟨u, by simp [hu], e⟩
/-- Weights stay within what was there and what was put. -/
theorem sumW_bound {l : List WRow} {zs : List Int} {M : Int} (hM : 0 ≤ M) (h : ∀ t ∈ l, -M ≤ t.2 ∧ t.2 ≤ M) : -(M * l.length) ≤ sumW l zs ∧ sumW l zs ≤ M * l.length := by
  induction l with
  | nil => simp [sumW]
  | cons t l ih =>
    have h1 := ih fun s hs => h s (by simp [hs])
    have h2 := h t (by simp)
    have e : M * ((t :: l).length : Int) = M * (l.length : Int) + M := by rw [List.length_cons]; push_cast; rw [Int.mul_add]; omega
    rw [e]
    simp only [sumW, List.map_cons, List.sum_cons] at h1 ⊢
    by_cases e2 : t.1 = zs
    · rw [if_pos e2]; omega
    · rw [if_neg e2]; omega
theorem wOf_bound {ts : List WRow} {zs : List Int} {M : Int} (hM : 0 ≤ M) (h : ∀ t ∈ ts, -M ≤ t.2 ∧ t.2 ≤ M) : -M ≤ wOf ts zs ∧ wOf ts zs ≤ M := by
  by_cases e : wOf ts zs = 0
  · rw [e]; omega
  · exact h _ (mem_wOf e)

end Go.Proofs.Ytecaaekilbdgdaa
