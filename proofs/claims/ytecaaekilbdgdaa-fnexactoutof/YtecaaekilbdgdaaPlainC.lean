/- Plain facts: cmp is an order of the rows; the rows of a good table rise; the weight of a row. -/
import Derived.Test.YtecaaekilbdgdaaPlainT
namespace Go.Proofs.Ytecaaekilbdgdaa

theorem cmp_eq {xs : List Int} : ∀ {ys : List Int}, cmp xs ys = 0 → xs = ys := by
  induction xs with
  | nil => intro ys h; cases ys with
    | nil => rfl
    | cons y ys => simp [cmp] at h
  | cons x xs ih =>
    intro ys h
    cases ys with
    | nil => simp [cmp] at h
    | cons y ys =>
      simp only [cmp] at h
      by_cases h1 : x < y
      · simp [h1] at h
      · by_cases h2 : y < x
        · simp [h1, h2] at h
        · simp only [if_neg h1, if_neg h2] at h
          obtain rfl : x = y := by omega
          rw [ih h]

theorem cmp_swap (xs : List Int) : ∀ ys, cmp ys xs = - cmp xs ys := by
  induction xs with
  | nil => intro ys; cases ys <;> simp [cmp]
  | cons x xs ih =>
    intro ys
    cases ys with
    | nil => simp [cmp]
    | cons y ys =>
      simp only [cmp]
      by_cases h1 : x < y
      · rw [if_neg (by omega), if_pos h1, if_pos h1]; rfl
      · by_cases h2 : y < x
        · rw [if_pos h2, if_neg h1, if_pos h2]
        · rw [if_neg h2, if_neg h1, if_neg h1, if_neg h2, ih ys]

theorem cmp_trans {xs : List Int} : ∀ {ys zs : List Int}, cmp xs ys < 0 → cmp ys zs < 0 → cmp xs zs < 0 := by
  induction xs with
  | nil =>
    intro ys zs h1 h2
    cases ys with
    | nil => simp [cmp] at h1
    | cons y ys => cases zs with
      | nil => simp [cmp] at h2
      | cons z zs => simp [cmp]
  | cons x xs ih =>
    intro ys zs h1 h2
    cases ys with
    | nil => simp [cmp] at h1
    | cons y ys => cases zs with
      | nil => simp [cmp] at h2
      | cons z zs =>
        simp only [cmp] at *
        by_cases a1 : x < y
        · by_cases a2 : y < z
          · rw [if_pos (by omega)]; omega
          · rw [if_neg a2] at h2
            by_cases a3 : z < y
            · rw [if_pos a3] at h2; omega
            · rw [if_pos (by omega)]; omega
        · rw [if_neg a1] at h1
          by_cases a1' : y < x
          · rw [if_pos a1'] at h1; omega
          · rw [if_neg a1'] at h1
            by_cases a2 : y < z
            · rw [if_pos (by omega)]; omega
            · rw [if_neg a2] at h2
              by_cases a3 : z < y
              · rw [if_pos a3] at h2; omega
              · rw [if_neg a3] at h2
                rw [if_neg (by omega), if_neg (by omega)]
                exact ih h1 h2

theorem cmp_irrefl (xs : List Int) : ¬ cmp xs xs < 0 := by rw [cmp_self]; omega
theorem cmp_ne {xs ys : List Int} (h : cmp xs ys < 0) : xs ≠ ys := fun e => by rw [e] at h; exact cmp_irrefl ys h

/-- Rows that rise. -/
def Rises (ts : List WRow) : Prop := ts.Pairwise fun s t => cmp s.1 t.1 < 0

theorem rises_of {ts : List WRow} (h : ∀ k, k + 1 < ts.length → cmp (wat ts k).1 (wat ts (k + 1)).1 < 0) : Rises ts := by
  induction ts with
  | nil => exact List.Pairwise.nil
  | cons t ts ih =>
    have ih' : Rises ts := ih fun k hk => by simpa [wat, List.getD] using h (k + 1) (by simpa using hk)
    refine List.pairwise_cons.2 ⟨fun s hs => ?_, ih'⟩
    cases ts with
    | nil => simp at hs
    | cons u us =>
      have h0 : cmp t.1 u.1 < 0 := by simpa [wat, List.getD] using h 0 (by simp)
      rcases List.mem_cons.1 hs with rfl | hs
      · exact h0
      · exact cmp_trans h0 ((List.pairwise_cons.1 ih').1 s hs)

theorem goodT_rises {p : Int} {ts : List WRow} (h : goodT p ts = true) : Rises ts := rises_of fun k hk => by
  have := (goodT_parts h).2.2 (k + 1) hk
  simp only [stepB, Bool.and_eq_true, Bool.or_eq_true, decide_eq_true_eq] at this
  rcases this.2.2 with h0 | h0
  · omega
  · simpa using h0

theorem raised_inj {xs ys : List Int} (hx : good xs = true) (hy : good ys = true) (h : raised xs = raised ys) : xs = ys := by
  apply cmp_eq
  rw [← cmp_raised hx hy, h, cmp_self]

/-- The weight of a row, 0 where it is not there. -/
def wOf (ts : List WRow) (zs : List Int) : Int := ((ts.find? fun t => decide (t.1 = zs)).map fun t => t.2).getD 0

theorem wOf_nil (zs : List Int) : wOf [] zs = 0 := rfl
theorem wOf_cons (t : WRow) (ts : List WRow) (zs : List Int) : wOf (t :: ts) zs = if t.1 = zs then t.2 else wOf ts zs := by
  unfold wOf
  by_cases e : t.1 = zs <;> simp [e]
theorem wOf_absent {ts : List WRow} {zs : List Int} (h : ∀ t ∈ ts, t.1 ≠ zs) : wOf ts zs = 0 := by
  induction ts with
  | nil => rfl
  | cons t ts ih => rw [wOf_cons, if_neg (h t (by simp))]; exact ih fun s hs => h s (by simp [hs])
theorem wOf_drop (ts : List WRow) (k : Nat) (zs : List Int) (h : k < ts.length) : wOf (ts.drop k) zs = if (wat ts k).1 = zs then (wat ts k).2 else wOf (ts.drop (k + 1)) zs := by
  rw [List.drop_eq_getElem_cons h, wOf_cons]
  simp [wat, List.getD, h]

end Go.Proofs.Ytecaaekilbdgdaa
