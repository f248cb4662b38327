/- Several texts of one proof, in build order: PlainP, L2Put, ConcI. -/
import Derived.Test.YtnfdncofobkjhaaM18
import Derived.Deep.AppendLies
import Derived.Lib.Walk
import Derived.Lib.AppendZerosOnto
import Derived.Test.YtnfdncofobkjhaaM5

/- Plain facts: a weight put to a row, many of them, and that a rising list is told by its weights. -/
namespace Go.Proofs.Ytnfdncofobkjhaa

/-- A row with its weight, nothing where it is 0. -/
def oneW (zs : List Int) (x : Int) : List WRow := if x = 0 then [] else [(zs, x)]
/-- What is left behind the place at which a row is put. -/
def restW (zs : List Int) (x : Int) : List WRow → List WRow
  | [] => oneW zs x
  | t :: ts => if cmp t.1 zs = 0 then oneW zs (x + t.2) ++ ts else oneW zs x ++ t :: ts
/-- A weight is put to a row. -/
def putW : List WRow → List Int → Int → List WRow
  | [], zs, x => restW zs x []
  | t :: ts, zs, x => if cmp t.1 zs < 0 then t :: putW ts zs x else restW zs x (t :: ts)

theorem putW_at (zs : List Int) (x : Int) : ∀ (ts : List WRow) (k : Nat), k ≤ ts.length → (∀ j, j < k → cmp (wat ts j).1 zs < 0) → (k < ts.length → ¬ cmp (wat ts k).1 zs < 0) → putW ts zs x = ts.take k ++ restW zs x (ts.drop k) := by
  intro ts
  induction ts with
  | nil => intro k hk _ _; obtain rfl : k = 0 := by simpa using hk
           rfl
  | cons t ts ih =>
    intro k hk h1 h2
    cases k with
    | zero =>
      have : ¬ cmp t.1 zs < 0 := by simpa [wat, List.getD] using h2 (by simp)
      simp only [putW, if_neg this, List.take_zero, List.drop_zero, List.nil_append]
    | succ k =>
      have h0 : cmp t.1 zs < 0 := by simpa [wat, List.getD] using h1 0 (by omega)
      simp only [putW, if_pos h0, List.take_succ_cons, List.drop_succ_cons, List.cons_append]
      rw [ih k (by simpa using hk) (fun j hj => by simpa [wat, List.getD] using h1 (j + 1) (by omega)) (fun h => by simpa [wat, List.getD] using h2 (by simpa using h))]

theorem restW_cons (zs : List Int) (x : Int) (ts : List WRow) (k : Nat) (h : k < ts.length) :
    restW zs x (ts.drop k) = if cmp (wat ts k).1 zs = 0 then oneW zs (x + (wat ts k).2) ++ ts.drop (k + 1) else oneW zs x ++ ts.drop k := by
  rw [List.drop_eq_getElem_cons h]
  simp [restW, wat, List.getD, h]

/-- No weight is 0. -/
def NoZero (ts : List WRow) : Prop := ∀ t ∈ ts, t.2 ≠ 0

theorem oneW_mem {zs : List Int} {x : Int} {t : WRow} (h : t ∈ oneW zs x) : t = (zs, x) ∧ x ≠ 0 := by
  unfold oneW at h
  by_cases e : x = 0
  · simp [e] at h
  · rw [if_neg e] at h; exact ⟨by simpa using h, e⟩

theorem cmp_tri (xs ys : List Int) : cmp xs ys < 0 ∨ xs = ys ∨ cmp ys xs < 0 := by
  rcases cmp_range xs ys with h | h | h
  · left; omega
  · right; left; exact cmp_eq h
  · right; right; have := cmp_swap xs ys; omega

theorem putW_mem {zs : List Int} {x : Int} {t : WRow} : ∀ {ts : List WRow}, t ∈ putW ts zs x → t ∈ ts ∨ t.1 = zs := by
  intro ts
  induction ts with
  | nil => intro h; right; exact congrArg Prod.fst (oneW_mem h).1
  | cons s ts ih =>
    intro h
    simp only [putW] at h
    by_cases e : cmp s.1 zs < 0
    · rw [if_pos e] at h
      rcases List.mem_cons.1 h with rfl | h
      · left; simp
      · rcases ih h with h | h
        · left; simp [h]
        · right; exact h
    · rw [if_neg e] at h
      simp only [restW] at h
      by_cases e2 : cmp s.1 zs = 0
      · rw [if_pos e2] at h
        rcases List.mem_append.1 h with h | h
        · right; exact congrArg Prod.fst (oneW_mem h).1
        · left; simp [h]
      · rw [if_neg e2] at h
        rcases List.mem_append.1 h with h | h
        · right; exact congrArg Prod.fst (oneW_mem h).1
        · left; exact h

theorem rises_one (zs : List Int) (x : Int) (ts : List WRow) (hr : Rises ts) (h : ∀ t ∈ ts, cmp zs t.1 < 0) : Rises (oneW zs x ++ ts) := by
  unfold oneW
  by_cases e : x = 0
  · simpa [e] using hr
  · rw [if_neg e]; exact List.pairwise_cons.2 ⟨h, hr⟩

theorem putW_rises {zs : List Int} {x : Int} : ∀ {ts : List WRow}, Rises ts → Rises (putW ts zs x) := by
  intro ts
  induction ts with
  | nil => intro _; have := rises_one zs x [] List.Pairwise.nil (by simp); simpa [putW, restW] using this
  | cons s ts ih =>
    intro h
    obtain ⟨h1, h2⟩ := List.pairwise_cons.1 h
    simp only [putW]
    by_cases e : cmp s.1 zs < 0
    · rw [if_pos e]
      refine List.pairwise_cons.2 ⟨fun t ht => ?_, ih h2⟩
      rcases putW_mem ht with h' | h'
      · exact h1 t h'
      · rw [h']; exact e
    · rw [if_neg e]
      simp only [restW]
      by_cases e2 : cmp s.1 zs = 0
      · rw [if_pos e2]
        refine rises_one _ _ _ h2 fun t ht => ?_
        rw [← cmp_eq e2]; exact h1 t ht
      · rw [if_neg e2]
        have e3 : cmp zs s.1 < 0 := by have := cmp_swap s.1 zs; have := cmp_range s.1 zs; omega
        refine rises_one _ _ _ h fun t ht => ?_
        rcases List.mem_cons.1 ht with rfl | ht
        · exact e3
        · exact cmp_trans e3 (h1 t ht)

theorem putW_nozero {zs : List Int} {x : Int} : ∀ {ts : List WRow}, NoZero ts → NoZero (putW ts zs x) := by
  intro ts
  induction ts with
  | nil => intro _ t ht; obtain ⟨rfl, h⟩ := oneW_mem ht; exact h
  | cons s ts ih =>
    intro h t ht
    simp only [putW] at ht
    have hts : NoZero ts := fun t ht => h t (by simp [ht])
    by_cases e : cmp s.1 zs < 0
    · rw [if_pos e] at ht
      rcases List.mem_cons.1 ht with rfl | ht
      · exact h _ (by simp)
      · exact ih hts t ht
    · rw [if_neg e] at ht
      simp only [restW] at ht
      by_cases e2 : cmp s.1 zs = 0
      · rw [if_pos e2] at ht
        rcases List.mem_append.1 ht with ht | ht
        · obtain ⟨rfl, h⟩ := oneW_mem ht; exact h
        · exact hts t ht
      · rw [if_neg e2] at ht
        rcases List.mem_append.1 ht with ht | ht
        · obtain ⟨rfl, h⟩ := oneW_mem ht; exact h
        · exact h t ht

theorem wOf_one (zs : List Int) (x : Int) (ts : List WRow) (ys : List Int) (h : ∀ t ∈ ts, t.1 ≠ zs) : wOf (oneW zs x ++ ts) ys = wOf ts ys + if zs = ys then x else 0 := by
  unfold oneW
  by_cases e : x = 0
  · rw [if_pos e]; simp [e]
  · rw [if_neg e, List.singleton_append, wOf_cons]
    by_cases e2 : zs = ys
    · subst e2
      rw [if_pos rfl, if_pos rfl, wOf_absent h]; simp
    · rw [if_neg e2, if_neg e2]; simp

theorem putW_wOf {zs : List Int} {x : Int} (ys : List Int) : ∀ {ts : List WRow}, Rises ts → wOf (putW ts zs x) ys = wOf ts ys + if zs = ys then x else 0 := by
  intro ts
  induction ts with
  | nil => intro _; have := wOf_one zs x [] ys (by simp); simpa [putW, restW] using this
  | cons s ts ih =>
    intro h
    obtain ⟨h1, h2⟩ := List.pairwise_cons.1 h
    simp only [putW]
    by_cases e : cmp s.1 zs < 0
    · rw [if_pos e, wOf_cons, wOf_cons, ih h2]
      by_cases e2 : s.1 = ys
      · rw [if_pos e2, if_pos e2, if_neg (fun e3 => cmp_ne e (e2.trans e3.symm))]; simp
      · rw [if_neg e2, if_neg e2]
    · rw [if_neg e]
      simp only [restW]
      by_cases e2 : cmp s.1 zs = 0
      · have es := cmp_eq e2
        rw [if_pos e2, wOf_one _ _ _ _ (fun t ht e' => cmp_ne (h1 t ht) (es.trans e'.symm)), wOf_cons, es]
        by_cases e3 : zs = ys
        · subst e3
          rw [if_pos rfl, if_pos rfl, if_pos rfl, wOf_absent (fun t ht e' => cmp_ne (h1 t ht) (es.trans e'.symm))]; omega
        · rw [if_neg e3, if_neg e3, if_neg e3]
      · rw [if_neg e2]
        have e3 : cmp zs s.1 < 0 := by have := cmp_swap s.1 zs; have := cmp_range s.1 zs; omega
        exact wOf_one _ _ _ _ fun t ht e' => by
          rcases List.mem_cons.1 ht with rfl | ht
          · exact cmp_ne e3 e'.symm
          · exact cmp_ne (cmp_trans e3 (h1 t ht)) e'.symm

theorem wOf_mem {ts : List WRow} (hr : Rises ts) {t : WRow} (h : t ∈ ts) : wOf ts t.1 = t.2 := by
  induction ts with
  | nil => simp at h
  | cons s ts ih =>
    obtain ⟨h1, h2⟩ := List.pairwise_cons.1 hr
    rw [wOf_cons]
    rcases List.mem_cons.1 h with rfl | h
    · simp
    · rw [if_neg (fun e => cmp_ne (h1 t h) e)]; exact ih h2 h
theorem mem_wOf {ts : List WRow} {zs : List Int} (h : wOf ts zs ≠ 0) : (zs, wOf ts zs) ∈ ts := by
  induction ts with
  | nil => exact absurd rfl h
  | cons s ts ih =>
    rw [wOf_cons] at h ⊢
    by_cases e : s.1 = zs
    · rw [if_pos e]; subst e; simp
    · rw [if_neg e] at h ⊢; simp [ih h]

/-- Two rising lists without zeros that have the same weights are one. -/
theorem rises_ext : ∀ {ts us : List WRow}, Rises ts → Rises us → NoZero ts → NoZero us → (∀ zs, wOf ts zs = wOf us zs) → ts = us := by
  intro ts
  induction ts with
  | nil =>
    intro us _ hu _ nu h
    cases us with
    | nil => rfl
    | cons u us =>
      have := h u.1
      rw [wOf_mem hu (by simp), wOf_nil] at this
      exact absurd this.symm (nu u (by simp))
  | cons t ts ih =>
    intro us ht hu nt nu h
    cases us with
    | nil =>
      have := h t.1
      rw [wOf_mem ht (by simp), wOf_nil] at this
      exact absurd this (nt t (by simp))
    | cons u us =>
      obtain ⟨t1, t2⟩ := List.pairwise_cons.1 ht
      obtain ⟨u1, u2⟩ := List.pairwise_cons.1 hu
      have e1 : (t.1, t.2) ∈ u :: us := by
        have := h t.1
        rw [wOf_mem ht (by simp)] at this
        rw [this]; exact mem_wOf (by rw [← this]; exact nt t (by simp))
      have e2 : (u.1, u.2) ∈ t :: ts := by
        have := h u.1
        rw [wOf_mem hu (by simp)] at this
        rw [← this]; exact mem_wOf (by rw [this]; exact nu u (by simp))
      have e : t = u := by
        rcases List.mem_cons.1 e1 with e1 | e1
        · exact e1
        · rcases List.mem_cons.1 e2 with e2 | e2
          · exact e2.symm
          · exact absurd (cmp_trans (u1 _ e1) (t1 _ e2)) (cmp_irrefl _)
      subst e
      congr 1
      refine ih t2 u2 (fun s hs => nt s (by simp [hs])) (fun s hs => nu s (by simp [hs])) fun zs => ?_
      have := h zs
      rw [wOf_cons, wOf_cons] at this
      by_cases e : t.1 = zs
      · subst e
        rw [wOf_absent fun s hs e' => cmp_ne (t1 s hs) e'.symm, wOf_absent fun s hs e' => cmp_ne (u1 s hs) e'.symm]
      · rwa [if_neg e, if_neg e] at this

/-- What rows add at a row. -/
def sumW (l : List WRow) (zs : List Int) : Int := (l.map fun t => if t.1 = zs then t.2 else 0).sum
/-- All rows are put, one by one. -/
def putAll (ts l : List WRow) : List WRow := l.foldl (fun acc t => putW acc t.1 t.2) ts
theorem putAll_nil (ts : List WRow) : putAll ts [] = ts := rfl
theorem putAll_snoc (ts l : List WRow) (t : WRow) : putAll ts (l ++ [t]) = putW (putAll ts l) t.1 t.2 := by simp [putAll]
theorem putAll_take (ts l : List WRow) (k : Nat) (h : k < l.length) : putAll ts (l.take (k + 1)) = putW (putAll ts (l.take k)) (wat l k).1 (wat l k).2 := by rw [wtake_succ l k h, putAll_snoc]
theorem putAll_rises {l : List WRow} : ∀ {ts : List WRow}, Rises ts → Rises (putAll ts l) := by
  induction l with
  | nil => intro ts h; exact h
  | cons t l ih => intro ts h; exact ih (putW_rises h)
theorem putAll_nozero {l : List WRow} : ∀ {ts : List WRow}, NoZero ts → NoZero (putAll ts l) := by
  induction l with
  | nil => intro ts h; exact h
  | cons t l ih => intro ts h; exact ih (putW_nozero h)
theorem putAll_wOf {l : List WRow} (zs : List Int) : ∀ {ts : List WRow}, Rises ts → wOf (putAll ts l) zs = wOf ts zs + sumW l zs := by
  induction l with
  | nil => intro ts h; simp [putAll, sumW]
  | cons t l ih =>
    intro ts h
    have := ih (ts := putW ts t.1 t.2) (putW_rises h)
    rw [putW_wOf zs h] at this
    simp only [putAll, List.foldl_cons] at this ⊢
    rw [this]
    simp only [sumW, List.map_cons, List.sum_cons]
    omega
theorem putW_len {zs : List Int} {x : Int} : ∀ {ts : List WRow}, (putW ts zs x).length ≤ ts.length + 1 := by
  have h1 : ∀ y, (oneW zs y).length ≤ 1 := fun y => by unfold oneW; split <;> simp
  intro ts
  induction ts with
  | nil => simpa [putW, restW] using h1 x
  | cons t ts ih =>
    simp only [putW]
    split
    · simpa using ih
    · simp only [restW]
      split
      · have := h1 (x + t.2); simp; omega
      · have := h1 x; simp; omega
theorem putAll_len (l : List WRow) : ∀ (ts : List WRow), (putAll ts l).length ≤ ts.length + l.length := by
  induction l with
  | nil => intro ts; simp [putAll]
  | cons t l ih => intro ts; have := ih (putW ts t.1 t.2); have := putW_len (zs := t.1) (x := t.2) (ts := ts); simp only [putAll, List.foldl_cons, List.length_cons] at *; omega
/-- Each row of it is one that was there or was put. -/
theorem putAll_rows {l : List WRow} {t : WRow} : ∀ {ts : List WRow}, t ∈ putAll ts l → (∃ s ∈ ts, s.1 = t.1) ∨ ∃ s ∈ l, s.1 = t.1 := by
  induction l with
  | nil => intro ts h; exact .inl ⟨t, h, rfl⟩
  | cons s l ih =>
    intro ts h
    rcases ih (ts := putW ts s.1 s.2) h with ⟨u, hu, e⟩ | ⟨u, hu, e⟩
    · rcases putW_mem hu with h' | h'
      · exact .inl ⟨u, h', e⟩
      · exact .inr ⟨s, by simp, by rw [← e, h']⟩
    · exact .inr ⟨u, by simp [hu], e⟩
/-- Weights stay within what was there and what was put. -/
theorem sumW_bound {l : List WRow} {zs : List Int} {M : Int} (hM : 0 ≤ M) (h : ∀ t ∈ l, -M ≤ t.2 ∧ t.2 ≤ M) : -(M * l.length) ≤ sumW l zs ∧ sumW l zs ≤ M * l.length := by
  induction l with
  | nil => simp [sumW]
  | cons t l ih =>
    have h1 := ih fun s hs => h s (by simp [hs])
    have h2 := h t (by simp)
    have e : M * ((t :: l).length : Int) = M * (l.length : Int) + M := by rw [List.length_cons]; push_cast; rw [Int.mul_add]; omega
    rw [e]
    simp only [sumW, List.map_cons, List.sum_cons] at h1 ⊢
    by_cases e2 : t.1 = zs
    · rw [if_pos e2]; omega
    · rw [if_neg e2]; omega
theorem wOf_bound {ts : List WRow} {zs : List Int} {M : Int} (hM : 0 ≤ M) (h : ∀ t ∈ ts, -M ≤ t.2 ∧ t.2 ≤ M) : -M ≤ wOf ts zs ∧ wOf ts zs ≤ M := by
  by_cases e : wOf ts zs = 0
  · rw [e]; omega
  · exact h _ (mem_wOf e)

end Go.Proofs.Ytnfdncofobkjhaa

/- Contract of spec.l2Put. -/
namespace Go.Proofs.Ytnfdncofobkjhaa
open Go.RowKit

theorem atM_cells {w : World} {b off : Nat} {ts : List WRow} (h : AtM w (some ⟨b, off, none⟩) ts) : ∃ cs, Means w cs ts ∧ ∀ j u, cs[j]? = some u → w.cell? ⟨b, off + j, none⟩ = some u := by
  rcases h with rfl | ⟨b', off', cs, he, hm, hc⟩
  · exact ⟨[], trivial, fun j u h => by simp at h⟩
  · simp only [Option.some.injEq, Addr.mk.injEq, and_true] at he
    obtain ⟨rfl, rfl⟩ := he
    exact ⟨cs, hm, hc⟩
theorem take_cells {cs : List Value} {w : World} {b off : Nat} (hc : ∀ j u, cs[j]? = some u → w.cell? ⟨b, off + j, none⟩ = some u) (k : Nat) : ∀ j u, (cs.take k)[j]? = some u → w.cell? ((⟨b, off, none⟩ : Addr).add j) = some u := fun j u hj => by
  rw [Addr.add_lit]
  refine hc j u ?_
  rw [List.getElem?_take] at hj
  split at hj
  · exact hj
  · cases hj
theorem drop_cells {cs : List Value} {w : World} {b off : Nat} (hc : ∀ j u, cs[j]? = some u → w.cell? ⟨b, off + j, none⟩ = some u) (k : Nat) : ∀ j u, (cs.drop k)[j]? = some u → w.cell? ((⟨b, off + k, none⟩ : Addr).add j) = some u := fun j u hj => by
  rw [Addr.add_lit]
  rw [List.getElem?_drop] at hj
  rw [show off + k + j = off + (k + j) by omega]
  exact hc _ _ hj
theorem owns_cap {w : World} {base : Nat} {e : TypeId} {size : Nat} {a : Option Addr} {n c : Nat} {xs : List Value} (h : w.ownsRow base e size (.slice a n c) n xs) : n ≤ c := by
  rcases h.2 with ⟨h', h0⟩ | ⟨g, cap, cur, h', _, _, h1, _⟩
  · simp at h'; omega
  · simp at h'; omega
/-- A slice's head as Go makes them. -/
def Formed (a : Option Addr) (n c : Nat) : Prop := n ≤ c ∧ (a = none → c = 0) ∧ ∀ ad, a = some ad → ∃ b off, ad = ⟨b, off, none⟩
theorem Formed.nil : Formed none 0 0 := ⟨Nat.le_refl _, fun _ => rfl, fun _ h => by cases h⟩
theorem Formed.some {b off n c : Nat} (h : n ≤ c) : Formed (Option.some ⟨b, off, none⟩) n c := ⟨h, fun h => (by cases h), fun ad h => ⟨b, off, by cases h; rfl⟩⟩
theorem owns_formed {w : World} {base : Nat} {e : TypeId} {size : Nat} {a : Option Addr} {n c : Nat} {xs : List Value} (h : w.ownsRow base e size (.slice a n c) n xs) : Formed a n c := by
  rcases h.2 with ⟨h', h0⟩ | ⟨g, cap, cur, h', _, _, h1, _⟩
  · simp at h'
    obtain ⟨rfl, rfl, rfl⟩ := h'
    exact Formed.nil
  · simp at h'
    obtain ⟨rfl, rfl⟩ := h'
    exact Formed.some h1
theorem oneW_no {zs : List Int} {x : Int} (h : x = 0) : oneW zs x = [] := if_pos h
theorem oneW_yes {zs : List Int} {x : Int} (h : x ≠ 0) : oneW zs x = [(zs, x)] := if_neg h

end Go.Proofs.Ytnfdncofobkjhaa

/- Contracts of slices.Grow, slices.Concat at []int: a nil slice grown, two slices put together. An append at a region's step that draws. -/
namespace Go.Proofs.Ytnfdncofobkjhaa
open Go.RowKit

/-- 'append(out, xs...)' of whatever ints, at a step of a region that draws. -/
theorem step_append_all {P : Program} {w : World} {ops : Array Oper} {o : Oper} {a : Act} {K : Act → World → Prop} {Q : Exit → Act → World → Prop} {E : Prop} (hgd : o.guard = none) (s x : Operand) (t : TypeId)
    (ho : o.op = .call { callee := .builtin .append, args := #[s, x], argTypes := #[t, t] })
    (base : Nat) (e : TypeId) (i : TypeInfo) (z : Value) (bytes : Nat) (ht : P.underlying t = some (.slice e)) (hi : P.info? e = some i) (hz : i.zero = some z)
    (hsize : i.size = 1) (hby : i.bytes = bytes) (hzs : z.cells.size = 1)
    (v : Value) (n : Nat) (xs : List Value) (hs : a.eval s = v) (hown : w.ownsRow base e 1 v n xs)
    (ao : Option Addr) (m c : Nat) (zs : List Int) (hx : a.eval x = .slice ao m c) (hl : zs.length = m) (hat : At w ao zs) (hnil : ao = none → c = 0)
    (h63 : n + m ≤ maxLen) (hbytes : (n + m) * bytes ≤ 140737488355328) (hbase : base ≤ w.heap.size)
    (h : ∀ r cap w', w'.ownsRow base e 1 (.slice r (n + m) cap) (n + m) (xs ++ zs.map (.int .i64)) → w.grownBy w' v.ownBlock → ((Value.slice r (n + m) cap).ownBlock = v.ownBlock ∨ (Value.slice r (n + m) cap).ownBlock = some w.heap.size) → K (a.put o.dst (.slice r (n + m) cap)) w') :
    if Region.wanted o (yielded ops a.tmps) = true then Oper.wp P o a w K Q else E := by
  have hw : Region.wanted o (yielded ops a.tmps) = true := by simp [Region.wanted, hgd]
  rw [if_pos hw]
  cases ao with
  | none =>
    have hc := hnil rfl
    have hzs' : zs = [] := by
      rcases hat with h | ⟨b, off, h, _⟩
      · exact h
      · cases h
    subst hzs' hc
    simp at hl
    subst hl
    obtain ⟨r, cap, rfl⟩ := owns_slice hown
    have hrun := run_append_owned_none (P := P) (w := w) base t o.type e i 1 ht hi (.slice r n cap) n xs hown
    have := h r cap w (by simpa using hown) (World.grownBy.refl _ _) (.inl rfl)
    unfold Oper.wp
    simp [execOp, ho, resolve, invoke, builtin, hs, hx, hrun, Result.andThen]
    rw [Nat.add_zero] at this
    exact this
  | some ad =>
    obtain ⟨v', w', hr, h2, h3, _, h5⟩ := run_append_own_at (P := P) w base t o.type e i z 1 bytes ht hi hz hsize hby hzs (by decide) v n xs hown ad m c (zs.map (.int .i64)) (by simpa using hl) (fun j u hj => by
      have hjl : j < zs.length := by
        have := (List.getElem?_eq_some_iff.1 hj).1
        simpa using this
      obtain ⟨b, off, he, _, hc⟩ := hat.some (by omega)
      simp only [Option.some.injEq] at he
      subst he
      rw [Addr.add_lit, hc j hjl]
      simpa [List.getD, hjl] using hj) (fun u hu => by
      obtain ⟨y, _, rfl⟩ := List.mem_map.1 hu
      rfl) h63 hbytes hbase
    obtain ⟨r, cap, rfl⟩ := owns_slice h2
    unfold Oper.wp execOp
    simp only [ho, resolve, invoke, builtin, Sem.run_bind, Sem.run_pure, Result.andThen_ok, List.map_toArray, List.map_cons, List.map_nil, hs, hx, hr]
    exact h r cap w' h2 h3 h5

end Go.Proofs.Ytnfdncofobkjhaa
