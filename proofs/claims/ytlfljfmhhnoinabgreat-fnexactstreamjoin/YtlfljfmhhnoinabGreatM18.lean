/- Plain: lists of rows within bounds; sums over keys. -/
import Derived.Test.YtlfljfmhhnoinabGreatM17
import Derived.Test.YtlfljfmhhnoinabGreatM13
namespace Go.Proofs.YtlfljfmhhnoinabGreat

theorem mul_in {x y B C : Int} (h1 : -B ≤ x) (h2 : x ≤ B) (h3 : -C ≤ y) (h4 : y ≤ C) : -(B * C) ≤ x * y ∧ x * y ≤ B * C := by
  have a := Int.mul_nonneg (show 0 ≤ B - x by omega) (show 0 ≤ C + y by omega)
  have b := Int.mul_nonneg (show 0 ≤ B + x by omega) (show 0 ≤ C - y by omega)
  have c := Int.mul_nonneg (show 0 ≤ B - x by omega) (show 0 ≤ C - y by omega)
  have d := Int.mul_nonneg (show 0 ≤ B + x by omega) (show 0 ≤ C + y by omega)
  simp only [Int.sub_mul, Int.add_mul, Int.mul_sub, Int.mul_add] at a b c d
  constructor <;> omega

/-- Rows that rise, without noughts, with so many cells, weights within a bound. -/
structure Lst (q N : Nat) (B : Int) (xs : List WRow) : Prop where
  len : xs.length ≤ N
  rises : Rises xs
  noZero : NoZero xs
  rows : ∀ t ∈ xs, good t.1 = true ∧ t.1.length = q
  within : ∀ t ∈ xs, -B ≤ t.2 ∧ t.2 ≤ B

section
variable {q N N' : Nat} {B B' : Int} {xs ys : List WRow}
theorem Lst.nil (q : Nat) : Lst q 0 0 [] := ⟨Nat.le_refl _, List.Pairwise.nil, fun t h => (by cases h), fun t h => (by cases h), fun t h => (by cases h)⟩
theorem Lst.mono (h : Lst q N B xs) (hN : N ≤ N') (hB : B ≤ B') : Lst q N' B' xs := ⟨Nat.le_trans h.len hN, h.rises, h.noZero, h.rows, fun t ht => by have := h.within t ht; omega⟩
theorem goodT_lst (h : goodT q xs = true) : Lst q 60 1000000 xs :=
  ⟨goodT_len60 h, goodT_rises h, goodT_noZero h, goodT_mem h, fun t ht => (goodT_six h t ht).2⟩
theorem Lst.take (h : Lst q N B xs) (k : Nat) : Lst q N B (xs.take k) :=
  ⟨by rw [List.length_take]; have := h.len; omega, h.rises.sublist (List.take_sublist _ _), fun t ht => h.noZero t (List.mem_of_mem_take ht), fun t ht => h.rows t (List.mem_of_mem_take ht), fun t ht => h.within t (List.mem_of_mem_take ht)⟩
theorem Lst.six (h : Lst q N B xs) (h6 : q ≤ 6) : ∀ t ∈ xs, t.1.length ≤ 6 := fun t ht => by have := (h.rows t ht).2; omega
theorem Lst.put (h : Lst q N B xs) (k : Lst q N' B' ys) (h0 : 0 ≤ B) (h0' : 0 ≤ B') : Lst q (N + N') (B + B') (putAll xs ys) where
  len := by have := putAll_len ys xs; have := h.len; have := k.len; omega
  rises := putAll_rises h.rises
  noZero := putAll_nozero h.noZero
  rows := fun t ht => by
    rcases putAll_rows ht with ⟨s, hs, e⟩ | ⟨s, hs, e⟩
    · rw [← e]; exact h.rows s hs
    · rw [← e]; exact k.rows s hs
  within := fun t ht => by
    have hw := wOf_mem (putAll_rises (l := ys) h.rises) ht
    rw [putAll_wOf t.1 h.rises, sumW_rises k.rises] at hw
    have b1 := wOf_bound (zs := t.1) h0 h.within
    have b2 := wOf_bound (zs := t.1) h0' k.within
    omega
theorem Lst.neg (h : Lst q N B xs) : Lst q N B (scaleW xs (-1)) := by
  have e : scaleW xs (-1) = xs.map fun t => (t.1, -1 * t.2) := by unfold scaleW; rw [if_neg (by decide)]
  rw [e]
  refine ⟨by rw [List.length_map]; exact h.len, ?_, fun t ht => ?_, fun t ht => ?_, fun t ht => ?_⟩
  · unfold Rises; rw [List.pairwise_map]; exact h.rises
  · obtain ⟨s, hs, rfl⟩ := List.mem_map.1 ht
    have := h.noZero s hs
    show -1 * s.2 ≠ 0
    omega
  · obtain ⟨s, hs, rfl⟩ := List.mem_map.1 ht
    exact h.rows s hs
  · obtain ⟨s, hs, rfl⟩ := List.mem_map.1 ht
    have := h.within s hs
    show -B ≤ -1 * s.2 ∧ -1 * s.2 ≤ B
    omega
theorem Lst.tells (h : Lst q N B xs) {f : List Int → Int} (hf : ∀ zs, good zs = true → zs.length = q → wOf xs zs = f (raised zs)) : Tells q f xs := ⟨h.rises, h.noZero, h.rows, hf⟩
end
theorem Tells.lst {q : Nat} {f : List Int → Int} {xs : List WRow} {B : Int} (h : Tells q f xs) (hB : ∀ t ∈ xs, -B ≤ t.2 ∧ t.2 ≤ B) : Lst q xs.length B xs := ⟨Nat.le_refl _, h.rises, h.noZero, h.rows, hB⟩

/-- A sum over keys hangs on those alone that count. -/
theorem sum_perm {h : List Int → Int} {ks ks' : List (List Int)} (p : ks.Perm ks') : (ks.map h).sum = (ks'.map h).sum := by
  induction p with
  | nil => rfl
  | cons x _ ih => simp only [List.map_cons, List.sum_cons, ih]
  | swap x y l => simp only [List.map_cons, List.sum_cons]; omega
  | trans _ _ ih1 ih2 => rw [ih1, ih2]
theorem sum_filter (h : List Int → Int) (ks : List (List Int)) : (ks.map h).sum = ((ks.filter fun a => decide (h a ≠ 0)).map h).sum := by
  induction ks with
  | nil => rfl
  | cons a ks ih =>
    by_cases e : h a = 0
    · rw [List.filter_cons_of_neg (by simp [e]), List.map_cons, List.sum_cons, ih, e]; omega
    · rw [List.filter_cons_of_pos (by simp [e]), List.map_cons, List.sum_cons, List.map_cons, List.sum_cons, ih]
theorem sum_support {h : List Int → Int} {ks ks' : List (List Int)} (n : ks.Nodup) (n' : ks'.Nodup) (hs : ∀ a, h a ≠ 0 → (a ∈ ks ↔ a ∈ ks')) : (ks.map h).sum = (ks'.map h).sum := by
  rw [sum_filter h ks, sum_filter h ks']
  refine sum_perm ((List.perm_ext_iff_of_nodup (n.filter _) (n'.filter _)).2 fun a => ?_)
  simp only [List.mem_filter, decide_eq_true_eq]
  constructor
  · rintro ⟨h1, h2⟩; exact ⟨(hs a h2).1 h1, h2⟩
  · rintro ⟨h1, h2⟩; exact ⟨(hs a h2).2 h1, h2⟩

/-- A sum over a map's keys is one over the rows that it tells. -/
theorem sum_tells {q : Nat} {f : List Int → Int} {xs : List WRow} {ks : List (List Int)} (h : Tells q f xs) (hk : Keys q ks) (hn : ks.Nodup) (hz : ∀ zs, good zs = true → zs.length = q → raised zs ∉ ks → f (raised zs) = 0) (G : List Int → Int) :
    (ks.map fun a => f a * G a).sum = (xs.map fun t => t.2 * G (raised t.1)).sum := by
  have e : (xs.map fun t => t.2 * G (raised t.1)) = (xs.map fun t => raised t.1).map fun a => f a * G a := by
    rw [List.map_map]
    refine List.map_congr_left fun t ht => ?_
    show t.2 * G (raised t.1) = f (raised t.1) * G (raised t.1)
    rw [← h.weight t.1 (h.rows t ht).1 (h.rows t ht).2, wOf_mem h.rises ht]
  rw [e]
  refine sum_support hn ?_ fun a ha => ?_
  · unfold List.Nodup
    rw [List.pairwise_map]
    refine h.rises.imp_of_mem fun {s t} hs ht hc e => ?_
    exact cmp_ne hc (raised_inj (h.rows s hs).1 (h.rows t ht).1 e)
  · constructor
    · intro hm
      obtain ⟨zs, h1, h2, rfl⟩ := hk a hm
      have hf : f (raised zs) ≠ 0 := fun e => ha (by rw [e, Int.zero_mul])
      rw [← h.weight zs h1 h2] at hf
      exact List.mem_map.2 ⟨_, mem_wOf hf, rfl⟩
    · intro hm
      obtain ⟨t, ht, rfl⟩ := List.mem_map.1 hm
      refine Classical.byContradiction fun hno => ?_
      have := hz t.1 (h.rows t ht).1 (h.rows t ht).2 hno
      exact ha (by rw [this, Int.zero_mul])

end Go.Proofs.YtlfljfmhhnoinabGreat
