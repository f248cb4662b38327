/- Plain: one transaction after the other; the program's question and the model's are one. -/
import Derived.Test.YtociphdhkjoofaaDoorM5
import Derived.Test.YtociphdhkjoofaaDoorM6
namespace Go.Proofs.YtociphdhkjoofaaDoor
open Go.RowKit

def ofT (xs : List TStep) (t : Int) : List TStep := xs.filter fun x => decide (x.1 = t)
def oat (xs : List TStep) (l : List Int) : List TStep := l.flatMap (ofT xs)
theorem oat_take {xs : List TStep} {l : List Int} {k : Nat} {t : Int} (h : l[k]? = some t) : oat xs (l.take (k + 1)) = oat xs (l.take k) ++ ofT xs t := by
  obtain ⟨hk, rfl⟩ := List.getElem?_eq_some_iff.1 h
  unfold oat
  rw [List.take_succ_eq_append_getElem hk, List.flatMap_append]; simp
theorem ofT_take {xs : List TStep} {t : Int} {j : Nat} {x : TStep} (h : xs[j]? = some x) : ofT (xs.take (j + 1)) t = if x.1 = t then ofT (xs.take j) t ++ [x] else ofT (xs.take j) t := by
  obtain ⟨hj, rfl⟩ := List.getElem?_eq_some_iff.1 h
  unfold ofT
  rw [List.take_succ_eq_append_getElem hj, List.filter_append]
  by_cases e : xs[j].1 = t
  · rw [if_pos e]; simp [e]
  · rw [if_neg e]; simp [e]
theorem oat_cons (x : TStep) (xs : List TStep) : ∀ l : List Int, (oat (x :: xs) l).length = l.countP (fun t => decide (x.1 = t)) + (oat xs l).length
  | [] => by simp [oat]
  | t :: l => by
    have ih := oat_cons x xs l
    unfold oat at ih ⊢
    rw [List.flatMap_cons, List.flatMap_cons, List.length_append, List.length_append, ih, List.countP_cons]
    unfold ofT
    rw [List.filter_cons]
    by_cases e : x.1 = t
    · simp [e]; omega
    · simp [e]; omega
theorem count_one {l : List Int} (h : l.Nodup) (u : Int) : l.countP (fun t => decide (u = t)) = if u ∈ l then 1 else 0 := by
  have e : (fun t => decide (u = t)) = fun t => t == u := by
    funext t
    rw [Bool.eq_iff_iff]
    simp only [decide_eq_true_eq, beq_iff_eq]
    exact eq_comm
  rw [e]
  show l.count u = _
  rw [h.count]
theorem oat_len {l : List Int} (h : l.Nodup) : ∀ xs : List TStep, (oat xs l).length ≤ xs.length ∧ ((oat xs l).length = xs.length ↔ ∀ x ∈ xs, x.1 ∈ l)
  | [] => by
    have : oat [] l = [] := by unfold oat ofT; simp
    rw [this]; simp
  | x :: xs => by
    have ih := oat_len h xs
    rw [oat_cons, count_one h]
    by_cases e : x.1 ∈ l
    · rw [if_pos e]
      refine ⟨by simp; omega, ?_⟩
      simp only [List.length_cons, List.mem_cons, forall_eq_or_imp]
      rw [show (1 + (oat xs l).length = xs.length + 1) ↔ (oat xs l).length = xs.length by omega, ih.2]
      exact ⟨fun h => ⟨e, h⟩, fun h => h.2⟩
    · rw [if_neg e]
      refine ⟨by simp; omega, ?_⟩
      simp only [List.length_cons, List.mem_cons, forall_eq_or_imp]
      constructor
      · intro h9; have := ih.1; omega
      · intro h9; exact absurd h9.1 e
theorem txS_bit {xs : List TStep} (hx : ∀ y ∈ xs, 0 ≤ y.1 ∧ y.1 < 6) (i : Nat) : (txS xs).testBit i = true ↔ ∃ x ∈ xs, x.1 = (i : Int) := by
  have : ∀ (l : List TStep) (s : Nat), (∀ y ∈ l, 0 ≤ y.1 ∧ y.1 < 6) → ((l.foldl (fun s x => s ||| 2 ^ x.1.toNat) s).testBit i = true ↔ (s.testBit i = true ∨ ∃ x ∈ l, x.1 = (i : Int))) := by
    intro l
    induction l with
    | nil => intro s _; simp
    | cons t l ih =>
      intro s hl
      rw [List.foldl_cons, ih _ (fun y hy => hl y (List.mem_cons_of_mem _ hy)), Nat.testBit_or, Bool.or_eq_true, Nat.testBit_two_pow]
      have h0 := hl t (List.mem_cons_self ..)
      simp only [decide_eq_true_eq, List.mem_cons, exists_eq_or_imp]
      constructor
      · rintro ((h | h) | h)
        · exact .inl h
        · exact .inr (.inl (by omega))
        · exact .inr (.inr h)
      · rintro (h | h | h)
        · exact .inl (.inl h)
        · exact .inl (.inr (by omega))
        · exact .inr h
  have := this xs 0 hx
  simpa [txS] using this
theorem mem_txS {xs : List TStep} (hx : ∀ y ∈ xs, 0 ≤ y.1 ∧ y.1 < 6) (t : Int) : t ∈ bl (txS xs) ↔ ∃ x ∈ xs, x.1 = t := by
  rw [mem_bl]
  constructor
  · rintro ⟨i, _, hb, rfl⟩
    exact (txS_bit hx i).1 hb
  · rintro ⟨x, hm, rfl⟩
    have := hx x hm
    refine ⟨x.1.toNat, by omega, (txS_bit hx _).2 ⟨x, hm, by omega⟩, by omega⟩
/-- What the model asks of an order, number by number. -/
def snQ (xs : List TStep) (l : List Int) : Bool := decide (l.Nodup) && l.all fun t => decide (t ∈ bl (txS xs))
def snB (xs : List TStep) (l : List Int) : Bool := gpB xs && decide (srtI l = bl (txS xs))
def snL (xs : List TStep) (l : List Int) : List TStep := if snB xs l then oat xs l else []
theorem bl_nodup (s : Nat) : (bl s).Nodup := (bl_sorted s).imp (fun h => by omega)
theorem srt_of_perm {l : List Int} {s : Nat} (h : l.Perm (bl s)) : srtI l = bl s :=
  List.Perm.eq_of_pairwise (fun _ _ _ _ h1 h2 => Int.le_antisymm h1 h2) (srtI_pair l) ((bl_sorted s).imp (fun h => Int.le_of_lt h)) ((srtI_perm l).trans h)
theorem sn_same {xs : List TStep} (hg : gpB xs = true) (l : List Int) : snB xs l = (snQ xs l && decide ((oat xs l).length = xs.length)) := by
  have hx := gp_txn hg
  unfold snB
  rw [hg, Bool.true_and, Bool.eq_iff_iff]
  simp only [decide_eq_true_eq, Bool.and_eq_true]
  unfold snQ
  simp only [decide_eq_true_eq, Bool.and_eq_true, List.all_eq_true]
  constructor
  · intro h
    have hp : l.Perm (bl (txS xs)) := by rw [← h]; exact (srtI_perm l).symm
    have hnd : l.Nodup := hp.nodup_iff.2 (bl_nodup _)
    refine ⟨⟨hnd, fun t ht => hp.mem_iff.1 ht⟩, (oat_len hnd xs).2.2 (fun x hm => hp.mem_iff.2 ((mem_txS hx _).2 ⟨x, hm, rfl⟩))⟩
  · rintro ⟨⟨hnd, hall⟩, hl⟩
    have hin := (oat_len hnd xs).2.1 hl
    refine srt_of_perm ((List.perm_ext_iff_of_nodup hnd (bl_nodup _)).2 (fun t => ⟨hall t, fun ht => ?_⟩))
    obtain ⟨x, hm, rfl⟩ := (mem_txS hx t).1 ht
    exact hin x hm
theorem snL_len (xs : List TStep) (l : List Int) : (snL xs l).length ≤ 40 := by
  unfold snL
  split
  · rename_i h
    have hg : gpB xs = true := by unfold snB at h; simp only [Bool.and_eq_true] at h; exact h.1
    rw [sn_same hg] at h
    simp only [Bool.and_eq_true, decide_eq_true_eq] at h
    rw [h.2]; exact gp_len hg
  · simp
/-- How many steps may be in what was put together so far. -/
theorem oat_most {xs : List TStep} {l : List Int} (h : l.Nodup) : (oat xs l).length ≤ xs.length := (oat_len h xs).1
theorem nodup_snoc {l : List Int} {k : Nat} {t : Int} (h : l[k]? = some t) : (l.take (k + 1)).Nodup ↔ (l.take k).Nodup ∧ t ∉ l.take k := by
  obtain ⟨hk, rfl⟩ := List.getElem?_eq_some_iff.1 h
  rw [List.take_succ_eq_append_getElem hk, List.nodup_append]
  simp only [List.nodup_cons, List.not_mem_nil, not_false_eq_true, List.nodup_nil, and_self, List.mem_singleton, forall_eq, true_and]
  constructor
  · rintro ⟨h1, h2⟩; exact ⟨h1, fun hm => h2 _ hm rfl⟩
  · rintro ⟨h1, h2⟩; exact ⟨h1, fun a ha e => h2 (e ▸ ha)⟩
theorem snQ_no {xs : List TStep} {l : List Int} {k : Nat} {t : Int} (h : l[k]? = some t) (hn : t ∈ l.take k ∨ t ∉ bl (txS xs)) : snQ xs l = false := by
  cases hq : snQ xs l with
  | false => rfl
  | true =>
    unfold snQ at hq
    simp only [Bool.and_eq_true, decide_eq_true_eq, List.all_eq_true] at hq
    rcases hn with hn | hn
    · have h9 : (l.take (k + 1)).Nodup := hq.1.sublist (List.take_sublist _ _)
      exact absurd hn ((nodup_snoc h).1 h9).2
    · exact absurd (hq.2 t (List.mem_of_getElem? h)) hn

end Go.Proofs.YtociphdhkjoofaaDoor
