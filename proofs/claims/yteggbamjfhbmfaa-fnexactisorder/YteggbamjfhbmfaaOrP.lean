/- Plain: orders: lists that have each of the first numbers once. -/
import Derived.Test.YteggbamjfhbmfaaInsP
import Derived.Test.YteggbamjfhbmfaaFnI
import Derived.Test.YteggbamjfhbmfaaSzP
namespace Go.Proofs.Yteggbamjfhbmfaa
open Go.RowKit

def srtI (l : List Int) : List Int := l.mergeSort fun x y => decide (x ≤ y)
def eachB (l : List Int) (n : Nat) : Bool := decide (srtI l = upN n)
theorem upN_mem {n : Nat} {x : Int} : x ∈ upN n ↔ 0 ≤ x ∧ x < (n : Int) := by
  unfold upN
  rw [List.mem_map]
  constructor
  · rintro ⟨i, hi, rfl⟩
    rw [List.mem_range] at hi
    omega
  · intro h
    exact ⟨x.toNat, List.mem_range.2 (by omega), by omega⟩
theorem upN_pair (n : Nat) : (upN n).Pairwise (· < ·) := by
  unfold upN
  rw [List.pairwise_map]
  exact List.pairwise_lt_range.imp (fun h => by omega)
theorem srtI_perm (l : List Int) : (srtI l).Perm l := List.mergeSort_perm l _
theorem srtI_pair (l : List Int) : (srtI l).Pairwise (· ≤ ·) := by
  have h := List.pairwise_mergeSort (le := fun x y : Int => decide (x ≤ y)) (fun a b c h1 h2 => by simp at *; omega) (fun a b => by simp; omega) l
  exact h.imp (fun h => by simpa using h)
theorem srtI_up {l : List Int} {n : Nat} (h : l.Perm (upN n)) : srtI l = upN n :=
  ((srtI_perm l).trans h).eq_of_pairwise (le := (· ≤ ·)) (fun a b _ _ h1 h2 => by omega) (srtI_pair l) ((upN_pair n).imp (fun h => by omega))
theorem eachB_iff {l : List Int} {n : Nat} : eachB l n = true ↔ l.Perm (upN n) := by
  unfold eachB
  rw [decide_eq_true_eq]
  exact ⟨fun h => (srtI_perm l).symm.trans (by rw [h]), srtI_up⟩
theorem each_tbl {l : List Int} {n : Nat} (h : l.Perm (upN n)) : TbL n l :=
  ⟨h.symm.nodup ((upN_pair n).imp (fun h => by omega)), fun x hx => upN_mem.1 (h.mem_iff.1 hx)⟩

theorem insI_perm {l : List Int} {x : Int} (h : ¬ x ∈ l) : (insI l x).Perm (x :: l) := by
  rw [insI_no h]
  refine List.perm_middle.trans ?_
  rw [List.take_append_drop]
def putI (acc l : List Int) : List Int := l.foldl insI acc
theorem putI_snoc (acc l : List Int) (x : Int) : putI acc (l ++ [x]) = insI (putI acc l) x := by simp [putI]
theorem putI_len : ∀ (l acc : List Int), (putI acc l).length ≤ acc.length + l.length ∧ ((putI acc l).length = acc.length + l.length → (putI acc l).Perm (acc ++ l))
  | [], acc => by simp [putI]
  | x :: l, acc => by
    have ih := putI_len l (insI acc x)
    have e : putI acc (x :: l) = putI (insI acc x) l := rfl
    rw [e, List.length_cons]
    by_cases h : x ∈ acc
    · rw [insI_yes h] at ih ⊢
      exact ⟨by omega, fun h9 => by omega⟩
    · have hp := insI_perm h
      have hl := hp.length_eq
      rw [List.length_cons] at hl
      refine ⟨by omega, fun h9 => ?_⟩
      refine (ih.2 (by omega)).trans ((hp.append_right l).trans ?_)
      rw [List.cons_append]
      exact List.perm_middle.symm
theorem putI_nodup : ∀ (l acc : List Int), (acc ++ l).Nodup → (putI acc l).Perm (acc ++ l)
  | [], acc, _ => by simp [putI]
  | x :: l, acc, h => by
    have hx : ¬ x ∈ acc := fun hx => by
      have := (List.nodup_append.1 h).2.2 x hx x (List.mem_cons_self ..)
      exact this rfl
    have hp := insI_perm hx
    have hp2 : (insI acc x ++ l).Perm (acc ++ x :: l) := (hp.append_right l).trans (by rw [List.cons_append]; exact List.perm_middle.symm)
    have e : putI acc (x :: l) = putI (insI acc x) l := rfl
    rw [e]
    exact (putI_nodup l (insI acc x) (hp2.symm.nodup h)).trans hp2
theorem putI_mem : ∀ (l acc : List Int) (y : Int), y ∈ putI acc l → y ∈ acc ∨ y ∈ l
  | [], acc, y, h => .inl h
  | x :: l, acc, y, h => by
    rcases putI_mem l (insI acc x) y h with h | h
    · by_cases hx : x ∈ acc
      · rw [insI_yes hx] at h; exact .inl h
      · rcases List.mem_cons.1 ((insI_perm hx).mem_iff.1 h) with h | h
        · exact .inr (by rw [h]; exact List.mem_cons_self ..)
        · exact .inl h
    · exact .inr (List.mem_cons_of_mem _ h)
theorem putI_bl : ∀ (l : List Int) (s : Nat), s < 64 → (∀ x ∈ l, 0 ≤ x ∧ x < 6) → ∃ t, t < 64 ∧ putI (bl s) l = bl t
  | [], s, hs, _ => ⟨s, hs, rfl⟩
  | x :: l, s, hs, h => by
    have hx := h x (List.mem_cons_self ..)
    have e : putI (bl s) (x :: l) = putI (insI (bl s) x) l := rfl
    rw [e, insI_bl hs hx.1 hx.2]
    have h2 : 2 ^ x.toNat < 64 := by
      have : ∀ k, k < 6 → 2 ^ k < 64 := by decide
      exact this _ (by omega)
    exact putI_bl l _ (Nat.or_lt_two_pow (n := 6) hs h2) (fun y hy => h y (List.mem_cons_of_mem _ hy))
theorem bl_full : ∀ n : Nat, n < 7 → ∀ t : Nat, t < 64 → (bl t).length = n → (bl t).all (fun x => decide (x < (n : Int))) = true → bl t = upN n := by decide +kernel
theorem bl_nil : bl 0 = [] := by decide
/-- What the model asks of an order. -/
def isoB (n : Nat) (l : List Int) : Bool := decide (l.length = n) && (l.all (fun x => decide (0 ≤ x) && decide (x < (l.length : Int))) && decide ((putI [] l).length = l.length))
theorem isoB_each {n : Nat} (hn : n ≤ 6) (l : List Int) : isoB n l = eachB l n := by
  rw [Bool.eq_iff_iff, eachB_iff]
  simp only [isoB, Bool.and_eq_true, decide_eq_true_eq, List.all_eq_true]
  constructor
  · rintro ⟨h1, h2, h3⟩
    have hp : (putI [] l).Perm l := by simpa using (putI_len l []).2 (by simpa using h3)
    obtain ⟨t, ht, e⟩ := putI_bl l 0 (by omega) (fun x hx => by have := h2 x hx; omega)
    rw [bl_nil] at e
    have hf := bl_full n (by omega) t ht (by rw [← e]; omega) (by
      rw [List.all_eq_true]
      intro x hx
      have := h2 x (hp.mem_iff.1 (by rw [e]; exact hx))
      simp; omega)
    rw [← hf, ← e]
    exact hp.symm
  · intro h
    have ht := each_tbl h
    have hl : l.length = n := by have := h.length_eq; rw [upN_len] at this; exact this
    refine ⟨hl, fun x hx => by have := ht.lt x hx; omega, ?_⟩
    have := (putI_nodup l [] (by simpa using ht.nd)).length_eq
    simpa using this

end Go.Proofs.Yteggbamjfhbmfaa
