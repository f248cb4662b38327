/- Plain: good steps, clashes, who wrote last. -/
import Derived.Test.YtociphdhkjoofaaDoorSrF
namespace Go.Proofs.YtociphdhkjoofaaDoor
open Go.RowKit

def stOk (x : TStep) : Bool := decide (0 ≤ x.1) && (decide (x.1 < 6) && (decide (0 ≤ x.2.2) && (decide (x.2.2 < 4) && (decide (1 ≤ x.2.1) && decide (x.2.1 ≤ 2)))))
def gpB (xs : List TStep) : Bool := decide (xs.length ≤ 40) && xs.all stOk
theorem stOk_iff {x : TStep} : stOk x = true ↔ 0 ≤ x.1 ∧ x.1 < 6 ∧ 0 ≤ x.2.2 ∧ x.2.2 < 4 ∧ 1 ≤ x.2.1 ∧ x.2.1 ≤ 2 := by simp [stOk]
theorem stOk_no {x : TStep} (h : ¬ (0 ≤ x.1 ∧ x.1 < 6 ∧ 0 ≤ x.2.2 ∧ x.2.2 < 4 ∧ 1 ≤ x.2.1 ∧ x.2.1 ≤ 2)) : stOk x = false := by
  cases hb : stOk x with
  | false => rfl
  | true => exact absurd (stOk_iff.1 hb) h
theorem all_step {xs : List TStep} {k : Nat} {x : TStep} (h : xs[k]? = some x) : (xs.drop k).all stOk = (stOk x && (xs.drop (k + 1)).all stOk) := by
  obtain ⟨hk, rfl⟩ := List.getElem?_eq_some_iff.1 h
  rw [List.drop_eq_getElem_cons hk]; rfl
theorem all_done {xs : List TStep} {k : Nat} (h : xs.length ≤ k) : (xs.drop k).all stOk = true := by
  rw [List.drop_of_length_le h]; rfl
theorem gp_len {xs : List TStep} (h : gpB xs = true) : xs.length ≤ 40 := by
  simp only [gpB, Bool.and_eq_true, decide_eq_true_eq] at h; exact h.1
theorem gp_at {xs : List TStep} (h : gpB xs = true) {k : Nat} {x : TStep} (hx : xs[k]? = some x) : 0 ≤ x.1 ∧ x.1 < 6 ∧ 0 ≤ x.2.2 ∧ x.2.2 < 4 ∧ 1 ≤ x.2.1 ∧ x.2.1 ≤ 2 := by
  simp only [gpB, Bool.and_eq_true, decide_eq_true_eq, List.all_eq_true] at h
  exact stOk_iff.1 (h.2 x (List.mem_of_getElem? hx))
/-- Two steps clash. -/
def clB (x y : TStep) : Bool := decide (x.1 ≠ y.1) && (decide (x.2.2 = y.2.2) && (decide (x.2.1 = 2) || decide (y.2.1 = 2)))

end Go.Proofs.YtociphdhkjoofaaDoor
