/- Cells of one thing in a row, put one by one. -/
import Derived.Test.YtecaaekilbdgdaaRep
namespace Go.Proofs.Ytecaaekilbdgdaa
open Go.RowKit

theorem sets_self (cells : List Value) (o k : Nat) (h : o + k ≤ cells.length) : sets cells o (sub cells o k) = cells := by
  have hl := sub_len h
  apply List.ext_getElem?
  intro j
  by_cases hj : o ≤ j ∧ j < o + k
  · obtain ⟨d, rfl⟩ := Nat.exists_eq_add_of_le hj.1
    rw [sets_in _ _ _ _ (by omega) (by omega), sub_at (by omega)]
  · rw [sets_far _ _ _ _ (by omega)]
theorem sets_set (cells : List Value) (o j : Nat) (vs : List Value) (v : Value) (hj : j < vs.length) (h : o + vs.length ≤ cells.length) : (sets cells o vs).set (o + j) v = sets cells o (vs.set j v) := by
  apply List.ext_getElem?
  intro i
  by_cases hi : o ≤ i ∧ i < o + vs.length
  · obtain ⟨d, rfl⟩ := Nat.exists_eq_add_of_le hi.1
    rw [sets_in _ _ _ _ (by simp; omega) (by simp; omega)]
    by_cases hd : d = j
    · subst hd
      rw [List.getElem?_set_self (by rw [sets_len]; omega), List.getElem?_set_self (by omega)]
    · rw [List.getElem?_set_ne (by omega), List.getElem?_set_ne (by omega), sets_in _ _ _ _ (by omega) h]
  · rw [List.getElem?_set_ne (by omega), sets_far _ _ _ _ (by omega), sets_far _ _ _ _ (by simp; omega)]

end Go.Proofs.Ytecaaekilbdgdaa
