/- Plain functions on lists of numbers: what the program's row functions answer. -/
import Derived.Test.YtagijnfiiifppaaGround
namespace Go.Proofs.Ytagijnfiiifppaa

def inb (z : Int) : Bool := decide (-100000 ≤ z) && decide (z ≤ 100000)
/-- A good row's cells. -/
def good (zs : List Int) : Bool := decide (zs.length ≤ 6) && zs.all inb

theorem good_len {zs : List Int} (h : good zs = true) : zs.length ≤ 6 := by simp [good] at h; exact h.1
theorem good_cell {zs : List Int} (h : good zs = true) (k : Nat) (hk : k < zs.length) : -100000 ≤ zs.getD k 0 ∧ zs.getD k 0 ≤ 100000 := by
  simp [good, inb] at h
  have := h.2 (zs[k]) (List.getElem_mem hk)
  simpa [List.getD, hk] using this
theorem good_long {zs : List Int} (h : 6 < zs.length) : good zs = false := by simp [good]; omega
theorem not_good_cell {zs : List Int} (k : Nat) (hk : k < zs.length) (h : zs.getD k 0 < -100000 ∨ 100000 < zs.getD k 0) : good zs = false := by
  cases hg : good zs with
  | false => rfl
  | true => have := good_cell hg k hk; omega
theorem good_of {zs : List Int} (hl : zs.length ≤ 6) (h : ∀ k, k < zs.length → -100000 ≤ zs.getD k 0 ∧ zs.getD k 0 ≤ 100000) : good zs = true := by
  simp only [good, Bool.and_eq_true, decide_eq_true_eq, List.all_eq_true, inb]
  refine ⟨hl, fun x hx => ?_⟩
  obtain ⟨k, hk, rfl⟩ := List.getElem_of_mem hx
  simpa [List.getD, hk] using h k hk

end Go.Proofs.Ytagijnfiiifppaa
