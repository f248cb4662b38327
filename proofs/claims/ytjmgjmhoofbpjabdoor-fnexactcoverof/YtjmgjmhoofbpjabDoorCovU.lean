/- A cover is small. -/
import Derived.Test.YtjmgjmhoofbpjabDoorCovS
namespace Go.Proofs.YtjmgjmhoofbpjabDoor
open Go.RowKit

theorem dsum_le {xs : List Dep} (h : ∀ x ∈ xs, dcost x ≤ 12) : ∀ k, k ≤ xs.length → dsum xs k ≤ 12 * k
  | 0, _ => by rw [dsum_zero]; omega
  | k + 1, hk => by
    have h1 := dsum_le h k (by omega)
    have h2 := dsum_succ (List.getElem?_eq_getElem (by omega : k < xs.length))
    have h3 := h xs[k] (List.getElem_mem _)
    omega
theorem cov_small (l : List Dep) (C : Int) : SmD (covL l C) (covL l C).length := by
  refine ⟨rfl, ?_⟩
  have h10 : (covL l C).length ≤ 10 := by
    unfold covL
    cases hb : covB l C with
    | false => simp
    | true =>
      unfold covB at hb
      simp only [Bool.and_eq_true, decide_eq_true_eq] at hb
      simp only [if_true, List.length_map]
      exact hb.2
  have h12 : ∀ x ∈ covL l C, dcost x ≤ 12 := by
    unfold covL
    cases hb : covB l C with
    | false => simp
    | true =>
      simp only [if_true]
      intro x hx
      obtain ⟨p, _, rfl⟩ := List.mem_map.1 hx
      have h1 := bl_len p.1
      have h2 := bl_len p.2
      unfold dcost und
      simp only
      omega
  have := dsum_le h12 _ (Nat.le_refl _)
  omega

end Go.Proofs.YtjmgjmhoofbpjabDoor
