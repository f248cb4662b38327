/- Lists of numbers within the laws' bounds. -/
import Derived.Test.YtociphdhkjoofaaDoorGroundS
namespace Go.Proofs.YtociphdhkjoofaaDoor
open Go.RowKit

/-- Lists within the laws' bounds. -/
def SmK (ta : List (List Int)) (n : Nat) : Prop := ta.length = n ∧ n ≤ 64 ∧ (∀ i, i < ta.length → (ta.getD i []).length ≤ 1048576) ∧ tot ta n ≤ 1048576
theorem tot_le {zss : List (List Int)} (h : ∀ x ∈ zss, x.length ≤ 6) : ∀ k, k ≤ zss.length → tot zss k ≤ 6 * k
  | 0, _ => by rw [tot_zero]; omega
  | k + 1, hk => by
    have h1 := tot_le h k (by omega)
    have h2 := tot_succ zss k (by omega)
    have h3 := h (zss.getD k []) (by simp [List.getD, show k < zss.length by omega])
    omega
theorem smK_of {zss : List (List Int)} (h1 : zss.length ≤ 64) (h2 : ∀ x ∈ zss, x.length ≤ 6) : SmK zss zss.length := by
  refine ⟨rfl, h1, fun i hi => ?_, ?_⟩
  · have := h2 (zss.getD i []) (by simp [List.getD, hi])
    omega
  · have := tot_le h2 _ (Nat.le_refl _)
    omega

end Go.Proofs.YtociphdhkjoofaaDoor
