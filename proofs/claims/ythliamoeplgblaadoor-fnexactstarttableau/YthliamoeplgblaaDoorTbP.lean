/- Plain: good tableaus. -/
import Derived.Test.YthliamoeplgblaaDoorPlain
namespace Go.Proofs.YthliamoeplgblaaDoor

def rowOk (C : Int) (z : List Int) : Bool := good z && decide ((z.length : Int) = C) && z.all (fun x => decide (0 ≤ x))
/-- A tableau of C columns that is good. -/
def tbB (C : Int) (zss : List (List Int)) : Bool := (decide (1 ≤ C) && decide (C ≤ 6)) && (decide (1 ≤ zss.length) && decide (zss.length ≤ 8)) && zss.all (rowOk C)

theorem rowOk_good {C : Int} {z : List Int} (h : rowOk C z = true) : good z = true := by simp [rowOk] at h; exact h.1.1
theorem rowOk_len {C : Int} {z : List Int} (h : rowOk C z = true) : (z.length : Int) = C := by simp [rowOk] at h; exact h.1.2
theorem rowOk_cell {C : Int} {z : List Int} (h : rowOk C z = true) (k : Nat) (hk : k < z.length) : 0 ≤ z.getD k 0 ∧ z.getD k 0 ≤ 100000 := by
  have h1 := good_cell (rowOk_good h) k hk
  simp [rowOk] at h
  have h2 := h.2 z[k] (List.getElem_mem hk)
  refine ⟨?_, h1.2⟩
  simpa [List.getD, hk] using h2
theorem rowOk_of {C : Int} {z : List Int} (hg : good z = true) (hl : (z.length : Int) = C) (h : ∀ k, k < z.length → 0 ≤ z.getD k 0) : rowOk C z = true := by
  simp only [rowOk, hg, Bool.true_and, Bool.and_eq_true, decide_eq_true_eq, List.all_eq_true]
  refine ⟨hl, fun x hx => ?_⟩
  obtain ⟨k, hk, rfl⟩ := List.getElem_of_mem hx
  simpa [List.getD, hk] using h k hk
theorem tbB_C {C : Int} {zss : List (List Int)} (h : tbB C zss = true) : 1 ≤ C ∧ C ≤ 6 := by simp [tbB] at h; exact h.1.1
theorem tbB_n {C : Int} {zss : List (List Int)} (h : tbB C zss = true) : 1 ≤ zss.length ∧ zss.length ≤ 8 := by simp [tbB] at h; exact h.1.2
theorem tbB_row {C : Int} {zss : List (List Int)} (h : tbB C zss = true) {k : Nat} {z : List Int} (hz : zss[k]? = some z) : rowOk C z = true := by
  have h1 : zss.all (rowOk C) = true := by simp only [tbB, Bool.and_eq_true] at h; exact h.2
  exact List.all_eq_true.1 h1 z (List.mem_of_getElem? hz)
theorem tbB_of {C : Int} {zss : List (List Int)} (h1 : 1 ≤ C ∧ C ≤ 6) (h2 : 1 ≤ zss.length ∧ zss.length ≤ 8) (h : ∀ z ∈ zss, rowOk C z = true) : tbB C zss = true := by
  simp only [tbB, Bool.and_eq_true, decide_eq_true_eq, List.all_eq_true]
  exact ⟨⟨h1, h2⟩, h⟩
theorem all_drop {α : Type} {p : α → Bool} {xs : List α} {k : Nat} {x : α} (h : xs[k]? = some x) : (xs.drop k).all p = (p x && (xs.drop (k + 1)).all p) := by
  obtain ⟨hk, rfl⟩ := List.getElem?_eq_some_iff.1 h
  rw [List.drop_eq_getElem_cons hk, List.all_cons]
theorem tbB_sum {C : Int} {zss : List (List Int)} (h : tbB C zss = true) : ∀ z ∈ zss, z.length ≤ 6 := fun z hz => by
  obtain ⟨k, hk, rfl⟩ := List.getElem_of_mem hz
  exact good_len (rowOk_good (tbB_row h (List.getElem?_eq_getElem hk)))

end Go.Proofs.YthliamoeplgblaaDoor
