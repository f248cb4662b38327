/- Contracts of implied, Implies, and the model's l7Implies, Implies. -/
import Derived.Test.YtpnaoahlfhbbmaaDoorCloC
namespace Go.Proofs.YtpnaoahlfhbbmaaDoor
open Go.RowKit

noncomputable def impV (xs : List Dep) (d : Dep) : Bool := sb (mk d.2) (clo (dms xs) (mk d.1))
def impB (xs : List Dep) (C : Int) (d : Dep) : Bool := goodDeps xs C && goodDep C d
theorem impB_no1 {xs : List Dep} {C : Int} {d : Dep} (h : goodDeps xs C = false) : impB xs C d = false := by unfold impB; rw [h]; rfl
theorem goodDeps_C {xs : List Dep} {C : Int} (h : goodDeps xs C = true) : 1 ≤ C ∧ C ≤ 6 ∧ xs.length ≤ 10 := by
  simp only [goodDeps, Bool.and_eq_true, decide_eq_true_eq] at h
  exact ⟨h.1, h.2.1, h.2.2.1⟩
theorem goodDeps_one' {xs : List Dep} {C : Int} (h : goodDeps xs C = true) (d : Dep) : goodDeps [d] C = goodDep C d := by
  obtain ⟨h1, h2, _⟩ := goodDeps_C h
  rw [goodDeps_one, decide_eq_true h1, decide_eq_true h2]; rfl
theorem impB_two {xs : List Dep} {C : Int} {d : Dep} (h : goodDeps xs C = true) : impB xs C d = goodDep C d := by unfold impB; rw [h]; rfl
theorem goodDep_told {C : Int} {d : Dep} (hC : C ≤ 6) (h : goodDep C d = true) : Told d.1 ∧ Told d.2 := by
  simp only [goodDep, Bool.and_eq_true] at h
  exact ⟨Told.of hC h.1, Told.of hC h.2⟩

end Go.Proofs.YtpnaoahlfhbbmaaDoor
