/- Contracts of tellingsOf and goodDepend. -/
import Derived.Test.YthliamoeplgblaaDoorCloT
import Derived.Test.YthliamoeplgblaaDoorDepI
namespace Go.Proofs.YthliamoeplgblaaDoor
open Go.RowKit

def flatT (l : List (Nat × Nat)) : List Value := l.flatMap fun d => [.int .u64 (d.1 : Int), .int .u64 (d.2 : Int)]
theorem flatT_len (l : List (Nat × Nat)) : (flatT l).length = l.length * 2 := by
  induction l with
  | nil => rfl
  | cons x l ih => simp only [flatT, List.flatMap_cons, List.length_append] at ih ⊢; rw [ih]; simp; omega
theorem flatT_push (l : List (Nat × Nat)) (x : Nat × Nat) : flatT (l ++ [x]) = flatT l ++ [.int .u64 (x.1 : Int), .int .u64 (x.2 : Int)] := by simp [flatT]
theorem flatT_at : ∀ (l : List (Nat × Nat)) (i : Nat) (x : Nat × Nat), l[i]? = some x → (flatT l)[i * 2]? = some (.int .u64 (x.1 : Int)) ∧ (flatT l)[i * 2 + 1]? = some (.int .u64 (x.2 : Int))
  | y :: l, 0, x, h => by
    simp at h
    subst h
    simp [flatT]
  | y :: l, i + 1, x, h => by
    have ih := flatT_at l i x (by simpa using h)
    have e : flatT (y :: l) = .int .u64 (y.1 : Int) :: .int .u64 (y.2 : Int) :: flatT l := rfl
    rw [e, show (i + 1) * 2 = i * 2 + 1 + 1 by omega]
    simpa using ih
theorem dms_take {xs : List Dep} {k : Nat} {x : Dep} (h : xs[k]? = some x) : (dms xs).take (k + 1) = (dms xs).take k ++ [dm x] := by
  obtain ⟨hk, rfl⟩ := List.getElem?_eq_some_iff.1 h
  rw [List.take_succ_eq_append_getElem (by simpa [dms] using hk)]
  simp [dms]
/-- Each number of each dependency is a column. -/
def Cols (xs : List Dep) : Prop := ∀ d ∈ xs, (∀ x ∈ d.1, 0 ≤ x ∧ x < 6) ∧ (∀ x ∈ d.2, 0 ≤ x ∧ x < 6)
theorem Cols.of {xs : List Dep} {C : Int} (h : goodDeps xs C = true) : Cols xs := by
  simp only [goodDeps, allDep, goodDep, Bool.and_eq_true, decide_eq_true_eq, List.all_eq_true] at h
  obtain ⟨_, h2, _, h4⟩ := h
  exact fun d hd => ⟨ris_in h2 (h4 d hd).1, ris_in h2 (h4 d hd).2⟩
theorem Cols.sets {xs : List Dep} (h : Cols xs) : Sets (dms xs) := by
  intro d hd
  obtain ⟨e, he, rfl⟩ := List.mem_map.1 hd
  exact ⟨mk_lt6 (h e he).1, mk_lt6 (h e he).2⟩

theorem goodDeps_one (C : Int) (d : Dep) : goodDeps [d] C = (decide (1 ≤ C) && (decide (C ≤ 6) && goodDep C d)) := by
  unfold goodDeps allDep
  simp

end Go.Proofs.YthliamoeplgblaaDoor
