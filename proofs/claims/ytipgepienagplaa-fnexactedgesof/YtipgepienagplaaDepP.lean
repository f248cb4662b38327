/- Plain: rising lists of columns, and dependencies that are good. -/
import Derived.Test.YtipgepienagplaaDepG
namespace Go.Proofs.Ytipgepienagplaa
open Go.RowKit

/-- Rising behind p, and below c. -/
def risB (c : Int) : Int → List Int → Bool
  | _, [] => true
  | p, z :: zs => decide (p < z) && (decide (z < c) && risB c z zs)
def ris (c : Int) (l : List Int) : Bool := risB c (-1) l
theorem risB_done (c p : Int) (zs : List Int) (n : Nat) (h : zs.length = n) : risB c p (zs.drop n) = true := by
  rw [List.drop_of_length_le (by omega)]; rfl
theorem risB_step (c p : Int) (zs : List Int) (k : Nat) (h : k < zs.length) : risB c p (zs.drop k) = (decide (p < zs.getD k 0) && (decide (zs.getD k 0 < c) && risB c (zs.getD k 0) (zs.drop (k + 1)))) := by
  rw [List.drop_eq_getElem_cons h]
  have e : zs.getD k 0 = zs[k] := by simp [List.getD, h]
  rw [e]
  rfl
def goodDep (c : Int) (d : Dep) : Bool := ris c d.1 && ris c d.2
def allDep (c : Int) (l : List Dep) : Bool := l.all (goodDep c)
def goodDeps (l : List Dep) (c : Int) : Bool := decide (1 ≤ c) && (decide (c ≤ 6) && (decide (l.length ≤ 10) && allDep c l))
theorem allDep_done (c : Int) (xs : List Dep) (n : Nat) (h : xs.length = n) : allDep c (xs.drop n) = true := by
  rw [List.drop_of_length_le (by omega)]; rfl
theorem allDep_step (c : Int) {xs : List Dep} {k : Nat} {x : Dep} (h : xs[k]? = some x) : allDep c (xs.drop k) = (ris c x.1 && (ris c x.2 && allDep c (xs.drop (k + 1)))) := by
  obtain ⟨hk, rfl⟩ := List.getElem?_eq_some_iff.1 h
  rw [List.drop_eq_getElem_cons hk]
  show (ris c xs[k].1 && ris c xs[k].2 && allDep c _) = _
  rw [Bool.and_assoc]

end Go.Proofs.Ytipgepienagplaa
