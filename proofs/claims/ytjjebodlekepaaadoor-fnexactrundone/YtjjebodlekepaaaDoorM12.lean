/- Several texts of one proof, in build order: SwP, RdP. -/
import Derived.Test.YtjjebodlekepaaaDoorM4
import Derived.Test.YtjjebodlekepaaaDoorM6

/- Plain: two steps that change places; what is told of steps. -/
namespace Go.Proofs.YtjjebodlekepaaaDoor
open Go.RowKit

def stM (xs : List TStep) (k : Nat) : TStep := xs.getD k (0, 0, 0)
theorem stM_at {xs : List TStep} {k : Nat} {x : TStep} (h : xs[k]? = some x) : stM xs k = x := by
  unfold stM; rw [List.getD_eq_getElem?_getD, h]; rfl
def swB (xs : List TStep) (k : Int) : Bool := gpB xs && (decide (0 ≤ k) && (decide (k < (xs.length : Int) - 1) && (decide ((stM xs k.toNat).1 ≠ (stM xs (k.toNat + 1)).1) && !clB (stM xs k.toNat) (stM xs (k.toNat + 1)))))
def swL (xs : List TStep) (k : Int) : List TStep := if swB xs k then xs.take k.toNat ++ (stM xs (k.toNat + 1) :: stM xs k.toNat :: xs.drop (k.toNat + 2)) else []
theorem swL_len (xs : List TStep) (k : Int) : (swL xs k).length ≤ 40 := by
  unfold swL
  split
  · rename_i h
    simp only [swB, Bool.and_eq_true, decide_eq_true_eq] at h
    have := gp_len h.1
    simp only [List.length_append, List.length_take, List.length_cons, List.length_drop]
    omega
  · simp
theorem swB_bad {xs : List TStep} {k : Int} (h : gpB xs = false) : swB xs k = false := by unfold swB; rw [h]; rfl
theorem swB_low {xs : List TStep} {k : Int} (h : k < 0) : swB xs k = false := by unfold swB; rw [decide_eq_false (by omega)]; simp
theorem swB_high {xs : List TStep} {k : Int} (h : (xs.length : Int) - 1 ≤ k) : swB xs k = false := by unfold swB; rw [decide_eq_false (show ¬ k < (xs.length : Int) - 1 by omega)]; simp
theorem swB_in {xs : List TStep} {p : Nat} {x y : TStep} (h : gpB xs = true) (hx : xs[p]? = some x) (hy : xs[p + 1]? = some y) : swB xs (p : Int) = (decide (x.1 ≠ y.1) && !clB x y) := by
  have := (List.getElem?_eq_some_iff.1 hy).1
  unfold swB
  rw [h, decide_eq_true (show (0 : Int) ≤ (p : Int) by omega), decide_eq_true (show (p : Int) < (xs.length : Int) - 1 by omega), Int.toNat_natCast, stM_at hx, stM_at hy]; rfl
theorem swL_in {xs : List TStep} {p : Nat} {x y : TStep} (h : swB xs (p : Int) = true) (hx : xs[p]? = some x) (hy : xs[p + 1]? = some y) : swL xs (p : Int) = xs.take p ++ (y :: x :: xs.drop (p + 2)) := by
  unfold swL; rw [h, Int.toNat_natCast, stM_at hx, stM_at hy]; rfl
theorem swL_no {xs : List TStep} {k : Int} (h : swB xs k = false) : swL xs k = [] := by unfold swL; rw [h]; rfl
theorem swap_set {xs : List TStep} {p : Nat} {x y : TStep} (hx : xs[p]? = some x) (hy : xs[p + 1]? = some y) : (xs.set p y).set (p + 1) x = xs.take p ++ (y :: x :: xs.drop (p + 2)) := by
  have hp := (List.getElem?_eq_some_iff.1 hx).1
  have hp1 := (List.getElem?_eq_some_iff.1 hy).1
  have e : xs = xs.take p ++ (x :: y :: xs.drop (p + 2)) := by
    conv => lhs; rw [← List.take_append_drop p xs]
    rw [List.drop_eq_getElem_cons hp, List.drop_eq_getElem_cons hp1, (List.getElem?_eq_some_iff.1 hx).2, (List.getElem?_eq_some_iff.1 hy).2]
  obtain ⟨A, hA⟩ : ∃ A, xs.take p = A := ⟨_, rfl⟩
  obtain ⟨B, hB⟩ : ∃ B, xs.drop (p + 2) = B := ⟨_, rfl⟩
  have hl : A.length = p := by rw [← hA, List.length_take]; omega
  rw [hA, hB] at e ⊢
  rw [e, ← hl]
  simp
def StepsRet (e : Ending) (w' : World) (lo : Nat) (ok : Bool) (ta : List TStep) : Prop :=
  ∃ r m d, e = .returned (.tuple #[.slice r m d, .bool ok]) ∧ ta.length = m ∧ w'.ownsRow lo 51 3 (.slice r m d) m ((flStep ta).map (.int .i64))
theorem StepsRet.no {w' : World} {lo : Nat} : StepsRet (.returned (.tuple #[.slice none 0 0, .bool false])) w' lo false [] :=
  ⟨none, 0, 0, rfl, rfl, World.ownsRow_nil _ _ _ _⟩

end Go.Proofs.YtjjebodlekepaaaDoor

/- Plain: the steps of those that have ended; a lock looked up. -/
namespace Go.Proofs.YtjjebodlekepaaaDoor
open Go.RowKit

def ofD (D : List Int) (l : List TStep) : List TStep := l.filter fun x => decide (x.1 ∈ D)
def rdL (k : TLk) : List TStep := if glB k then ofD k.2.2.2.1 k.2.2.1 else []
theorem gl_run {x0 x1 x2 : List TStep} {x3 x4 : List Int} (h : glB (x0, x1, x2, x3, x4) = true) : gpB x2 = true := by
  unfold glB at h
  simp only [Bool.and_eq_true] at h
  exact h.1.1.1.1.1.1.1.2
theorem gl_held {x0 x1 x2 : List TStep} {x3 x4 : List Int} (h : glB (x0, x1, x2, x3, x4) = true) : gpB x0 = true ∧ heldB x0 = true := by
  unfold glB at h
  simp only [Bool.and_eq_true] at h
  exact ⟨h.1.1.1.1.1.1.1.1.1, h.1.1.1.1.1.1.2⟩
theorem gl_waits {x0 x1 x2 : List TStep} {x3 x4 : List Int} (h : glB (x0, x1, x2, x3, x4) = true) : gpB x1 = true := by
  unfold glB at h
  simp only [Bool.and_eq_true] at h
  exact h.1.1.1.1.1.1.1.1.2
theorem rdL_len (k : TLk) : (rdL k).length ≤ 40 := by
  unfold rdL
  split
  · rename_i h
    exact Nat.le_trans (List.length_filter_le _ _) (gp_len (gl_run h))
  · simp
theorem ofD_take {D : List Int} {l : List TStep} {k : Nat} {x : TStep} (h : l[k]? = some x) : ofD D (l.take (k + 1)) = ofD D (l.take k) ++ (if x.1 ∈ D then [x] else []) := by
  obtain ⟨hk, rfl⟩ := List.getElem?_eq_some_iff.1 h
  unfold ofD
  rw [List.take_succ_eq_append_getElem hk, List.filter_append]
  congr 1
  by_cases hm : l[k].1 ∈ D
  · rw [if_pos hm]; simp [hm]
  · rw [if_neg hm]; simp [hm]

end Go.Proofs.YtjjebodlekepaaaDoor
