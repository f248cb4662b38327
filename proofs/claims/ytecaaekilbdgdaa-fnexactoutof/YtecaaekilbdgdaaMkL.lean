/- Plain: things as the laws mark them, one behind the other, whatever they are. -/
import Derived.Test.YtecaaekilbdgdaaRepN
namespace Go.Proofs.Ytecaaekilbdgdaa
open Go.RowKit

section
variable {α : Type} (f : Int → α → α) (sz : α → Nat)
def mkL : Int → List α → List α
  | _, [] => []
  | m, x :: xs => f m x :: mkL (m + sz x) xs
def szL (xs : List α) (k : Nat) : Nat := ((xs.take k).map sz).sum
theorem mkL_length : ∀ (m : Int) (xs : List α), (mkL f sz m xs).length = xs.length
  | _, [] => rfl
  | m, x :: xs => by simp [mkL, mkL_length]
theorem szL_succ {xs : List α} {k : Nat} {x : α} (h : xs[k]? = some x) : szL sz xs (k + 1) = szL sz xs k + sz x := by
  have hk := (List.getElem?_eq_some_iff.1 h).1
  unfold szL
  rw [List.take_succ_eq_append_getElem hk, List.map_append, List.sum_append, (List.getElem?_eq_some_iff.1 h).2]
  simp
theorem mkL_at : ∀ (m : Int) (xs : List α) (k : Nat) (x : α), xs[k]? = some x → (mkL f sz m xs)[k]? = some (f (m + szL sz xs k) x)
  | m, y :: xs, 0, x, h => by
    simp at h
    subst h
    simp [mkL, szL]
  | m, y :: xs, k + 1, x, h => by
    have ih := mkL_at (m + sz y) xs k x (by simpa using h)
    have e : szL sz (y :: xs) (k + 1) = sz y + szL sz xs k := by simp [szL]
    rw [e]
    simp only [mkL, List.getElem?_cons_succ, ih]
    congr 2
    omega
/-- The first k are marked. -/
def mkTo (m : Int) (xs : List α) (k : Nat) : List α := (mkL f sz m xs).take k ++ xs.drop k
theorem mkTo_zero (m : Int) (xs : List α) : mkTo f sz m xs 0 = xs := by simp [mkTo]
theorem mkTo_all (m : Int) (xs : List α) {n : Nat} (h : xs.length = n) : mkTo f sz m xs n = mkL f sz m xs := by
  unfold mkTo
  rw [List.take_of_length_le (by rw [mkL_length]; omega), List.drop_of_length_le (by omega), List.append_nil]
theorem mkTo_next {m : Int} {xs : List α} {k : Nat} {x : α} (h : xs[k]? = some x) : (mkTo f sz m xs k)[k]? = some x := by
  have hk := (List.getElem?_eq_some_iff.1 h).1
  unfold mkTo
  have hl : ((mkL f sz m xs).take k).length = k := by rw [List.length_take, mkL_length]; omega
  rw [List.getElem?_append_right (by omega), hl, Nat.sub_self]
  simpa using h
theorem mkTo_set {m : Int} {xs : List α} {k : Nat} {x : α} (h : xs[k]? = some x) : (mkTo f sz m xs k).set k (f (m + szL sz xs k) x) = mkTo f sz m xs (k + 1) := by
  have hk := (List.getElem?_eq_some_iff.1 h).1
  have hm := mkL_at f sz m xs k x h
  have hl : ((mkL f sz m xs).take k).length = k := by rw [List.length_take, mkL_length]; omega
  unfold mkTo
  rw [List.set_append_right _ _ (by omega), hl, Nat.sub_self, List.drop_eq_getElem_cons hk, List.set_cons_zero]
  obtain ⟨hk2, hm2⟩ := List.getElem?_eq_some_iff.1 hm
  rw [List.take_succ_eq_append_getElem hk2, hm2, List.append_assoc]
  rfl
theorem mkTo_length (m : Int) (xs : List α) (k : Nat) : (mkTo f sz m xs k).length = xs.length := by
  unfold mkTo
  rw [List.length_append, List.length_take, List.length_drop, mkL_length]
  omega
end

def mkInts (m : Int) (zs : List Int) : List Int := marks m zs.length
def mkPairs (m : Int) (ps : List (List Int)) : List (List Int) := mkL (fun m zs => mkInts m zs) List.length m ps
theorem szL_pairs (ps : List (List Int)) (k : Nat) : szL List.length ps k = tot ps k := rfl
theorem marks_succ (m : Int) (n : Nat) : marks m (n + 1) = m :: marks (m + 1) n := by
  unfold marks
  rw [List.range_succ_eq_map, List.map_cons, List.map_map]
  simp only [List.cons.injEq]
  refine ⟨by simp, ?_⟩
  apply List.map_congr_left
  intro i _
  simp only [Function.comp]
  push_cast
  omega
theorem szL_mono {α : Type} (sz : α → Nat) (xs : List α) (j k : Nat) (h : j ≤ k) : szL sz xs j ≤ szL sz xs k := by
  obtain ⟨d, rfl⟩ := Nat.le.dest h
  induction d with
  | zero => exact Nat.le_refl _
  | succ d ih =>
    by_cases hk : j + d < xs.length
    · rw [show j + (d + 1) = (j + d) + 1 from rfl, szL_succ sz (List.getElem?_eq_getElem hk)]; have := ih (by omega); omega
    · have e1 : szL sz xs (j + (d + 1)) = szL sz xs (j + d) := by unfold szL; rw [List.take_of_length_le (by omega), List.take_of_length_le (by omega)]
      rw [e1]; exact ih (by omega)

end Go.Proofs.Ytecaaekilbdgdaa
