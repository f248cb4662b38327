/- Opening a slice of slices of ints among the laws' arguments. -/
import Derived.Test.YthliamoeplgblaaDoorOpen
import Derived.Test.YthliamoeplgblaaDoorGroundS
import Derived.Deep.Matrix
namespace Go.Proofs.YthliamoeplgblaaDoor
open Go.ChangeShapes Go.WideShapes Go.ChangeAt Go.RowKit Go.Joins Go.Deep

theorem at_of_row {w : World} {A : Option Addr} {L C : Nat} {Z : List Int} (h1 : L ≤ C) (h2 : Z.length = C) (h3 : A = none → C = 0) (h4 : ∀ a', A = some a' → ∀ c, c < C → w.cell? (a'.add c) = some (.int .i64 (Z.getD c 0))) : At w A (Z.take L) := by
  by_cases h0 : L = 0
  · left; simp [h0]
  · right
    cases A with
    | none => have := h3 rfl; omega
    | some a' =>
      have hc := h4 a' rfl
      obtain ⟨b, off, spot⟩ := a'
      have hc0 := hc 0 (by omega)
      have hspot : spot = none := by simpa [Addr.add] using World.cell?_spot hc0
      subst hspot
      refine ⟨b, off, rfl, fun i hi => ?_⟩
      have hin : i < L := by simp at hi; omega
      have := hc i (by omega)
      rw [show (Z.take L).getD i 0 = Z.getD i 0 by simp [List.getD, hin]]
      rw [Addr.add_lit] at this
      exact this

theorem open_atS {H : Type} {enc : TypeId × Value → H} {P : Program} {w : World} {base : Nat} {held : Bool} {t e q : TypeId} {fuel n c : Nat} {a : Option Addr} {x : DataW H × List MemPlace} (ht : P.underlying t = some (.slice e)) (he : P.underlying e = some (.slice q)) (hq : P.underlying q = some (.int .i64))
    (ce : P.cellsOf e = 1) (cq : P.cellsOf q = 1) (h : DataW.trod enc P w base (fun _ => true) held fuel t [.slice a n c] = some x) : ∃ zss : List (List Int), zss.length = n ∧ n ≤ 9223372036854775807 ∧ AtS w a zss := by
  rcases open_int_rows ht he hq ce cq h with ⟨hcs, _⟩ | ⟨ad, len, cap, A, L, C, Z, hcs, _, hl, hm, _, hrow⟩
  · simp at hcs
    obtain ⟨rfl, rfl, rfl⟩ := hcs
    exact ⟨[], rfl, by omega, .inl rfl⟩
  · simp at hcs
    obtain ⟨rfl, rfl, rfl⟩ := hcs
    unfold maxLen at hm
    refine ⟨(List.range n).map fun r => (Z r).take (L r), by simp, by omega, ?_⟩
    by_cases h0 : n = 0
    · left; simp [h0]
    · right
      obtain ⟨b, off, spot⟩ := ad
      have hc0 := (hrow 0 (by omega)).1
      have hspot : spot = none := by simpa [Addr.add] using World.cell?_spot hc0
      subst hspot
      refine ⟨b, off, rfl, fun i hi => ?_⟩
      have hin : i < n := by simpa using hi
      obtain ⟨k1, k2, k3, k4, _, k5, k6⟩ := hrow i (by omega)
      unfold maxLen at k3
      rw [show ((List.range n).map fun r => (Z r).take (L r)).getD i [] = (Z i).take (L i) by simp [List.getD, hin]]
      have hlen : ((Z i).take (L i)).length = L i := by simp; omega
      rw [hlen]
      rw [Addr.add_lit] at k1
      exact ⟨A i, C i, k1, by omega, at_of_row k2 k4 k5 (fun a' ha' => (k6 a' ha').2)⟩

end Go.Proofs.YthliamoeplgblaaDoor
