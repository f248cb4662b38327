/- Lists of steps that are cut. -/
import Derived.Test.YtociphdhkjoofaaDoorSrF
namespace Go.Proofs.YtociphdhkjoofaaDoor
open Go.RowKit

theorem flat_take {w : World} {b off : Nat} {zs : List Int} (k : Nat) (h : At w (some ⟨b, off, none⟩) zs) : At w (some ⟨b, off, none⟩) (zs.take k) := by
  rcases h with rfl | ⟨b', off', e, hc⟩
  · exact .inl (by simp)
  · refine .inr ⟨b', off', e, fun i hi => ?_⟩
    have hi' : i < zs.length := by have := List.length_take (i := k) (l := zs); omega
    have hik : i < k := by have := List.length_take (i := k) (l := zs); omega
    rw [hc i hi']
    simp [List.getD, hik]
theorem flat_drop {w : World} {b off : Nat} {zs : List Int} (k : Nat) (h : At w (some ⟨b, off, none⟩) zs) : At w (some ⟨b, off + k, none⟩) (zs.drop k) := by
  rcases h with rfl | ⟨b', off', e, hc⟩
  · exact .inl (by simp)
  · simp only [Option.some.injEq, Addr.mk.injEq, and_true] at e
    obtain ⟨rfl, rfl⟩ := e
    refine .inr ⟨b, off + k, rfl, fun i hi => ?_⟩
    have hi' : k + i < zs.length := by simp at hi; omega
    rw [Nat.add_assoc, hc (k + i) hi']
    simp [List.getD]
theorem flStep_take : ∀ (xs : List TStep) (k : Nat), flStep (xs.take k) = (flStep xs).take (k * 3)
  | [], k => by simp [flatF]
  | x :: xs, 0 => by simp [flatF]
  | x :: xs, k + 1 => by
    have ih := flStep_take xs k
    have e : ∀ l, flStep (x :: l) = x.1 :: x.2.1 :: x.2.2 :: flStep l := fun _ => rfl
    rw [List.take_succ_cons, e, e, ih, show (k + 1) * 3 = k * 3 + 1 + 1 + 1 by omega]
    simp only [List.take_succ_cons]
theorem flStep_drop : ∀ (xs : List TStep) (k : Nat), flStep (xs.drop k) = (flStep xs).drop (k * 3)
  | [], k => by simp [flatF]
  | x :: xs, 0 => by simp
  | x :: xs, k + 1 => by
    have ih := flStep_drop xs k
    have e : ∀ l, flStep (x :: l) = x.1 :: x.2.1 :: x.2.2 :: flStep l := fun _ => rfl
    rw [List.drop_succ_cons, e, ih, show (k + 1) * 3 = k * 3 + 1 + 1 + 1 by omega]
    simp only [List.drop_succ_cons]
theorem own_rowC {w : World} {base g n : Nat} {e : TypeId} {xs : List Value} (h : w.ownsRow base e 1 (.slice (some ⟨g, 0, none⟩) n n) n xs) : w.heap[g]? = some (.cells xs.toArray e (0, 0)) := by
  rcases h.2 with ⟨hv, _⟩ | ⟨g', cap, cur, hv, _, hh, _, _, hs, ht⟩
  · cases hv
  · simp only [Value.slice.injEq, Option.some.injEq, Addr.mk.injEq, true_and, and_true] at hv
    obtain ⟨rfl, rfl⟩ := hv
    rw [hh, ← ht, List.take_of_length_le (by simp [hs])]

end Go.Proofs.YtociphdhkjoofaaDoor
