/- Contracts of impl.plainRows and of the function that it hands back. -/
import Derived.Test.YtmkhdocjabflkabRows1
import Derived.Test.YtmkhdocjabflkabRngS
import Derived.Test.YtmkhdocjabflkabIterP
namespace Go.Proofs.Ytmkhdocjabflkab
open Go.RowKit Go.Shelf

attribute [local go_sem] Oper.semAt_some

/-- A row that is there, once. -/
def plainG (t : WRow) : Option WRow := if 0 < t.2 then some (t.1, 1) else none

/-- What a function that passes rows on holds while it does. -/
structure Passing (n₀ : Nat) (J : Nat → World → Prop) (W : World) (bx : Nat → Nat → Prop) (N : Nat) (g : WRow → Option WRow) (xs : List WRow) (v : Value) (t : TypeId) (k : Nat) (A : World) : Prop where
  told : J (outW g xs k) A
  box : A.heap[W.heap.size]? = some (.cells #[v] t (0, 0))
  low : Apart n₀ W.heap.size W A
  size : N ≤ A.heap.size

theorem Passing.keep {n₀ : Nat} {J : Nat → World → Prop} {W : World} {bx : Nat → Nat → Prop} {N : Nat} {g : WRow → Option WRow} {xs : List WRow} {v : Value} {t : TypeId} {k : Nat} {A B : World} (hJ : ∀ k A B, Below W.heap.size A B → J k A → J k B) (hN : W.heap.size < N)
    (h : Passing n₀ J W bx N g xs v t k A) (hb : Below N A B) : Passing n₀ J W bx N g xs v t k B := by
  have hs := h.size
  refine ⟨hJ _ _ _ (hb.mono (by omega)) h.told, (hb.block _ hN).trans h.box, ?_, Nat.le_trans h.size hb.size⟩
  exact ⟨hb.os.trans h.low.os, hb.tape.trans h.low.tape, hb.output.trans h.low.output, Nat.le_trans h.low.size hb.size, fun j hj hc => (hb.block j (by omega)).trans (h.low.block j hj hc)⟩

end Go.Proofs.Ytmkhdocjabflkab
