/- Contract of spec.l2OwnRow. -/
import Derived.Test.YtecaaekilbdgdaaIntS
import Derived.Test.YtecaaekilbdgdaaGroundM
namespace Go.Proofs.Ytecaaekilbdgdaa
open Go.RowKit

theorem owns_empty (w : World) (e : TypeId) (size : Nat) : (w.alloc (.cells #[] e)).ownsRow w.heap.size e size (.slice (some ⟨w.heap.size, 0, none⟩) 0 0) 0 [] :=
  ⟨by simp, .inr ⟨w.heap.size, 0, #[], rfl, Nat.le_refl _, heap_alloc_new w _, by simp, by simp, by simp, by simp⟩⟩

end Go.Proofs.Ytecaaekilbdgdaa
