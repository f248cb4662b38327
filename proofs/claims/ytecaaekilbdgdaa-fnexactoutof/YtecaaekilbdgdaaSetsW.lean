/- Cells of one thing in an owned row, put one by one. -/
import Derived.Test.YtecaaekilbdgdaaSetsV
namespace Go.Proofs.Ytecaaekilbdgdaa
open Go.RowKit

theorem owns_sets_cell {w : World} {e : TypeId} {k g n c : Nat} {cells vs : List Value} {o j : Nat} {v : Value} (h : w.ownsRow 0 e k (.slice (some ⟨g, 0, none⟩) n c) n (sets cells o vs)) (hj : vs[j]? = some v) (hl : o + vs.length ≤ cells.length) : w.cell? ⟨g, o + j, none⟩ = some v := by
  have hv := (List.getElem?_eq_some_iff.1 hj).1
  have hc := h.1
  rw [sets_len] at hc
  rw [h.cellAt (o + j) (by omega), sets_in _ _ _ _ hv hl]
  exact hj
theorem owns_sets_store {w : World} {e : TypeId} {k g n c : Nat} {cells vs : List Value} {o : Nat} (h : w.ownsRow 0 e k (.slice (some ⟨g, 0, none⟩) n c) n (sets cells o vs)) (j : Nat) (v : Value) (hj : j < vs.length) (hl : o + vs.length ≤ cells.length) :
    (w.setCell ⟨g, o + j, none⟩ v).ownsRow 0 e k (.slice (some ⟨g, 0, none⟩) n c) n (sets cells o (vs.set j v)) := by
  have q := (h.stored (o + j) v).1
  rw [sets_set _ _ _ _ _ hj hl] at q
  exact q

end Go.Proofs.Ytecaaekilbdgdaa
