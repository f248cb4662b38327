/- A variable that holds a table: its block, and the rows that the call owns. -/
import Derived.Test.YtpnaoahlfhbbmaaTableP
import Derived.Test.YtpnaoahlfhbbmaaL2Put
namespace Go.Proofs.Ytpnaoahlfhbbmaa
open Go.RowKit

/-- A variable of a table (block T): its columns, and its rows, the call's own from T + 1 on. -/
def TabVar (w : World) (T : Nat) (p : Int) (r : Option Addr) (k d : Nat) (ts : List WRow) (cells : List Value) : Prop :=
  w.heap[T]? = some (.cells #[.int .i64 p, .slice r k d] 36 (0, 0)) ∧ OwnW w (T + 1) w.heap.size 71 3 r k d ts cells

section
variable {w w' : World} {T : Nat} {p : Int} {r : Option Addr} {k d : Nat} {ts : List WRow} {cells : List Value}

theorem TabVar.lt (h : TabVar w T p r k d ts cells) : T < w.heap.size := (Array.getElem?_eq_some_iff.1 h.1).1
theorem TabVar.cell0 (h : TabVar w T p r k d ts cells) : w.cell? ⟨T, 0, none⟩ = some (.int .i64 p) := by rw [cell_of_row w T 0 _ _ (0, 0) h.1]; rfl
theorem TabVar.cell1 (h : TabVar w T p r k d ts cells) : w.cell? ⟨T, 1, none⟩ = some (.slice r k d) := by rw [cell_of_row w T 1 _ _ (0, 0) h.1]; rfl
theorem TabVar.frozen1 (h : TabVar w T p r k d ts cells) : w.frozen? ⟨T, 1, none⟩ = false := frozen_of_row w T 1 _ _ h.1
theorem TabVar.below (h : TabVar w T p r k d ts cells) (hb : Below w.heap.size w w') : TabVar w' T p r k d ts cells :=
  ⟨(hb.block T h.lt).trans h.1, (h.2.below hb).widen (Nat.le_refl _) hb.size (Nat.le_refl _)⟩
theorem TabVar.drew (h : TabVar w T p r k d ts cells) : TabVar w.drew T p r k d ts cells := h.below (Below.refl _ _).drew
theorem TabVar.new (w : World) (p : Int) : TabVar (w.alloc (.cells #[.int .i64 p, .slice none 0 0] 36)) w.heap.size p none 0 0 [] [] :=
  ⟨heap_alloc_new w _, OwnWk.start rfl (Nat.le_refl _) (World.ownsRow_nil _ _ _ _) (fun b hb => by cases hb)⟩
theorem TabVar.own (h : TabVar w T p r k d ts cells) : w.ownsRow (T + 1) 71 2 (.slice r k d) k cells := h.2.outer

theorem TabVar.pushed {w2 w4 : World} {a' : Option Addr} {m c' g cap : Nat} {zs : List Int} {x : Int} {o : Obj} (h : TabVar w T p r k d ts cells) (hb : Below w.heap.size w w2)
    (hm : zs.length = m) (hrow : w2.ownsRow w.heap.size 3 1 (.slice a' m c') m (zs.map (.int .i64)))
    (hown : w4.ownsRow (T + 1) 71 2 (.slice (some ⟨g, 0, none⟩) (k + 1) cap) (k + 1) (cells ++ [.slice a' m c', .int .i64 x])) (hgr : (w2.alloc o).grownBy w4 (Value.slice r k d).ownBlock)
    (hat : (Value.slice r k d).ownBlock = some g ∨ g = w2.heap.size + 1) (hlt : g < w4.heap.size) :
    w4.cell? ⟨T, 1, none⟩ = some (.slice r k d) ∧ w4.frozen? ⟨T, 1, none⟩ = false ∧ TabVar (w4.setCell ⟨T, 1, none⟩ (.slice (some ⟨g, 0, none⟩) (k + 1) cap)) T p (some ⟨g, 0, none⟩) (k + 1) cap (ts ++ [(zs, x)]) (cells ++ [.slice a' m c', .int .i64 x]) := by
  have hT := h.lt
  have h2 := hb.size
  have hne : some T ≠ (Value.slice r k d).ownBlock := fun e => by have := (h.own.lt T e.symm).1; omega
  have hR : w4.heap[T]? = some (.cells #[.int .i64 p, .slice r k d] 36 (0, 0)) := by
    rw [hgr.block T (by simp; omega) hne, Below.heap_alloc w2 o T (by omega), hb.block T hT]
    exact h.1
  refine ⟨by rw [cell_of_row w4 T 1 _ _ (0, 0) hR]; rfl, frozen_of_row w4 T 1 _ _ hR, ?_, ?_⟩
  · rw [heap_setCell_same w4 T 1 _ _ _ hR]; rfl
  · have hp := h.2.pushed (by omega) hb hm hrow hown hgr hat hlt
    exact (hp.setCell (a0 := ⟨T, 1, none⟩) (.inl (by show T < T + 1; omega)) _).widen (Nat.le_refl _) (by simp [World.setCell]) (Nat.le_refl _)

theorem TabVar.pushed_below {w2 w4 : World} {o : Obj} {B : Nat} {W : World} {v : Value} (h : TabVar w T p r k d ts cells) (hb : Below w.heap.size w w2)
    (hgr : (w2.alloc o).grownBy w4 (Value.slice r k d).ownBlock) (hB : Below B W w) (hBT : B ≤ T) : Below B W (w4.setCell ⟨T, 1, none⟩ v) := by
  have hT := h.lt
  have h2 := hb.size
  exact (((hB.trans (hb.mono (by omega))).alloc (by omega) o).grown hgr (by simp; omega) (fun j hj => by have := (h.own.lt j hj).1; omega)).setCell hBT _
end

/-- What a function that tells a table hands back. -/
def TabRet (e : Ending) (w' : World) (lo : Nat) (ok : Bool) (p : Int) (ts : List WRow) : Prop :=
  ∃ r m d cells, e = .returned (.tuple #[.agg #[.int .i64 p, .slice r m d], .bool ok]) ∧ OwnW w' lo w'.heap.size 71 3 r m d ts cells

/-- The columns and the rows that are told, nothing where they are no good table. -/
def tellP (p : Int) (ts : List WRow) : Int := if goodT p ts then p else 0
def tellT (p : Int) (ts : List WRow) : List WRow := if goodT p ts then ts else []

end Go.Proofs.Ytpnaoahlfhbbmaa
