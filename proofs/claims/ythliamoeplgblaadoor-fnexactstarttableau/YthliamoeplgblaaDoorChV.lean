/- A tableau that is made row by row: its variable, and its rows. -/
import Derived.Test.YthliamoeplgblaaDoorTbM
import Derived.Test.YthliamoeplgblaaDoorStepW
namespace Go.Proofs.YthliamoeplgblaaDoor
open Go.RowKit

structure TbVar (w : World) (P lo : Nat) (p : Int) (r : Option Addr) (k d : Nat) (zss : List (List Int)) (cells : List Value) (G : Nat → Nat → Prop) : Prop where
  blk : w.heap[P]? = some (.cells #[.int .i64 p, .slice r k d] 26 (0, 0))
  laid : Laid RInts w (From lo w.heap.size) 47 r k d zss cells G k
  lt : P < lo

section
variable {w w4 w6 : World} {P lo : Nat} {p : Int} {r r3 r4 : Option Addr} {k d m3 d3 d4 : Nat} {zss : List (List Int)} {cells : List Value} {G : Nat → Nat → Prop} {z : List Int}

theorem TbVar.owns (h : TbVar w P lo p r k d zss cells G) : w.ownsRow lo 47 1 (.slice r k d) k cells := owns_base h.laid.outer (fun b hb => (h.laid.outerF b hb).1)
theorem TbVar.size (h : TbVar w P lo p r k d zss cells G) : P < w.heap.size := (Array.getElem?_eq_some_iff.1 h.blk).1
theorem TbVar.below (h : TbVar w P lo p r k d zss cells G) (hb : Below w.heap.size w w4) : TbVar w4 P lo p r k d zss cells G :=
  ⟨(hb.block P h.size).trans h.blk, (h.laid.below hb).mono (fun _ hb' => ⟨hb'.1, Nat.lt_of_lt_of_le hb'.2 hb.size⟩), h.lt⟩
theorem TbVar.cell0 (h : TbVar w P lo p r k d zss cells G) : w.cell? ⟨P, 0, none⟩ = some (.int .i64 p) := by rw [cell_of_row _ _ 0 _ _ (0, 0) h.blk]; rfl
theorem TbVar.cell1 (h : TbVar w P lo p r k d zss cells G) : w.cell? ⟨P, 1, none⟩ = some (.slice r k d) := by rw [cell_of_row _ _ 1 _ _ (0, 0) h.blk]; rfl
theorem TbVar.frozen1 (h : TbVar w P lo p r k d zss cells G) : w.frozen? ⟨P, 1, none⟩ = false := frozen_of_row _ _ 1 _ _ h.blk

theorem TbVar.new (w : World) (p : Int) : TbVar (w.alloc (.cells #[.int .i64 p, .slice none 0 0] 26)) w.heap.size (w.heap.size + 1) p none 0 0 [] [] (fun _ _ => False) :=
  ⟨heap_alloc_new _ _, Laid.none _ _ _ _, Nat.lt_succ_self _⟩

/-- One row more: made behind w, appended, and the variable written. -/
theorem TbVar.pushed (h : TbVar w P lo p r k d zss cells G) (hlo : lo ≤ w.heap.size) (hb : Below w.heap.size w w4) (ho : RInts.Own w4 (From w.heap.size w4.heap.size) [.slice r3 m3 d3] z)
    (ho4 : w6.ownsRow lo 47 1 (.slice r4 (k + 1) d4) (k + 1) (cells ++ [.slice r3 m3 d3])) (hg4 : (w4.alloc (.cells #[.slice r3 m3 d3] 47)).grownBy w6 (Value.slice r k d).ownBlock)
    (ht4 : (Value.slice r4 (k + 1) d4).ownBlock = (Value.slice r k d).ownBlock ∨ (Value.slice r4 (k + 1) d4).ownBlock = some (w4.alloc (.cells #[.slice r3 m3 d3] 47)).heap.size) (hk : k ≤ 1048576) :
    ∃ G', TbVar (w6.setCell ⟨P, 1, none⟩ (.slice r4 (k + 1) d4)) P lo p r4 (k + 1) d4 (zss ++ [z]) (cells ++ [.slice r3 m3 d3]) G' := by
  have zb := hb.size
  have z5 : w4.heap.size < w6.heap.size := by have h9 := hg4.size; simp at h9; omega
  have BG : ∀ b, b < w4.heap.size → (Value.slice r k d).ownBlock ≠ some b → w6.heap[b]? = w4.heap[b]? := fun b hb hn => (hg4.block b (by simp; omega) (fun e => hn e.symm)).trans (Below.heap_alloc w4 _ b hb)
  have hpush := h.laid.push (F' := From lo w6.heap.size) (fun b h => h.2) hb ho (fun b h => h) BG (owns_mono ho4 (Nat.zero_le _)) (by
    rcases ht4 with h9 | h9
    · exact .inl h9
    · refine .inr (fun b e => ?_)
      rw [h9] at e
      simp at e
      omega) (by omega) (fun b h => ⟨h.1, by have := h.2; omega⟩) (fun b h => ⟨by have := h.1; omega, by have := h.2; omega⟩) (fun b h => ho4.lt b h)
  have hP : (Value.slice r k d).ownBlock ≠ some P := fun e => by have := (h.laid.outerF P e).1; have := h.lt; omega
  have hPs := h.size
  have hf := hpush.frame (w' := w6.setCell ⟨P, 1, none⟩ (.slice r4 (k + 1) d4)) (fun b hb' _ => Below.heap_setCell _ _ _ _ (by have h1 := hb'.1; have h2 := h.lt; show b ≠ P; omega))
  exact ⟨_, blk_set ((BG P (by omega) hP).trans ((hb.block P hPs).trans h.blk)) 1 _, hf.mono (fun b hb' => ⟨hb'.1, by have := hb'.2; simpa [World.setCell] using this⟩), h.lt⟩

theorem TbVar.at6 (h : TbVar w P lo p r k d zss cells G) (hb : Below w.heap.size w w4) (hg4 : (w4.alloc (.cells #[.slice r3 m3 d3] 47)).grownBy w6 (Value.slice r k d).ownBlock) :
    w6.cell? ⟨P, 1, none⟩ = some (.slice r k d) ∧ w6.frozen? ⟨P, 1, none⟩ = false := by
  have hP : (Value.slice r k d).ownBlock ≠ some P := fun e => by have := (h.laid.outerF P e).1; have := h.lt; omega
  have hPs := h.size
  have zb := hb.size
  have hblk : w6.heap[P]? = some (.cells #[.int .i64 p, .slice r k d] 26 (0, 0)) := (hg4.block P (by simp; omega) (fun e => hP e.symm)).trans ((Below.heap_alloc w4 _ P (by omega)).trans ((hb.block P hPs).trans h.blk))
  exact ⟨by rw [cell_of_row _ _ 1 _ _ (0, 0) hblk]; rfl, frozen_of_row _ _ 1 _ _ hblk⟩

/-- The same, told of the world. -/
theorem TbVar.pushed_below {B : Nat} {W : World} (h : TbVar w P lo p r k d zss cells G) (hB : B ≤ P) (hlo : lo ≤ w.heap.size) (hW : Below B W w) (hb : Below w.heap.size w w4)
    (hg4 : (w4.alloc (.cells #[.slice r3 m3 d3] 47)).grownBy w6 (Value.slice r k d).ownBlock) (v : Value) : Below B W (w6.setCell ⟨P, 1, none⟩ v) := by
  have hP := h.lt
  have hs := h.size
  have zb := hb.size
  refine Below.setCell (((hW.trans (hb.mono (by omega))).alloc (by omega) _).grown hg4 (by simp; omega) (fun j hj => ?_)) hB _
  have := (h.laid.outerF j hj).1
  omega

/-- What is read off at last. -/
theorem TbVar.own (h : TbVar w P lo p r k d zss cells G) : RRows.Own w (From lo w.heap.size) [.slice r k d] zss := ⟨_, _, _, cells, G, rfl, h.laid⟩
end

end Go.Proofs.YthliamoeplgblaaDoor
