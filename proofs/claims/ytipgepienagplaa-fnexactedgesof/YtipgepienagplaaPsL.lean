/- A thing that a call has made is appended to a list that lies in memory. -/
import Derived.Test.YtipgepienagplaaRepP
import Derived.Test.YtipgepienagplaaRepN
namespace Go.Proofs.Ytipgepienagplaa
open Go.RowKit

section
variable {α : Type} {A : Rep α} {w wr w2 w5 : World} {lo : Nat} {e : TypeId} {a a' : Option Addr} {n c c' : Nat} {xs : List α} {cells vs : List Value} {G : Nat → Nat → Prop} {x : α} {o : Obj}
theorem Laid.told (h : Laid A wr (From lo wr.heap.size) e a n c xs cells G n) (hlo : lo ≤ wr.heap.size) (hb : Below wr.heap.size wr w2) (ho : A.Own w2 (From wr.heap.size w2.heap.size) vs x)
    (ho4 : w5.ownsRow lo e A.k (.slice a' (n + 1) c') (n + 1) (cells ++ vs)) (hg4 : (w2.alloc o).grownBy w5 (Value.slice a n c).ownBlock) (hbig : n + 1 ≤ 9223372036854775807)
    (ht4 : (Value.slice a' (n + 1) c').ownBlock = (Value.slice a n c).ownBlock ∨ (Value.slice a' (n + 1) c').ownBlock = some (w2.heap.size + 1)) :
    ∃ G', Laid A w5 (From lo w5.heap.size) e a' (n + 1) c' (xs ++ [x]) (cells ++ vs) G' (n + 1) := by
  have z2 := hb.size
  have z5 : w2.heap.size < w5.heap.size := by have h9 := hg4.size; simp at h9; omega
  have BG : ∀ b, b < w2.heap.size → (Value.slice a n c).ownBlock ≠ some b → w5.heap[b]? = w2.heap[b]? := fun b hb hn => (hg4.block b (by simp; omega) (fun e => hn e.symm)).trans (Below.heap_alloc w2 _ b hb)
  exact ⟨_, h.push (fun b h => h.2) hb ho (fun b h => h) BG (owns_mono ho4 (Nat.zero_le _)) (by
      rcases ht4 with h9 | h9
      · exact .inl h9
      · refine .inr (fun b e => ?_)
        rw [h9] at e
        simp at e
        omega) hbig (fun b h => ⟨h.1, by have := h.2; omega⟩) (fun b h => ⟨by have := h.1; omega, by have := h.2; omega⟩) (fun b hb => ho4.lt b hb)⟩
theorem Laid.told_below (h : Laid A wr (From lo wr.heap.size) e a n c xs cells G n) (hw : Below lo w wr) (hlo : lo ≤ wr.heap.size) (hb : Below wr.heap.size wr w2) (hg4 : (w2.alloc o).grownBy w5 (Value.slice a n c).ownBlock) : Below lo w w5 :=
  ((hw.trans (hb.mono hlo)).alloc (by have := hb.size; omega) _).grown hg4 (by have := hb.size; simp; omega) (fun j hj => (h.outerF j hj).1)
theorem Laid.base (h : Laid A wr (From lo wr.heap.size) e a n c xs cells G n) (hb : Below wr.heap.size wr w2) : w2.ownsRow lo e A.k (.slice a n c) n cells :=
  owns_below (owns_base h.outer (fun b hb => (h.outerF b hb).1)) hb
end

end Go.Proofs.Ytipgepienagplaa
