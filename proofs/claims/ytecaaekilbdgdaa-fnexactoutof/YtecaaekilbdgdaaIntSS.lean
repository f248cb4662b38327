/- Contracts of the laws' helpers over slices of slices of ints: szIntSS, toIntSS, eqIntSS, markIntSS. -/
import Derived.Test.YtecaaekilbdgdaaIntS
import Derived.Test.YtecaaekilbdgdaaGroundS
namespace Go.Proofs.Ytecaaekilbdgdaa
open Go.RowKit

theorem Try.infoInts : (Try.prog.info? 22).map (fun i => (i.zero, i.size, i.bytes)) = some (some (.slice none 0 0), 1, 24) := by kernel_rfl

theorem rows_store {w : World} {e : TypeId} {vs : List Value} {zss : List (List Int)} {k : Nat} {L : Nat → Nat} (h : RowsOwned w e vs zss k L) (hL : ∀ i, i < k → L 0 ≤ L i) {g j : Nat} (hg : g < L 0) (v : Value) (hj : k ≤ j) :
    RowsOwned (w.setCell ⟨g, j, none⟩ v) e (vs.set j v) zss k L := fun i hi => by
  obtain ⟨a, c, h1, h2, h3⟩ := h i hi
  refine ⟨a, c, ?_, ownsRow_setCell_below h2 (by have := hL i hi; simp; omega) _, h3⟩
  rw [List.getElem?_set_ne (by omega)]; exact h1

theorem listNe_getD {zss zss' : List (List Int)} {k : Nat} (h : zss.getD k [] ≠ zss'.getD k []) : zss ≠ zss' := fun e => h (by rw [e])
theorem takeS_succ (zss : List (List Int)) (k : Nat) (h : k < zss.length) : zss.take (k + 1) = zss.take k ++ [zss.getD k []] := by
  rw [List.take_succ_eq_append_getElem h]; simp [List.getD, h]

theorem tot_each (zss : List (List Int)) (n : Nat) (hn : zss.length = n) (i : Nat) (hi : i < zss.length) : (zss.getD i []).length ≤ tot zss n := by
  have h1 := tot_succ zss i hi
  have h2 := tot_mono zss (i + 1) n (by omega)
  omega

end Go.Proofs.Ytecaaekilbdgdaa
