/- Contracts of impl.negated and impl.distinctDelta. -/
import Derived.Test.YtlfljfmhhnoinabGreatM19
namespace Go.Proofs.YtlfljfmhhnoinabGreat
open Go.RowKit Go.Maps

theorem look_cnt {w : World} {b cnt : Nat} {D : DataW Unit} {f : List Int → Int} {S : List (List Int)} (ho : w.ownsMap Tryz.prog 62 (plainElem Tryz.prog 3) b cnt D) (hm : MapIs D f S) (x0 x1 x2 x3 x4 x5 : Int) (hf : Fits [x0, x1, x2, x3, x4, x5]) :
    (Instr.lookup 92 (.map (some b)) (.agg #[.int .i64 x0, .int .i64 x1, .int .i64 x2, .int .i64 x3, .int .i64 x4, .int .i64 x5]) false).run Tryz.prog w = .ok (.int .i64 (f [x0, x1, x2, x3, x4, x5])) w := by
  obtain ⟨c, h1, h2, _⟩ := ho.lookup_int Tryz.keyedA Tryz.underlying92 Tryz.underlying3 (Tryz.zeroInt _) (keyOf_arr _ hf)
  rw [← hm.at hf h2]
  exact h1
/-- A map to which one more key is laid. -/
theorem mapIs_set {D : DataW Unit} {h : List Int → Int} {ks : List (List Int)} (hm : MapIs D (fun z => if z ∈ ks then h z else 0) ks) (hD : IsMap D) {x : List Int} (hx : Fits x) {v : Int} (hv : v = h x) :
    MapIs (D.put (klit x) (.lit (.int .i64 v))) (fun z => if z ∈ x :: ks then h z else 0) (x :: ks) :=
  (hm.put hD hx v).congr (fun z => by
    by_cases e : z = x
    · subst e; simp [hv]
    · simp [e]) rfl
theorem wOf_neg (xs : List WRow) (zs : List Int) : wOf (xs.map fun t => (t.1, -1 * t.2)) zs = - wOf xs zs := by
  induction xs with
  | nil => rfl
  | cons t xs ih =>
    rw [List.map_cons, wOf_cons, wOf_cons]
    by_cases e : t.1 = zs
    · simp only [if_pos e]; omega
    · simp only [if_neg e]; exact ih
theorem tells_neg {q : Nat} {f : List Int → Int} {xs : List WRow} (h : Tells q f xs) : Tells q (fun z => - f z) (scaleW xs (-1)) := by
  have e : scaleW xs (-1) = xs.map fun t => (t.1, -1 * t.2) := by unfold scaleW; rw [if_neg (by decide)]
  have hw := wOf_neg xs
  rw [e]
  refine ⟨?_, fun t ht => ?_, fun t ht => ?_, fun zs h1 h2 => by rw [hw, h.weight zs h1 h2]⟩
  · unfold Rises; rw [List.pairwise_map]; exact h.rises
  · obtain ⟨s, hs, rfl⟩ := List.mem_map.1 ht
    have := h.noZero s hs
    show -1 * s.2 ≠ 0
    omega
  · obtain ⟨s, hs, rfl⟩ := List.mem_map.1 ht
    exact h.rows s hs

end Go.Proofs.YtlfljfmhhnoinabGreat
