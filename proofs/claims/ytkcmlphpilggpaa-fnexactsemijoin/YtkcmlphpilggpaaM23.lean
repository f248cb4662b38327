/- Several texts of one proof, in build order: Open, OpenS, OpenT. -/
import Derived.Test.YtkcmlphpilggpaaM1
import Derived.ProofKit
import Derived.OpenShut
import Derived.ShutString
import Derived.ChangeOld
import Derived.Lib.SmallJoins
import Derived.Deep.Matrix
import Derived.Deep.SlicePairs

/- Opening the laws' arguments: rows, slices of ints; plain facts on readings. -/
namespace Go.Proofs.Ytkcmlphpilggpaa
open Go.ChangeShapes Go.WideShapes Go.ChangeAt Go.RowKit Go.Joins Go.Deep

section
variable {H : Type} {enc : TypeId × Value → H} {P : Program} {w : World} {base : Nat} {spare : Nat → Bool} {held : Bool}

theorem array1 {α : Type} {cs : Array α} (h : cs.size = 1) : ∃ c0, cs = #[c0] := by
  obtain ⟨l⟩ := cs
  match l, h with
  | [c0], _ => exact ⟨c0, rfl⟩

theorem open_agg1 {r : Reach} {b0 : Nat} {t : TypeId} {f0 : Field} {v : Value} {d : DataW H} {p : List MemPlace} (hs : P.underlying t = some (.struct #[f0])) (hone : oneCellFields P #[f0] = true) (hC : P.cellsOf t = 1)
    (hv : Value.okWide P w r b0 t v) (h : DataW.Trod enc P w base spare held t v d p) :
    ∃ (v0 : Value) (y0 : DataW H × List MemPlace) (n : Nat), v = .agg #[v0] ∧ d = .agg [y0.1] ∧ p = y0.2 ∧ DataW.trod enc P w base spare held n f0.type [v0] = some y0 := by
  obtain ⟨cs, rfl, hsz⟩ := okWide_struct hs hv
  obtain ⟨c0, rfl⟩ := array1 (hsz.trans hC)
  obtain ⟨fuel, hf⟩ := h
  obtain ⟨y0, n, hx, _, h0⟩ := trod_struct1 hs hf
  obtain ⟨o0, k0⟩ := hone_of hone 0 f0 rfl
  simp only [Prod.mk.injEq] at hx
  exact ⟨c0, y0, n, rfl, hx.1, hx.2, by simpa [Value.cells, o0, k0] using h0⟩

/-- A slice of ints that reads: its numbers. -/
theorem open_at {t e : TypeId} {fuel n c : Nat} {a : Option Addr} {x : DataW H × List MemPlace} (ht : P.underlying t = some (.slice e)) (he : P.underlying e = some (.int .i64)) (hC : P.cellsOf e = 1)
    (h : DataW.trod enc P w base spare held fuel t [.slice a n c] = some x) : ∃ zs : List Int, zs.length = n ∧ n ≤ 9223372036854775807 ∧ At w a zs := by
  rcases open_ints ht he hC h with ⟨hcs, _⟩ | ⟨ad, l, c', zs, hcs, _, hl, hm, hz, _, hcell, _⟩
  · simp at hcs
    obtain ⟨rfl, rfl, rfl⟩ := hcs
    exact ⟨[], rfl, by omega, At.nil _ _⟩
  · simp at hcs
    obtain ⟨rfl, rfl, rfl⟩ := hcs
    unfold maxLen at hm
    have hz' : n ≤ zs.length := by split at hz <;> omega
    refine ⟨zs.take n, by simp; omega, by omega, ?_⟩
    by_cases h0 : n = 0
    · left; simp [h0]
    · right
      obtain ⟨b, off, spot⟩ := ad
      have hc := hcell 0 (by omega)
      have hspot : spot = none := by simpa [Addr.add] using World.cell?_spot hc
      subst hspot
      refine ⟨b, off, rfl, fun i hi => ?_⟩
      have hin : i < n := by simp at hi; omega
      have := hcell i (by omega)
      rw [show (zs.take n).getD i 0 = zs.getD i 0 by simp [List.getD, hin]]
      rw [Addr.add_lit] at this
      exact this

/-- A struct of one slice of ints, by value. -/
theorem open_row {r : Reach} {b0 : Nat} {t ts e : TypeId} {f0 : Field} {v : Value} {d : DataW H} {p : List MemPlace} (hs : P.underlying t = some (.struct #[f0])) (hf0 : f0.type = ts) (hone : oneCellFields P #[f0] = true) (hC : P.cellsOf t = 1)
    (ht : P.underlying ts = some (.slice e)) (he : P.underlying e = some (.int .i64)) (hCe : P.cellsOf e = 1)
    (hv : Value.okWide P w r b0 t v) (h : DataW.Trod enc P w base spare held t v d p) : ∃ a n c, v = .agg #[.slice a n c] ∧ ∃ zs : List Int, zs.length = n ∧ n ≤ 9223372036854775807 ∧ At w a zs := by
  obtain ⟨v0, y0, m, rfl, _, _, h0⟩ := open_agg1 hs hone hC hv h
  subst hf0
  obtain ⟨a, n, c, hcs⟩ := slice_form ht h0
  obtain rfl : v0 = .slice a n c := by simpa using hcs
  exact ⟨a, n, c, rfl, open_at ht he hCe h0⟩
end

end Go.Proofs.Ytkcmlphpilggpaa

/- Opening a slice of slices of ints among the laws' arguments. -/
namespace Go.Proofs.Ytkcmlphpilggpaa
open Go.ChangeShapes Go.WideShapes Go.ChangeAt Go.RowKit Go.Joins Go.Deep

theorem at_of_row {w : World} {A : Option Addr} {L C : Nat} {Z : List Int} (h1 : L ≤ C) (h2 : Z.length = C) (h3 : A = none → C = 0) (h4 : ∀ a', A = some a' → ∀ c, c < C → w.cell? (a'.add c) = some (.int .i64 (Z.getD c 0))) : At w A (Z.take L) := by
  by_cases h0 : L = 0
  · left; simp [h0]
  · right
    cases A with
    | none => have := h3 rfl; omega
    | some a' =>
      have hc := h4 a' rfl
      obtain ⟨b, off, spot⟩ := a'
      have hc0 := hc 0 (by omega)
      have hspot : spot = none := by simpa [Addr.add] using World.cell?_spot hc0
      subst hspot
      refine ⟨b, off, rfl, fun i hi => ?_⟩
      have hin : i < L := by simp at hi; omega
      have := hc i (by omega)
      rw [show (Z.take L).getD i 0 = Z.getD i 0 by simp [List.getD, hin]]
      rw [Addr.add_lit] at this
      exact this

theorem open_atS {H : Type} {enc : TypeId × Value → H} {P : Program} {w : World} {base : Nat} {held : Bool} {t e q : TypeId} {fuel n c : Nat} {a : Option Addr} {x : DataW H × List MemPlace} (ht : P.underlying t = some (.slice e)) (he : P.underlying e = some (.slice q)) (hq : P.underlying q = some (.int .i64))
    (ce : P.cellsOf e = 1) (cq : P.cellsOf q = 1) (h : DataW.trod enc P w base (fun _ => true) held fuel t [.slice a n c] = some x) : ∃ zss : List (List Int), zss.length = n ∧ n ≤ 9223372036854775807 ∧ AtS w a zss := by
  rcases open_int_rows ht he hq ce cq h with ⟨hcs, _⟩ | ⟨ad, len, cap, A, L, C, Z, hcs, _, hl, hm, _, hrow⟩
  · simp at hcs
    obtain ⟨rfl, rfl, rfl⟩ := hcs
    exact ⟨[], rfl, by omega, .inl rfl⟩
  · simp at hcs
    obtain ⟨rfl, rfl, rfl⟩ := hcs
    unfold maxLen at hm
    refine ⟨(List.range n).map fun r => (Z r).take (L r), by simp, by omega, ?_⟩
    by_cases h0 : n = 0
    · left; simp [h0]
    · right
      obtain ⟨b, off, spot⟩ := ad
      have hc0 := (hrow 0 (by omega)).1
      have hspot : spot = none := by simpa [Addr.add] using World.cell?_spot hc0
      subst hspot
      refine ⟨b, off, rfl, fun i hi => ?_⟩
      have hin : i < n := by simpa using hi
      obtain ⟨k1, k2, k3, k4, _, k5, k6⟩ := hrow i (by omega)
      unfold maxLen at k3
      rw [show ((List.range n).map fun r => (Z r).take (L r)).getD i [] = (Z i).take (L i) by simp [List.getD, hin]]
      have hlen : ((Z i).take (L i)).length = L i := by simp; omega
      rw [hlen]
      rw [Addr.add_lit] at k1
      exact ⟨A i, C i, k1, by omega, at_of_row k2 k4 k5 (fun a' ha' => (k6 a' ha').2)⟩

end Go.Proofs.Ytkcmlphpilggpaa

/- Opening tables and slices of weighted rows among the laws' arguments. -/
namespace Go.Proofs.Ytkcmlphpilggpaa
open Go.ChangeShapes Go.WideShapes Go.ChangeAt Go.RowKit Go.Joins Go.Deep

section
variable {H : Type} {enc : TypeId × Value → H} {P : Program} {w : World} {base : Nat} {held : Bool}

theorem open_atW {t e q : TypeId} {f0 f1 g0 : Field} {fuel n c : Nat} {a : Option Addr} {x : DataW H × List MemPlace} (ht : P.underlying t = some (.slice e)) (he : P.underlying e = some (.struct #[f0, f1]))
    (ce : P.cellsOf e = 2) (o0 : f0.offset = 0) (o1 : f1.offset = 1) (c0 : P.cellsOf f0.type = 1) (c1 : P.cellsOf f1.type = 1) (hr : P.underlying f0.type = some (.struct #[g0])) (og : g0.offset = 0) (cg : P.cellsOf g0.type = 1)
    (hs : P.underlying g0.type = some (.slice q)) (hq : P.underlying q = some (.int .i64)) (cq : P.cellsOf q = 1) (hi : P.underlying f1.type = some (.int .i64))
    (h : DataW.trod enc P w base (fun _ => true) held fuel t [.slice a n c] = some x) : ∃ ts : List WRow, ts.length = n ∧ n ≤ 9223372036854775807 ∧ AtW w a ts := by
  rcases open_slice_pairs ht he ce o0 o1 c0 c1 h with ⟨hcs, _⟩ | ⟨ad, len, cap, m, k, V0, V1, D0, D1, P0, P1, hcs, _, hl, hm, hmm, _, hx⟩
  · simp at hcs
    obtain ⟨rfl, rfl, rfl⟩ := hcs
    exact ⟨[], rfl, by omega, .inl rfl⟩
  · simp at hcs
    obtain ⟨rfl, rfl, rfl⟩ := hcs
    simp only [if_true] at hmm
    subst hmm
    unfold maxLen at hm
    have each : ∀ i, i < n → ∃ y : Option Addr × Nat × List Int × Int, V0 i = .slice y.1 y.2.2.1.length y.2.1 ∧ V1 i = .int .i64 y.2.2.2 ∧ y.2.2.1.length ≤ 9223372036854775807 ∧ At w y.1 y.2.2.1 := by
      intro i hi'
      obtain ⟨_, _, r0, r1⟩ := hx i (by omega)
      obtain ⟨z, hz1, _, _⟩ := DataW.trod_int hi r1
      obtain ⟨y0, k', _, _, s0⟩ := trod_struct1 hr r0
      rw [og, cg] at s0
      simp only [List.drop_zero, List.take_succ_cons, List.take_zero] at s0
      obtain ⟨a', n', c', hc'⟩ := slice_form hs s0
      simp only [List.cons.injEq, and_true] at hc'
      rw [hc'] at s0
      obtain ⟨zs, hzl, hzn, hat⟩ := open_at hs hq cq s0
      exact ⟨(a', c', zs, z), by rw [hc', hzl], by simpa using hz1, by rw [hzl]; exact hzn, hat⟩
    obtain ⟨y, hy⟩ := choose_lt each
    refine ⟨(List.range n).map fun i => ((y i).2.2.1, (y i).2.2.2), by simp, by omega, ?_⟩
    by_cases h0 : n = 0
    · left; simp [h0]
    · right
      obtain ⟨b, off, spot⟩ := ad
      have hc0 := (hx 0 (by omega)).1
      have hspot : spot = none := by simpa [Addr.add] using World.cell?_spot hc0
      subst hspot
      refine ⟨b, off, rfl, fun i hi' => ?_⟩
      have hin : i < n := by simpa using hi'
      obtain ⟨k1, k2, _, _⟩ := hx i (by omega)
      obtain ⟨e1, e2, e3, e4⟩ := hy i hin
      have hw : wat ((List.range n).map fun i => ((y i).2.2.1, (y i).2.2.2)) i = ((y i).2.2.1, (y i).2.2.2) := by simp [wat, List.getD, hin]
      rw [hw]
      rw [Addr.add_lit] at k1 k2
      rw [e1] at k1
      rw [e2] at k2
      exact ⟨(y i).1, (y i).2.1, k1, k2, e3, e4⟩

/-- A struct of a number and a slice of weighted rows, by value. -/
theorem open_table {r : Reach} {b0 : Nat} {t e q : TypeId} {h0 h1 f0 f1 g0 : Field} {v : Value} {d : DataW H} {p : List MemPlace} (hst : P.underlying t = some (.struct #[h0, h1])) (hone : oneCellFields P #[h0, h1] = true) (hC : P.cellsOf t = 2)
    (hc : P.underlying h0.type = some (.int .i64)) (ht : P.underlying h1.type = some (.slice e)) (he : P.underlying e = some (.struct #[f0, f1]))
    (ce : P.cellsOf e = 2) (o0 : f0.offset = 0) (o1 : f1.offset = 1) (c0 : P.cellsOf f0.type = 1) (c1 : P.cellsOf f1.type = 1) (hr : P.underlying f0.type = some (.struct #[g0])) (og : g0.offset = 0) (cg : P.cellsOf g0.type = 1)
    (hs : P.underlying g0.type = some (.slice q)) (hq : P.underlying q = some (.int .i64)) (cq : P.cellsOf q = 1) (hi : P.underlying f1.type = some (.int .i64))
    (hv : Value.okWide P w r b0 t v) (h : DataW.Trod enc P w base (fun _ => true) held t v d p) : ∃ (x : Int) (a : Option Addr) (n c : Nat), v = .agg #[.int .i64 x, .slice a n c] ∧ ∃ ts : List WRow, ts.length = n ∧ n ≤ 9223372036854775807 ∧ AtW w a ts := by
  obtain ⟨v0, v1, y0, y1, m, rfl, _, _, k0, k1⟩ := open_agg2 hst hone hC hv h
  obtain ⟨x, hx, _, _⟩ := DataW.trod_int hc k0
  obtain ⟨a, n, c, hcs⟩ := slice_form ht k1
  obtain rfl : v1 = .slice a n c := by simpa using hcs
  obtain rfl : v0 = .int .i64 x := by simpa using hx
  exact ⟨x, a, n, c, rfl, open_atW ht he ce o0 o1 c0 c1 hr og cg hs hq cq hi k1⟩
end

end Go.Proofs.Ytkcmlphpilggpaa
