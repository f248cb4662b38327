/- Several texts of one proof, in build order: Open, OpenV. -/
import Derived.Test.YtlfljfmhhnoinaaM1
import Derived.ProofKit
import Derived.OpenShut
import Derived.ShutString
import Derived.ChangeOld
import Derived.Lib.SmallJoins
import Derived.Test.YtlfljfmhhnoinaaM2
import Derived.Deep.SlicePairs

/- Opening the laws' arguments: rows, slices of ints; plain facts on readings. -/
namespace Go.Proofs.Ytlfljfmhhnoinaa
open Go.ChangeShapes Go.WideShapes Go.ChangeAt Go.RowKit Go.Joins Go.Deep

section
variable {H : Type} {enc : TypeId × Value → H} {P : Program} {w : World} {base : Nat} {spare : Nat → Bool} {held : Bool}

theorem array1 {α : Type} {cs : Array α} (h : cs.size = 1) : ∃ c0, cs = #[c0] := by
  obtain ⟨l⟩ := cs
  match l, h with
  | [c0], _ => exact ⟨c0, rfl⟩

theorem open_agg1 {r : Reach} {b0 : Nat} {t : TypeId} {f0 : Field} {v : Value} {d : DataW H} {p : List MemPlace} (hs : P.underlying t = some (.struct #[f0])) (hone : oneCellFields P #[f0] = true) (hC : P.cellsOf t = 1)
    (hv : Value.okWide P w r b0 t v) (h : DataW.Trod enc P w base spare held t v d p) :
    ∃ (v0 : Value) (y0 : DataW H × List MemPlace) (n : Nat), v = .agg #[v0] ∧ d = .agg [y0.1] ∧ p = y0.2 ∧ DataW.trod enc P w base spare held n f0.type [v0] = some y0 := by
  obtain ⟨cs, rfl, hsz⟩ := okWide_struct hs hv
  obtain ⟨c0, rfl⟩ := array1 (hsz.trans hC)
  obtain ⟨fuel, hf⟩ := h
  obtain ⟨y0, n, hx, _, h0⟩ := trod_struct1 hs hf
  obtain ⟨o0, k0⟩ := hone_of hone 0 f0 rfl
  simp only [Prod.mk.injEq] at hx
  exact ⟨c0, y0, n, rfl, hx.1, hx.2, by simpa [Value.cells, o0, k0] using h0⟩

/-- A slice of ints that reads: its numbers. -/
theorem open_at {t e : TypeId} {fuel n c : Nat} {a : Option Addr} {x : DataW H × List MemPlace} (ht : P.underlying t = some (.slice e)) (he : P.underlying e = some (.int .i64)) (hC : P.cellsOf e = 1)
    (h : DataW.trod enc P w base spare held fuel t [.slice a n c] = some x) : ∃ zs : List Int, zs.length = n ∧ n ≤ 9223372036854775807 ∧ At w a zs := by
  rcases open_ints ht he hC h with ⟨hcs, _⟩ | ⟨ad, l, c', zs, hcs, _, hl, hm, hz, _, hcell, _⟩
  · simp at hcs
    obtain ⟨rfl, rfl, rfl⟩ := hcs
    exact ⟨[], rfl, by omega, At.nil _ _⟩
  · simp at hcs
    obtain ⟨rfl, rfl, rfl⟩ := hcs
    unfold maxLen at hm
    have hz' : n ≤ zs.length := by split at hz <;> omega
    refine ⟨zs.take n, by simp; omega, by omega, ?_⟩
    by_cases h0 : n = 0
    · left; simp [h0]
    · right
      obtain ⟨b, off, spot⟩ := ad
      have hc := hcell 0 (by omega)
      have hspot : spot = none := by simpa [Addr.add] using World.cell?_spot hc
      subst hspot
      refine ⟨b, off, rfl, fun i hi => ?_⟩
      have hin : i < n := by simp at hi; omega
      have := hcell i (by omega)
      rw [show (zs.take n).getD i 0 = zs.getD i 0 by simp [List.getD, hin]]
      rw [Addr.add_lit] at this
      exact this

/-- A struct of one slice of ints, by value. -/
theorem open_row {r : Reach} {b0 : Nat} {t ts e : TypeId} {f0 : Field} {v : Value} {d : DataW H} {p : List MemPlace} (hs : P.underlying t = some (.struct #[f0])) (hf0 : f0.type = ts) (hone : oneCellFields P #[f0] = true) (hC : P.cellsOf t = 1)
    (ht : P.underlying ts = some (.slice e)) (he : P.underlying e = some (.int .i64)) (hCe : P.cellsOf e = 1)
    (hv : Value.okWide P w r b0 t v) (h : DataW.Trod enc P w base spare held t v d p) : ∃ a n c, v = .agg #[.slice a n c] ∧ ∃ zs : List Int, zs.length = n ∧ n ≤ 9223372036854775807 ∧ At w a zs := by
  obtain ⟨v0, y0, m, rfl, _, _, h0⟩ := open_agg1 hs hone hC hv h
  subst hf0
  obtain ⟨a, n, c, hcs⟩ := slice_form ht h0
  obtain rfl : v0 = .slice a n c := by simpa using hcs
  exact ⟨a, n, c, rfl, open_at ht he hCe h0⟩
end

end Go.Proofs.Ytlfljfmhhnoinaa

/- Opening slices of groups among the laws' arguments. -/
namespace Go.Proofs.Ytlfljfmhhnoinaa
open Go.ChangeShapes Go.WideShapes Go.ChangeAt Go.RowKit Go.Joins Go.Deep

section
variable {H : Type} {enc : TypeId × Value → H} {P : Program} {w : World} {base : Nat} {held : Bool}

theorem open_atV {t e q : TypeId} {f0 f1 f2 g0 : Field} {fuel n c : Nat} {a : Option Addr} {x : DataW H × List MemPlace} (ht : P.underlying t = some (.slice e)) (he : P.underlying e = some (.struct #[f0, f1, f2]))
    (ce : P.cellsOf e = 3) (o0 : f0.offset = 0) (o1 : f1.offset = 1) (o2 : f2.offset = 2) (c0 : P.cellsOf f0.type = 1) (c1 : P.cellsOf f1.type = 1) (c2 : P.cellsOf f2.type = 1)
    (hr : P.underlying f0.type = some (.struct #[g0])) (og : g0.offset = 0) (cg : P.cellsOf g0.type = 1)
    (hs : P.underlying g0.type = some (.slice q)) (hq : P.underlying q = some (.int .i64)) (cq : P.cellsOf q = 1) (i1 : P.underlying f1.type = some (.int .i64)) (i2 : P.underlying f2.type = some (.int .i64))
    (h : DataW.trod enc P w base (fun _ => true) held fuel t [.slice a n c] = some x) : ∃ ts : List GRow, ts.length = n ∧ n ≤ 9223372036854775807 ∧ AtV w a ts := by
  rcases open_slice ht h with ⟨hcs, _⟩ | ⟨ad, len, cap, m, k, D, Pl, hcs, _, hl, hm, hmm, _, hx⟩
  · simp at hcs
    obtain ⟨rfl, rfl, rfl⟩ := hcs
    exact ⟨[], rfl, by omega, .inl rfl⟩
  · simp at hcs
    obtain ⟨rfl, rfl, rfl⟩ := hcs
    simp only [if_true] at hmm
    subst hmm
    unfold maxLen at hm
    have each : ∀ i, i < n → ∃ y : Option Addr × Nat × GRow, w.cell? (ad.add (i * 3)) = some (.slice y.1 y.2.2.1.length y.2.1) ∧ w.cell? (ad.add (i * 3 + 1)) = some (.int .i64 y.2.2.2.1) ∧ w.cell? (ad.add (i * 3 + 2)) = some (.int .i64 y.2.2.2.2) ∧
        y.2.2.1.length ≤ 9223372036854775807 ∧ At w y.1 y.2.2.1 := by
      intro i hi'
      obtain ⟨cs', h1, h2⟩ := hx i (by omega)
      rw [ce] at h1
      obtain ⟨_, hlen, hcell⟩ := World.cells?_some h1
      obtain ⟨xs, k', hk, hxy, _, hxl, hf⟩ := DataW.trod_struct he h2
      match xs, hxl, cs', hlen with
      | [y0, y1, y2], _, [v0, v1, v2], _ =>
        have g0' := hf 0 f0 rfl
        have g1' := hf 1 f1 rfl
        have g2' := hf 2 f2 rfl
        simp [o0, o1, o2, c0, c1, c2] at g0' g1' g2'
        obtain ⟨z1, q1, _, _⟩ := DataW.trod_int i1 g1'
        obtain ⟨z2, q2, _, _⟩ := DataW.trod_int i2 g2'
        obtain ⟨yy, k'', _, _, s0⟩ := trod_struct1 hr g0'
        rw [og, cg] at s0
        simp only [List.drop_zero, List.take_succ_cons, List.take_zero] at s0
        obtain ⟨a', n', c', hc'⟩ := slice_form hs s0
        simp only [List.cons.injEq, and_true] at hc'
        rw [hc'] at s0
        obtain ⟨zs, hzl, hzn, hat⟩ := open_at hs hq cq s0
        have e0 := hcell 0 (by omega)
        have e1 := hcell 1 (by omega)
        have e2 := hcell 2 (by omega)
        rw [add_add] at e0 e1 e2
        simp only [List.cons.injEq, and_true] at q1 q2
        subst q1 q2 hc'
        exact ⟨(a', c', zs, z1, z2), by rw [hzl]; simpa using e0, by simpa using e1, by simpa using e2, by rw [hzl]; exact hzn, hat⟩
    obtain ⟨y, hy⟩ := choose_lt each
    refine ⟨(List.range n).map fun i => (y i).2.2, by simp, by omega, ?_⟩
    by_cases h0 : n = 0
    · left; simp [h0]
    · right
      obtain ⟨b, off, spot⟩ := ad
      have hc0 := (hy 0 (by omega)).1
      have hspot : spot = none := by simpa [Addr.add] using World.cell?_spot hc0
      subst hspot
      refine ⟨b, off, rfl, fun i hi' => ?_⟩
      have hin : i < n := by simpa using hi'
      obtain ⟨e1, e2, e3, e4, e5⟩ := hy i hin
      have hw : gat ((List.range n).map fun i => (y i).2.2) i = (y i).2.2 := by simp [gat, List.getD, hin]
      rw [hw]
      rw [Addr.add_lit] at e1 e2 e3
      exact ⟨(y i).1, (y i).2.1, e1, e2, e3, e4, e5⟩
end

end Go.Proofs.Ytlfljfmhhnoinaa
