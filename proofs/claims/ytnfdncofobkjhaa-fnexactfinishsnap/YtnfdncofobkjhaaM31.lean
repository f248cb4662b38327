/- Several texts of one proof, in build order: Open, OpenP, OpB, OpPr, OpWi, OpSnp. -/
import Derived.Test.YtnfdncofobkjhaaM0
import Derived.ProofKit
import Derived.OpenShut
import Derived.ShutString
import Derived.ChangeOld
import Derived.Lib.SmallJoins
import Derived.Test.YtnfdncofobkjhaaM1
import Derived.Test.YtnfdncofobkjhaaM3
import Derived.Test.YtnfdncofobkjhaaM4

/- Opening the laws' arguments: rows, slices of ints; plain facts on readings. -/
namespace Go.Proofs.Ytnfdncofobkjhaa
open Go.ChangeShapes Go.WideShapes Go.ChangeAt Go.RowKit Go.Joins Go.Deep

section
variable {H : Type} {enc : TypeId × Value → H} {P : Program} {w : World} {base : Nat} {spare : Nat → Bool} {held : Bool}

theorem array1 {α : Type} {cs : Array α} (h : cs.size = 1) : ∃ c0, cs = #[c0] := by
  obtain ⟨l⟩ := cs
  match l, h with
  | [c0], _ => exact ⟨c0, rfl⟩

theorem open_agg1 {r : Reach} {b0 : Nat} {t : TypeId} {f0 : Field} {v : Value} {d : DataW H} {p : List MemPlace} (hs : P.underlying t = some (.struct #[f0])) (hone : oneCellFields P #[f0] = true) (hC : P.cellsOf t = 1)
    (hv : Value.okWide P w r b0 t v) (h : DataW.Trod enc P w base spare held t v d p) :
    ∃ (v0 : Value) (y0 : DataW H × List MemPlace) (n : Nat), v = .agg #[v0] ∧ d = .agg [y0.1] ∧ p = y0.2 ∧ DataW.trod enc P w base spare held n f0.type [v0] = some y0 := by
  obtain ⟨cs, rfl, hsz⟩ := okWide_struct hs hv
  obtain ⟨c0, rfl⟩ := array1 (hsz.trans hC)
  obtain ⟨fuel, hf⟩ := h
  obtain ⟨y0, n, hx, _, h0⟩ := trod_struct1 hs hf
  obtain ⟨o0, k0⟩ := hone_of hone 0 f0 rfl
  simp only [Prod.mk.injEq] at hx
  exact ⟨c0, y0, n, rfl, hx.1, hx.2, by simpa [Value.cells, o0, k0] using h0⟩

/-- A slice of ints that reads: its numbers. -/
theorem open_at {t e : TypeId} {fuel n c : Nat} {a : Option Addr} {x : DataW H × List MemPlace} (ht : P.underlying t = some (.slice e)) (he : P.underlying e = some (.int .i64)) (hC : P.cellsOf e = 1)
    (h : DataW.trod enc P w base spare held fuel t [.slice a n c] = some x) : ∃ zs : List Int, zs.length = n ∧ n ≤ 9223372036854775807 ∧ At w a zs := by
  rcases open_ints ht he hC h with ⟨hcs, _⟩ | ⟨ad, l, c', zs, hcs, _, hl, hm, hz, _, hcell, _⟩
  · simp at hcs
    obtain ⟨rfl, rfl, rfl⟩ := hcs
    exact ⟨[], rfl, by omega, At.nil _ _⟩
  · simp at hcs
    obtain ⟨rfl, rfl, rfl⟩ := hcs
    unfold maxLen at hm
    have hz' : n ≤ zs.length := by split at hz <;> omega
    refine ⟨zs.take n, by simp; omega, by omega, ?_⟩
    by_cases h0 : n = 0
    · left; simp [h0]
    · right
      obtain ⟨b, off, spot⟩ := ad
      have hc := hcell 0 (by omega)
      have hspot : spot = none := by simpa [Addr.add] using World.cell?_spot hc
      subst hspot
      refine ⟨b, off, rfl, fun i hi => ?_⟩
      have hin : i < n := by simp at hi; omega
      have := hcell i (by omega)
      rw [show (zs.take n).getD i 0 = zs.getD i 0 by simp [List.getD, hin]]
      rw [Addr.add_lit] at this
      exact this

/-- A struct of one slice of ints, by value. -/
theorem open_row {r : Reach} {b0 : Nat} {t ts e : TypeId} {f0 : Field} {v : Value} {d : DataW H} {p : List MemPlace} (hs : P.underlying t = some (.struct #[f0])) (hf0 : f0.type = ts) (hone : oneCellFields P #[f0] = true) (hC : P.cellsOf t = 1)
    (ht : P.underlying ts = some (.slice e)) (he : P.underlying e = some (.int .i64)) (hCe : P.cellsOf e = 1)
    (hv : Value.okWide P w r b0 t v) (h : DataW.Trod enc P w base spare held t v d p) : ∃ a n c, v = .agg #[.slice a n c] ∧ ∃ zs : List Int, zs.length = n ∧ n ≤ 9223372036854775807 ∧ At w a zs := by
  obtain ⟨v0, y0, m, rfl, _, _, h0⟩ := open_agg1 hs hone hC hv h
  subst hf0
  obtain ⟨a, n, c, hcs⟩ := slice_form ht h0
  obtain rfl : v0 = .slice a n c := by simpa using hcs
  exact ⟨a, n, c, rfl, open_at ht he hCe h0⟩
end

end Go.Proofs.Ytnfdncofobkjhaa

/- Opening things in memory among the laws' arguments, by their shape. -/
namespace Go.Proofs.Ytnfdncofobkjhaa
open Go.ChangeShapes Go.WideShapes Go.ChangeAt Go.RowKit Go.Joins Go.Deep

section
variable {H : Type} (enc : TypeId × Value → H) (P : Program) (w : World) (base : Nat) (held : Bool)
/-- Whatever reads as a value of type t is such a thing. -/
def Opens {α : Type} (t : TypeId) (A : Rep α) : Prop := ∀ fuel cs x, DataW.trod enc P w base (fun _ => true) held fuel t cs = some x → ∃ y, A.At w cs y
variable {enc P w base held}

theorem Opens.int {t : TypeId} (ht : P.underlying t = some (.int .i64)) : Opens enc P w base held t Rep.int := fun fuel cs x h => by
  obtain ⟨z, hz, _, _⟩ := DataW.trod_int ht h
  exact ⟨z, hz⟩

theorem Opens.slice {α : Type} [Inhabited α] {A : Rep α} {t e e' : TypeId} (ht : P.underlying t = some (.slice e)) (ce : P.cellsOf e = A.k) (hA : Opens enc P w base held e A) (hk : 0 < A.k) : Opens enc P w base held t (Rep.slice e' A) := fun fuel cs x h => by
  rcases open_slice ht h with ⟨rfl, _⟩ | ⟨ad, len, cap, m, k, D, Pl, rfl, _, hl, hm, hmm, _, hx⟩
  · exact ⟨[], none, 0, 0, rfl, rfl, by omega, .inl rfl, fun _ => rfl⟩
  · simp only [if_true] at hmm
    subst hmm
    unfold maxLen at hm
    have each : ∀ i, i < len → ∃ y : α × List Value, (∀ j v, y.2[j]? = some v → w.cell? (ad.add (i * A.k + j)) = some v) ∧ A.At w y.2 y.1 ∧ y.2.length = A.k := by
      intro i hi
      obtain ⟨cs', h1, h2⟩ := hx i (by omega)
      rw [ce] at h1
      obtain ⟨_, hlen, hcell⟩ := World.cells?_some h1
      obtain ⟨y, hy⟩ := hA _ _ _ h2
      refine ⟨(y, cs'), fun j v hv => ?_, hy, by simpa using hlen⟩
      have hj := (List.getElem?_eq_some_iff.1 hv).1
      have := hcell j (by have h5 : cs'.length = A.k := hlen; have h6 : j < cs'.length := hj; omega)
      rw [add_add] at this
      rw [this]
      simpa using hv
    obtain ⟨y, hy⟩ := choose_lt each
    refine ⟨(List.range len).map fun i => (y i).1, some ad, len, _, rfl, by simp, by omega, ?_, fun h => by cases h⟩
    by_cases h0 : len = 0
    · left; simp [h0]
    · right
      obtain ⟨b, off, spot⟩ := ad
      obtain ⟨e1, _, e3⟩ := hy 0 (by omega)
      obtain ⟨v0, hv0⟩ : ∃ v0, (y 0).2[0]? = some v0 := ⟨_, List.getElem?_eq_getElem (by omega)⟩
      have hc0 := e1 0 v0 hv0
      have hspot : spot = none := by simpa [Addr.add] using World.cell?_spot hc0
      subst hspot
      refine ⟨b, off, rfl, fun i x hx' => ?_⟩
      have hi : i < len := by have := (List.getElem?_eq_some_iff.1 hx').1; simpa using this
      obtain ⟨k1, k2, _⟩ := hy i hi
      have hxe : (y i).1 = x := by simpa [hi] using hx'
      refine ⟨(y i).2, fun j v hv => ?_, hxe ▸ k2⟩
      have := k1 j v hv
      rw [Addr.add_lit] at this
      rw [Nat.add_assoc]; exact this

theorem take_one {cs : List Value} {v : Value} (i : Nat) (h : cs[i]? = some v) : (cs.drop i).take 1 = [v] := by
  obtain ⟨hi, rfl⟩ := List.getElem?_eq_some_iff.1 h
  rw [List.drop_eq_getElem_cons hi]; rfl

theorem Opens.struct2 {α β : Type} {A : Rep α} {B : Rep β} {t : TypeId} {f0 f1 : Field} (ht : P.underlying t = some (.struct #[f0, f1])) (hC : P.cellsOf t = 2) (o0 : f0.offset = 0) (o1 : f1.offset = 1)
    (c0 : P.cellsOf f0.type = 1) (c1 : P.cellsOf f1.type = 1) (h0 : Opens enc P w base held f0.type A) (h1 : Opens enc P w base held f1.type B) : Opens enc P w base held t (Rep.pair A B) := fun fuel cs x h => by
  obtain ⟨xs, n, _, rfl, hl, hlen, hf⟩ := DataW.trod_struct ht h
  match xs, hlen, cs, hl.trans hC with
  | [y0, y1], _, [v0, v1], _ =>
    have g0 := hf 0 f0 rfl
    have g1 := hf 1 f1 rfl
    simp [o0, o1, c0, c1] at g0 g1
    obtain ⟨x0, q0⟩ := h0 _ _ _ g0
    obtain ⟨x1, q1⟩ := h1 _ _ _ g1
    exact ⟨(x0, x1), [v0], [v1], rfl, q0, q1⟩

theorem Opens.struct3 {α β γ : Type} {A : Rep α} {B : Rep β} {C : Rep γ} {t : TypeId} {f0 f1 f2 : Field} (ht : P.underlying t = some (.struct #[f0, f1, f2])) (hC : P.cellsOf t = 3) (o0 : f0.offset = 0) (o1 : f1.offset = 1) (o2 : f2.offset = 2)
    (c0 : P.cellsOf f0.type = 1) (c1 : P.cellsOf f1.type = 1) (c2 : P.cellsOf f2.type = 1) (h0 : Opens enc P w base held f0.type A) (h1 : Opens enc P w base held f1.type B) (h2 : Opens enc P w base held f2.type C) : Opens enc P w base held t (Rep.pair A (Rep.pair B C)) := fun fuel cs x h => by
  obtain ⟨xs, n, _, rfl, hl, hlen, hf⟩ := DataW.trod_struct ht h
  match xs, hlen, cs, hl.trans hC with
  | [y0, y1, y2], _, [v0, v1, v2], _ =>
    have g0 := hf 0 f0 rfl
    have g1 := hf 1 f1 rfl
    have g2 := hf 2 f2 rfl
    simp [o0, o1, o2, c0, c1, c2] at g0 g1 g2
    obtain ⟨x0, q0⟩ := h0 _ _ _ g0
    obtain ⟨x1, q1⟩ := h1 _ _ _ g1
    obtain ⟨x2, q2⟩ := h2 _ _ _ g2
    exact ⟨(x0, x1, x2), [v0], _, rfl, q0, [v1], [v2], rfl, q1, q2⟩

theorem Opens.struct6 {α β γ δ ε ζ : Type} {A : Rep α} {B : Rep β} {C : Rep γ} {D : Rep δ} {E : Rep ε} {Z : Rep ζ} {t : TypeId} {f0 f1 f2 f3 f4 f5 : Field} (ht : P.underlying t = some (.struct #[f0, f1, f2, f3, f4, f5])) (hC : P.cellsOf t = 6)
    (o0 : f0.offset = 0) (o1 : f1.offset = 1) (o2 : f2.offset = 2) (o3 : f3.offset = 3) (o4 : f4.offset = 4) (o5 : f5.offset = 5)
    (c0 : P.cellsOf f0.type = 1) (c1 : P.cellsOf f1.type = 1) (c2 : P.cellsOf f2.type = 1) (c3 : P.cellsOf f3.type = 1) (c4 : P.cellsOf f4.type = 1) (c5 : P.cellsOf f5.type = 1)
    (h0 : Opens enc P w base held f0.type A) (h1 : Opens enc P w base held f1.type B) (h2 : Opens enc P w base held f2.type C) (h3 : Opens enc P w base held f3.type D) (h4 : Opens enc P w base held f4.type E) (h5 : Opens enc P w base held f5.type Z) :
    Opens enc P w base held t (Rep.pair A (Rep.pair B (Rep.pair C (Rep.pair D (Rep.pair E Z))))) := fun fuel cs x h => by
  obtain ⟨xs, n, _, rfl, hl, hlen, hf⟩ := DataW.trod_struct ht h
  match xs, hlen, cs, hl.trans hC with
  | [y0, y1, y2, y3, y4, y5], _, [v0, v1, v2, v3, v4, v5], _ =>
    have g0 := hf 0 f0 rfl
    have g1 := hf 1 f1 rfl
    have g2 := hf 2 f2 rfl
    have g3 := hf 3 f3 rfl
    have g4 := hf 4 f4 rfl
    have g5 := hf 5 f5 rfl
    simp [o0, o1, o2, o3, o4, o5, c0, c1, c2, c3, c4, c5] at g0 g1 g2 g3 g4 g5
    obtain ⟨x0, q0⟩ := h0 _ _ _ g0
    obtain ⟨x1, q1⟩ := h1 _ _ _ g1
    obtain ⟨x2, q2⟩ := h2 _ _ _ g2
    obtain ⟨x3, q3⟩ := h3 _ _ _ g3
    obtain ⟨x4, q4⟩ := h4 _ _ _ g4
    obtain ⟨x5, q5⟩ := h5 _ _ _ g5
    exact ⟨(x0, x1, x2, x3, x4, x5), [v0], _, rfl, q0, [v1], _, rfl, q1, [v2], _, rfl, q2, [v3], _, rfl, q3, [v4], [v5], rfl, q4, q5⟩

/-- A struct by value. -/
theorem open_struct {α : Type} {A : Rep α} {r : Reach} {b0 : Nat} {t : TypeId} {fs : Array Field} {v : Value} {d : DataW H} {p : List MemPlace} (hs : P.underlying t = some (.struct fs)) (hA : Opens enc P w base held t A) (hv : Value.okWide P w r b0 t v)
    (h : DataW.Trod enc P w base (fun _ => true) held t v d p) : ∃ cs x, v = .agg cs.toArray ∧ A.At w cs x := by
  obtain ⟨cs, rfl, _⟩ := okWide_struct hs hv
  obtain ⟨fuel, hf⟩ := h
  obtain ⟨x, hx⟩ := hA _ _ _ hf
  exact ⟨_, x, by simp [Value.cells], hx⟩
end

end Go.Proofs.Ytnfdncofobkjhaa

/- Opening a truth value. -/
namespace Go.Proofs.Ytnfdncofobkjhaa
open Go.ChangeShapes Go.WideShapes Go.ChangeAt Go.RowKit Go.Joins Go.Deep

theorem Opens.boolR {H : Type} {enc : TypeId × Value → H} {P : Program} {w : World} {base : Nat} {held : Bool} {t : TypeId} (ht : P.underlying t = some .bool) : Opens enc P w base held t Rep.bool := fun fuel cs x h => by
  obtain ⟨z, hz, _⟩ := DataW.trod_bool ht h
  exact ⟨z, hz⟩

end Go.Proofs.Ytnfdncofobkjhaa

/- Opening Proc among the laws' arguments. -/
namespace Go.Proofs.Ytnfdncofobkjhaa
open Go.ChangeShapes Go.WideShapes Go.ChangeAt Go.RowKit Go.Joins Go.Deep

section
variable {H : Type} {enc : TypeId × Value → H} {w : World} {base b0 : Nat} {held : Bool}
theorem Opens.structCProc {P : Program} {α0 α1 α2 : Type} {A0 : Rep α0} {A1 : Rep α1} {A2 : Rep α2} {t : TypeId} {f0 f1 f2 : Field} (ht : P.underlying t = some (.struct #[f0, f1, f2])) (hC : P.cellsOf t = 3)
    (o0 : f0.offset = 0) (o1 : f1.offset = 1) (o2 : f2.offset = 2)
    (c0 : P.cellsOf f0.type = 1) (c1 : P.cellsOf f1.type = 1) (c2 : P.cellsOf f2.type = 1)
    (h0 : Opens enc P w base held f0.type A0) (h1 : Opens enc P w base held f1.type A1) (h2 : Opens enc P w base held f2.type A2) :
    Opens enc P w base held t (Rep.pair A0 (Rep.pair A1 (A2))) := fun fuel cs x h => by
  obtain ⟨xs, n, _, rfl, hl, hlen, hf⟩ := DataW.trod_struct ht h
  match xs, hlen, cs, hl.trans hC with
  | [y0, y1, y2], _, [v0, v1, v2], _ =>
    have g0 := hf 0 f0 rfl
    have g1 := hf 1 f1 rfl
    have g2 := hf 2 f2 rfl
    simp [o0, c0, o1, c1, o2, c2] at g0 g1 g2
    obtain ⟨x0, q0⟩ := h0 _ _ _ g0
    obtain ⟨x1, q1⟩ := h1 _ _ _ g1
    obtain ⟨x2, q2⟩ := h2 _ _ _ g2
    exact ⟨(x0, x1, x2), [v0], _, rfl, q0, [v1], [v2], rfl, q1, q2⟩

set_option maxRecDepth 100000 in
theorem opens_Proc : Opens enc Try.prog w base held 87 RProc := by
  have oi : Opens enc Try.prog w base held 3 Rep.int := Opens.int Try.underlying3
  have ob : Opens enc Try.prog w base held 4 Rep.bool := Opens.boolR Try.underlying4
  exact Opens.structCProc Try.underlying87 (by kernel_rfl) rfl rfl rfl (by kernel_rfl) (by kernel_rfl) (by kernel_rfl) oi oi ob
end

end Go.Proofs.Ytnfdncofobkjhaa

/- Opening Wire among the laws' arguments. -/
namespace Go.Proofs.Ytnfdncofobkjhaa
open Go.ChangeShapes Go.WideShapes Go.ChangeAt Go.RowKit Go.Joins Go.Deep

section
variable {H : Type} {enc : TypeId × Value → H} {w : World} {base b0 : Nat} {held : Bool}
theorem Opens.structCWire {P : Program} {α0 α1 α2 : Type} {A0 : Rep α0} {A1 : Rep α1} {A2 : Rep α2} {t : TypeId} {f0 f1 f2 : Field} (ht : P.underlying t = some (.struct #[f0, f1, f2])) (hC : P.cellsOf t = 3)
    (o0 : f0.offset = 0) (o1 : f1.offset = 1) (o2 : f2.offset = 2)
    (c0 : P.cellsOf f0.type = 1) (c1 : P.cellsOf f1.type = 1) (c2 : P.cellsOf f2.type = 1)
    (h0 : Opens enc P w base held f0.type A0) (h1 : Opens enc P w base held f1.type A1) (h2 : Opens enc P w base held f2.type A2) :
    Opens enc P w base held t (Rep.pair A0 (Rep.pair A1 (A2))) := fun fuel cs x h => by
  obtain ⟨xs, n, _, rfl, hl, hlen, hf⟩ := DataW.trod_struct ht h
  match xs, hlen, cs, hl.trans hC with
  | [y0, y1, y2], _, [v0, v1, v2], _ =>
    have g0 := hf 0 f0 rfl
    have g1 := hf 1 f1 rfl
    have g2 := hf 2 f2 rfl
    simp [o0, c0, o1, c1, o2, c2] at g0 g1 g2
    obtain ⟨x0, q0⟩ := h0 _ _ _ g0
    obtain ⟨x1, q1⟩ := h1 _ _ _ g1
    obtain ⟨x2, q2⟩ := h2 _ _ _ g2
    exact ⟨(x0, x1, x2), [v0], _, rfl, q0, [v1], [v2], rfl, q1, q2⟩

set_option maxRecDepth 100000 in
theorem opens_Wire : Opens enc Try.prog w base held 82 RWire := by
  have oi : Opens enc Try.prog w base held 3 Rep.int := Opens.int Try.underlying3
  have ob : Opens enc Try.prog w base held 4 Rep.bool := Opens.boolR Try.underlying4
  have ois : Opens enc Try.prog w base held 41 RInts := Opens.slice Try.underlying41 (by kernel_rfl) oi (by decide)
  exact Opens.structCWire Try.underlying82 (by kernel_rfl) rfl rfl rfl (by kernel_rfl) (by kernel_rfl) (by kernel_rfl) ois ois ob
end

end Go.Proofs.Ytnfdncofobkjhaa

/- Opening Snap among the laws' arguments. -/
namespace Go.Proofs.Ytnfdncofobkjhaa
open Go.ChangeShapes Go.WideShapes Go.ChangeAt Go.RowKit Go.Joins Go.Deep

section
variable {H : Type} {enc : TypeId × Value → H} {w : World} {base b0 : Nat} {held : Bool}
theorem Opens.structCSnap {P : Program} {α0 α1 : Type} {A0 : Rep α0} {A1 : Rep α1} {t : TypeId} {f0 f1 : Field} (ht : P.underlying t = some (.struct #[f0, f1])) (hC : P.cellsOf t = 2)
    (o0 : f0.offset = 0) (o1 : f1.offset = 1)
    (c0 : P.cellsOf f0.type = 1) (c1 : P.cellsOf f1.type = 1)
    (h0 : Opens enc P w base held f0.type A0) (h1 : Opens enc P w base held f1.type A1) :
    Opens enc P w base held t (Rep.pair A0 (A1)) := fun fuel cs x h => by
  obtain ⟨xs, n, _, rfl, hl, hlen, hf⟩ := DataW.trod_struct ht h
  match xs, hlen, cs, hl.trans hC with
  | [y0, y1], _, [v0, v1], _ =>
    have g0 := hf 0 f0 rfl
    have g1 := hf 1 f1 rfl
    simp [o0, c0, o1, c1] at g0 g1
    obtain ⟨x0, q0⟩ := h0 _ _ _ g0
    obtain ⟨x1, q1⟩ := h1 _ _ _ g1
    exact ⟨(x0, x1), [v0], [v1], rfl, q0, q1⟩

set_option maxRecDepth 100000 in
theorem opens_Snap : Opens enc Try.prog w base held 25 RSnap := by
  have os0 : Opens enc Try.prog w base held 22 RProcs := Opens.slice Try.underlying22 (by kernel_rfl) opens_Proc (by decide)
  have os1 : Opens enc Try.prog w base held 23 RWires := Opens.slice Try.underlying23 (by kernel_rfl) opens_Wire (by decide)
  exact Opens.structCSnap Try.underlying25 (by kernel_rfl) rfl rfl (by kernel_rfl) (by kernel_rfl) os0 os1

set_option maxRecDepth 100000 in
theorem open_Snap {r : Reach} {v : Value} {d : DataW H} {p : List MemPlace} (hv : Value.okWide Try.prog w r b0 25 v) (h : DataW.Trod enc Try.prog w base (fun _ => true) held 25 v d p) :
    ∃ (a0 : Option Addr) (n0 : Nat) (c0 : Nat) (a1 : Option Addr) (n1 : Nat) (c1 : Nat)  (x0 : List TProc) (x1 : List TWire), v = .agg #[.slice a0 n0 c0, .slice a1 n1 c1] ∧ RSnap.At w [.slice a0 n0 c0, .slice a1 n1 c1] (x0, x1) := by
  obtain ⟨cs, ⟨x0, x1⟩, rfl, hx⟩ := open_struct Try.underlying25 opens_Snap hv h
  obtain ⟨a0, n0, c0, a1, n1, c1, rfl, _⟩ := RSnap.at_open hx
  exact ⟨a0, n0, c0, a1, n1, c1, x0, x1, rfl, hx⟩
end

end Go.Proofs.Ytnfdncofobkjhaa
