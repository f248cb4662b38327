/- Several texts of one proof, in build order: OpenU, OpenP, OpenW. -/
import Derived.Test.YthiabjkjpjmahaaGreatM43
import Derived.Test.YthiabjkjpjmahaaGreatM35
import Derived.Test.YthiabjkjpjmahaaGreatM1
import Derived.Test.YthiabjkjpjmahaaGreatM10

/- Opening streams among the laws' arguments. -/
namespace Go.Proofs.YthiabjkjpjmahaaGreat
open Go.ChangeShapes Go.WideShapes Go.ChangeAt Go.RowKit Go.Joins Go.Deep

section
variable {H : Type} {enc : TypeId × Value → H} {P : Program} {w : World} {base : Nat} {held : Bool}

theorem open_atSW {t e e2 q : TypeId} {h0 h1 f0 f1 g0 : Field} {fuel n c : Nat} {a : Option Addr} {x : DataW H × List MemPlace} (ht : P.underlying t = some (.slice e)) (hst : P.underlying e = some (.struct #[h0, h1])) (ce : P.cellsOf e = 2) (oh0 : h0.offset = 0) (oh1 : h1.offset = 1) (ch0 : P.cellsOf h0.type = 1) (ch1 : P.cellsOf h1.type = 1)
    (hc : P.underlying h0.type = some (.int .i64)) (ht2 : P.underlying h1.type = some (.slice e2)) (he : P.underlying e2 = some (.struct #[f0, f1]))
    (ce2 : P.cellsOf e2 = 2) (o0 : f0.offset = 0) (o1 : f1.offset = 1) (c0 : P.cellsOf f0.type = 1) (c1 : P.cellsOf f1.type = 1) (hr : P.underlying f0.type = some (.struct #[g0])) (og : g0.offset = 0) (cg : P.cellsOf g0.type = 1)
    (hs : P.underlying g0.type = some (.slice q)) (hq : P.underlying q = some (.int .i64)) (cq : P.cellsOf q = 1) (hi : P.underlying f1.type = some (.int .i64))
    (h : DataW.trod enc P w base (fun _ => true) held fuel t [.slice a n c] = some x) : ∃ ss : List Tab, ss.length = n ∧ n ≤ 9223372036854775807 ∧ AtSW w a ss := by
  rcases open_slice_pairs ht hst ce oh0 oh1 ch0 ch1 h with ⟨hcs, _⟩ | ⟨ad, len, cap, m, k, V0, V1, D0, D1, P0, P1, hcs, _, hl, hm, hmm, _, hx⟩
  · simp at hcs
    obtain ⟨rfl, rfl, rfl⟩ := hcs
    exact ⟨[], rfl, by omega, .inl rfl⟩
  · simp at hcs
    obtain ⟨rfl, rfl, rfl⟩ := hcs
    simp only [if_true] at hmm
    subst hmm
    unfold maxLen at hm
    have each : ∀ i, i < n → ∃ y : Option Addr × Nat × List WRow × Int, V0 i = .int .i64 y.2.2.2 ∧ V1 i = .slice y.1 y.2.2.1.length y.2.1 ∧ y.2.2.1.length ≤ 9223372036854775807 ∧ AtW w y.1 y.2.2.1 := by
      intro i hi'
      obtain ⟨_, _, r0, r1⟩ := hx i (by omega)
      obtain ⟨z, hz1, _, _⟩ := DataW.trod_int hc r0
      obtain ⟨a', n', c', hc'⟩ := slice_form ht2 r1
      simp only [List.cons.injEq, and_true] at hc'
      rw [hc'] at r1
      obtain ⟨ts, hzl, hzn, hat⟩ := open_atW ht2 he ce2 o0 o1 c0 c1 hr og cg hs hq cq hi r1
      exact ⟨(a', c', ts, z), by simpa using hz1, by rw [hc', hzl], by rw [hzl]; exact hzn, hat⟩
    obtain ⟨y, hy⟩ := choose_lt each
    refine ⟨(List.range n).map fun i => ((y i).2.2.2, (y i).2.2.1), by simp, by omega, ?_⟩
    by_cases h0 : n = 0
    · left; simp [h0]
    · right
      obtain ⟨b, off, spot⟩ := ad
      have hc0 := (hx 0 (by omega)).1
      have hspot : spot = none := by simpa [Addr.add] using World.cell?_spot hc0
      subst hspot
      refine ⟨b, off, rfl, fun i hi' => ?_⟩
      have hin : i < n := by simpa using hi'
      obtain ⟨k1, k2, _, _⟩ := hx i (by omega)
      obtain ⟨e1, e2, e3, e4⟩ := hy i hin
      have hw : tat ((List.range n).map fun i => ((y i).2.2.2, (y i).2.2.1)) i = ((y i).2.2.2, (y i).2.2.1) := by simp [tat, List.getD, hin]
      rw [hw]
      rw [Addr.add_lit] at k1 k2
      rw [e1] at k1
      rw [e2] at k2
      exact ⟨(y i).1, (y i).2.1, k1, k2, e3, e4⟩

end

end Go.Proofs.YthiabjkjpjmahaaGreat

/- Opening things in memory among the laws' arguments, by their shape. -/
namespace Go.Proofs.YthiabjkjpjmahaaGreat
open Go.ChangeShapes Go.WideShapes Go.ChangeAt Go.RowKit Go.Joins Go.Deep

section
variable {H : Type} (enc : TypeId × Value → H) (P : Program) (w : World) (base : Nat) (held : Bool)
/-- Whatever reads as a value of type t is such a thing. -/
def Opens {α : Type} (t : TypeId) (A : Rep α) : Prop := ∀ fuel cs x, DataW.trod enc P w base (fun _ => true) held fuel t cs = some x → ∃ y, A.At w cs y
variable {enc P w base held}

theorem Opens.int {t : TypeId} (ht : P.underlying t = some (.int .i64)) : Opens enc P w base held t Rep.int := fun fuel cs x h => by
  obtain ⟨z, hz, _, _⟩ := DataW.trod_int ht h
  exact ⟨z, hz⟩

theorem Opens.slice {α : Type} [Inhabited α] {A : Rep α} {t e e' : TypeId} (ht : P.underlying t = some (.slice e)) (ce : P.cellsOf e = A.k) (hA : Opens enc P w base held e A) (hk : 0 < A.k) : Opens enc P w base held t (Rep.slice e' A) := fun fuel cs x h => by
  rcases open_slice ht h with ⟨rfl, _⟩ | ⟨ad, len, cap, m, k, D, Pl, rfl, _, hl, hm, hmm, _, hx⟩
  · exact ⟨[], none, 0, 0, rfl, rfl, by omega, .inl rfl, fun _ => rfl⟩
  · simp only [if_true] at hmm
    subst hmm
    unfold maxLen at hm
    have each : ∀ i, i < len → ∃ y : α × List Value, (∀ j v, y.2[j]? = some v → w.cell? (ad.add (i * A.k + j)) = some v) ∧ A.At w y.2 y.1 ∧ y.2.length = A.k := by
      intro i hi
      obtain ⟨cs', h1, h2⟩ := hx i (by omega)
      rw [ce] at h1
      obtain ⟨_, hlen, hcell⟩ := World.cells?_some h1
      obtain ⟨y, hy⟩ := hA _ _ _ h2
      refine ⟨(y, cs'), fun j v hv => ?_, hy, by simpa using hlen⟩
      have hj := (List.getElem?_eq_some_iff.1 hv).1
      have := hcell j (by have h5 : cs'.length = A.k := hlen; have h6 : j < cs'.length := hj; omega)
      rw [add_add] at this
      rw [this]
      simpa using hv
    obtain ⟨y, hy⟩ := choose_lt each
    refine ⟨(List.range len).map fun i => (y i).1, some ad, len, _, rfl, by simp, by omega, ?_, fun h => by cases h⟩
    by_cases h0 : len = 0
    · left; simp [h0]
    · right
      obtain ⟨b, off, spot⟩ := ad
      obtain ⟨e1, _, e3⟩ := hy 0 (by omega)
      obtain ⟨v0, hv0⟩ : ∃ v0, (y 0).2[0]? = some v0 := ⟨_, List.getElem?_eq_getElem (by omega)⟩
      have hc0 := e1 0 v0 hv0
      have hspot : spot = none := by simpa [Addr.add] using World.cell?_spot hc0
      subst hspot
      refine ⟨b, off, rfl, fun i x hx' => ?_⟩
      have hi : i < len := by have := (List.getElem?_eq_some_iff.1 hx').1; simpa using this
      obtain ⟨k1, k2, _⟩ := hy i hi
      have hxe : (y i).1 = x := by simpa [hi] using hx'
      refine ⟨(y i).2, fun j v hv => ?_, hxe ▸ k2⟩
      have := k1 j v hv
      rw [Addr.add_lit] at this
      rw [Nat.add_assoc]; exact this

theorem Opens.struct2 {α β : Type} {A : Rep α} {B : Rep β} {t : TypeId} {f0 f1 : Field} (ht : P.underlying t = some (.struct #[f0, f1])) (hC : P.cellsOf t = 2) (o0 : f0.offset = 0) (o1 : f1.offset = 1)
    (c0 : P.cellsOf f0.type = 1) (c1 : P.cellsOf f1.type = 1) (h0 : Opens enc P w base held f0.type A) (h1 : Opens enc P w base held f1.type B) : Opens enc P w base held t (Rep.pair A B) := fun fuel cs x h => by
  obtain ⟨xs, n, _, rfl, hl, hlen, hf⟩ := DataW.trod_struct ht h
  match xs, hlen, cs, hl.trans hC with
  | [y0, y1], _, [v0, v1], _ =>
    have g0 := hf 0 f0 rfl
    have g1 := hf 1 f1 rfl
    simp [o0, o1, c0, c1] at g0 g1
    obtain ⟨x0, q0⟩ := h0 _ _ _ g0
    obtain ⟨x1, q1⟩ := h1 _ _ _ g1
    exact ⟨(x0, x1), [v0], [v1], rfl, q0, q1⟩

theorem Opens.struct3 {α β γ : Type} {A : Rep α} {B : Rep β} {C : Rep γ} {t : TypeId} {f0 f1 f2 : Field} (ht : P.underlying t = some (.struct #[f0, f1, f2])) (hC : P.cellsOf t = 3) (o0 : f0.offset = 0) (o1 : f1.offset = 1) (o2 : f2.offset = 2)
    (c0 : P.cellsOf f0.type = 1) (c1 : P.cellsOf f1.type = 1) (c2 : P.cellsOf f2.type = 1) (h0 : Opens enc P w base held f0.type A) (h1 : Opens enc P w base held f1.type B) (h2 : Opens enc P w base held f2.type C) : Opens enc P w base held t (Rep.pair A (Rep.pair B C)) := fun fuel cs x h => by
  obtain ⟨xs, n, _, rfl, hl, hlen, hf⟩ := DataW.trod_struct ht h
  match xs, hlen, cs, hl.trans hC with
  | [y0, y1, y2], _, [v0, v1, v2], _ =>
    have g0 := hf 0 f0 rfl
    have g1 := hf 1 f1 rfl
    have g2 := hf 2 f2 rfl
    simp [o0, o1, o2, c0, c1, c2] at g0 g1 g2
    obtain ⟨x0, q0⟩ := h0 _ _ _ g0
    obtain ⟨x1, q1⟩ := h1 _ _ _ g1
    obtain ⟨x2, q2⟩ := h2 _ _ _ g2
    exact ⟨(x0, x1, x2), [v0], _, rfl, q0, [v1], [v2], rfl, q1, q2⟩

theorem Opens.struct6 {α β γ δ ε ζ : Type} {A : Rep α} {B : Rep β} {C : Rep γ} {D : Rep δ} {E : Rep ε} {Z : Rep ζ} {t : TypeId} {f0 f1 f2 f3 f4 f5 : Field} (ht : P.underlying t = some (.struct #[f0, f1, f2, f3, f4, f5])) (hC : P.cellsOf t = 6)
    (o0 : f0.offset = 0) (o1 : f1.offset = 1) (o2 : f2.offset = 2) (o3 : f3.offset = 3) (o4 : f4.offset = 4) (o5 : f5.offset = 5)
    (c0 : P.cellsOf f0.type = 1) (c1 : P.cellsOf f1.type = 1) (c2 : P.cellsOf f2.type = 1) (c3 : P.cellsOf f3.type = 1) (c4 : P.cellsOf f4.type = 1) (c5 : P.cellsOf f5.type = 1)
    (h0 : Opens enc P w base held f0.type A) (h1 : Opens enc P w base held f1.type B) (h2 : Opens enc P w base held f2.type C) (h3 : Opens enc P w base held f3.type D) (h4 : Opens enc P w base held f4.type E) (h5 : Opens enc P w base held f5.type Z) :
    Opens enc P w base held t (Rep.pair A (Rep.pair B (Rep.pair C (Rep.pair D (Rep.pair E Z))))) := fun fuel cs x h => by
  obtain ⟨xs, n, _, rfl, hl, hlen, hf⟩ := DataW.trod_struct ht h
  match xs, hlen, cs, hl.trans hC with
  | [y0, y1, y2, y3, y4, y5], _, [v0, v1, v2, v3, v4, v5], _ =>
    have g0 := hf 0 f0 rfl
    have g1 := hf 1 f1 rfl
    have g2 := hf 2 f2 rfl
    have g3 := hf 3 f3 rfl
    have g4 := hf 4 f4 rfl
    have g5 := hf 5 f5 rfl
    simp [o0, o1, o2, o3, o4, o5, c0, c1, c2, c3, c4, c5] at g0 g1 g2 g3 g4 g5
    obtain ⟨x0, q0⟩ := h0 _ _ _ g0
    obtain ⟨x1, q1⟩ := h1 _ _ _ g1
    obtain ⟨x2, q2⟩ := h2 _ _ _ g2
    obtain ⟨x3, q3⟩ := h3 _ _ _ g3
    obtain ⟨x4, q4⟩ := h4 _ _ _ g4
    obtain ⟨x5, q5⟩ := h5 _ _ _ g5
    exact ⟨(x0, x1, x2, x3, x4, x5), [v0], _, rfl, q0, [v1], _, rfl, q1, [v2], _, rfl, q2, [v3], _, rfl, q3, [v4], [v5], rfl, q4, q5⟩

/-- A struct by value. -/
theorem open_struct {α : Type} {A : Rep α} {r : Reach} {b0 : Nat} {t : TypeId} {fs : Array Field} {v : Value} {d : DataW H} {p : List MemPlace} (hs : P.underlying t = some (.struct fs)) (hA : Opens enc P w base held t A) (hv : Value.okWide P w r b0 t v)
    (h : DataW.Trod enc P w base (fun _ => true) held t v d p) : ∃ cs x, v = .agg cs.toArray ∧ A.At w cs x := by
  obtain ⟨cs, rfl, _⟩ := okWide_struct hs hv
  obtain ⟨fuel, hf⟩ := h
  obtain ⟨x, hx⟩ := hA _ _ _ hf
  exact ⟨_, x, by simp [Value.cells], hx⟩
end

end Go.Proofs.YthiabjkjpjmahaaGreat

/- Opening a view among the laws' arguments. -/
namespace Go.Proofs.YthiabjkjpjmahaaGreat
open Go.ChangeShapes Go.WideShapes Go.ChangeAt Go.RowKit Go.Joins Go.Deep

set_option maxRecDepth 100000 in
theorem open_view {H : Type} {enc : TypeId × Value → H} {w : World} {base b0 : Nat} {held : Bool} {r : Reach} {v : Value} {d : DataW H} {p : List MemPlace} (hv : Value.okWide Tryz.prog w r b0 41 v) (h : DataW.Trod enc Tryz.prog w base (fun _ => true) held 41 v d p) :
    ∃ sa sn sc pa pn pc ss xs, v = .agg #[.slice sa sn sc, .slice pa pn pc] ∧ ss.length = sn ∧ sn ≤ 9223372036854775807 ∧ xs.length = pn ∧ pn ≤ 9223372036854775807 ∧ At w sa ss ∧ AtSl RPart w pa xs := by
  have oi : Opens enc Tryz.prog w base held 3 Rep.int := Opens.int Tryz.underlying3
  have ois : Opens enc Tryz.prog w base held 23 RInts := Opens.slice Tryz.underlying23 (by kernel_rfl) oi (by decide)
  have oss : Opens enc Tryz.prog w base held 72 RPairs := Opens.slice Tryz.underlying72 (by kernel_rfl) ois (by decide)
  have ot : Opens enc Tryz.prog w base held 216 RTest := Opens.struct3 Tryz.underlying216 (by kernel_rfl) rfl rfl rfl (by kernel_rfl) (by kernel_rfl) (by kernel_rfl) oi oi oi
  have ots : Opens enc Tryz.prog w base held 137 RTests := Opens.slice Tryz.underlying137 (by kernel_rfl) ot (by decide)
  have op : Opens enc Tryz.prog w base held 139 RPart := Opens.struct6 Tryz.underlying139 (by kernel_rfl) rfl rfl rfl rfl rfl rfl (by kernel_rfl) (by kernel_rfl) (by kernel_rfl) (by kernel_rfl) (by kernel_rfl) (by kernel_rfl) oi oi oi ots ois oss
  have ops : Opens enc Tryz.prog w base held 39 RParts := Opens.slice Tryz.underlying39 (by kernel_rfl) op (by decide)
  have ov : Opens enc Tryz.prog w base held 41 RView := Opens.struct2 Tryz.underlying41 (by kernel_rfl) rfl rfl (by kernel_rfl) (by kernel_rfl) ois ops
  obtain ⟨cs, ⟨ss, xs⟩, rfl, c1, c2, rfl, ⟨sa, sn, sc, rfl, h1, h2, h3, _⟩, ⟨pa, pn, pc, rfl, g1, g2, g3, _⟩⟩ := open_struct Tryz.underlying41 ov hv h
  exact ⟨sa, sn, sc, pa, pn, pc, ss, xs, rfl, h1, h2, g1, g2, atSl_int.1 h3, g3⟩

end Go.Proofs.YthiabjkjpjmahaaGreat
