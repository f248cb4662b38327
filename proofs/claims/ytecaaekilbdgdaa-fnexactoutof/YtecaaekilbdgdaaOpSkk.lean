/- Opening Sink among the laws' arguments. -/
import Derived.Test.YtecaaekilbdgdaaOpenP
import Derived.Test.YtecaaekilbdgdaaOpB
import Derived.Test.YtecaaekilbdgdaaSkkG
import Derived.Test.YtecaaekilbdgdaaOpPp
namespace Go.Proofs.Ytecaaekilbdgdaa
open Go.ChangeShapes Go.WideShapes Go.ChangeAt Go.RowKit Go.Joins Go.Deep

section
variable {H : Type} {enc : TypeId × Value → H} {w : World} {base b0 : Nat} {held : Bool}
theorem Opens.structCSink {P : Program} {α0 α1 α2 α3 α4 α5 α6 : Type} {A0 : Rep α0} {A1 : Rep α1} {A2 : Rep α2} {A3 : Rep α3} {A4 : Rep α4} {A5 : Rep α5} {A6 : Rep α6} {t : TypeId} {f0 f1 f2 f3 f4 f5 f6 : Field} (ht : P.underlying t = some (.struct #[f0, f1, f2, f3, f4, f5, f6])) (hC : P.cellsOf t = 7)
    (o0 : f0.offset = 0) (o1 : f1.offset = 1) (o2 : f2.offset = 2) (o3 : f3.offset = 3) (o4 : f4.offset = 4) (o5 : f5.offset = 5) (o6 : f6.offset = 6)
    (c0 : P.cellsOf f0.type = 1) (c1 : P.cellsOf f1.type = 1) (c2 : P.cellsOf f2.type = 1) (c3 : P.cellsOf f3.type = 1) (c4 : P.cellsOf f4.type = 1) (c5 : P.cellsOf f5.type = 1) (c6 : P.cellsOf f6.type = 1)
    (h0 : Opens enc P w base held f0.type A0) (h1 : Opens enc P w base held f1.type A1) (h2 : Opens enc P w base held f2.type A2) (h3 : Opens enc P w base held f3.type A3) (h4 : Opens enc P w base held f4.type A4) (h5 : Opens enc P w base held f5.type A5) (h6 : Opens enc P w base held f6.type A6) :
    Opens enc P w base held t (Rep.pair A0 (Rep.pair A1 (Rep.pair A2 (Rep.pair A3 (Rep.pair A4 (Rep.pair A5 (A6))))))) := fun fuel cs x h => by
  obtain ⟨xs, n, _, rfl, hl, hlen, hf⟩ := DataW.trod_struct ht h
  match xs, hlen, cs, hl.trans hC with
  | [y0, y1, y2, y3, y4, y5, y6], _, [v0, v1, v2, v3, v4, v5, v6], _ =>
    have g0 := hf 0 f0 rfl
    have g1 := hf 1 f1 rfl
    have g2 := hf 2 f2 rfl
    have g3 := hf 3 f3 rfl
    have g4 := hf 4 f4 rfl
    have g5 := hf 5 f5 rfl
    have g6 := hf 6 f6 rfl
    simp [o0, c0, o1, c1, o2, c2, o3, c3, o4, c4, o5, c5, o6, c6] at g0 g1 g2 g3 g4 g5 g6
    obtain ⟨x0, q0⟩ := h0 _ _ _ g0
    obtain ⟨x1, q1⟩ := h1 _ _ _ g1
    obtain ⟨x2, q2⟩ := h2 _ _ _ g2
    obtain ⟨x3, q3⟩ := h3 _ _ _ g3
    obtain ⟨x4, q4⟩ := h4 _ _ _ g4
    obtain ⟨x5, q5⟩ := h5 _ _ _ g5
    obtain ⟨x6, q6⟩ := h6 _ _ _ g6
    exact ⟨(x0, x1, x2, x3, x4, x5, x6), [v0], _, rfl, q0, [v1], _, rfl, q1, [v2], _, rfl, q2, [v3], _, rfl, q3, [v4], _, rfl, q4, [v5], [v6], rfl, q5, q6⟩

set_option maxRecDepth 100000 in
theorem opens_Sink : Opens enc Try.prog w base held 36 RSink := by
  have oi : Opens enc Try.prog w base held 3 Rep.int := Opens.int Try.underlying3
  have ois : Opens enc Try.prog w base held 22 RInts := Opens.slice Try.underlying22 (by kernel_rfl) oi (by decide)
  have os3 : Opens enc Try.prog w base held 34 RPrepareds := Opens.slice Try.underlying34 (by kernel_rfl) opens_Prepared (by decide)
  exact Opens.structCSink Try.underlying36 (by kernel_rfl) rfl rfl rfl rfl rfl rfl rfl (by kernel_rfl) (by kernel_rfl) (by kernel_rfl) (by kernel_rfl) (by kernel_rfl) (by kernel_rfl) (by kernel_rfl) ois oi ois os3 ois oi oi

set_option maxRecDepth 100000 in
theorem open_Sink {r : Reach} {v : Value} {d : DataW H} {p : List MemPlace} (hv : Value.okWide Try.prog w r b0 36 v) (h : DataW.Trod enc Try.prog w base (fun _ => true) held 36 v d p) :
    ∃ (a0 : Option Addr) (n0 : Nat) (c0 : Nat) (a2 : Option Addr) (n2 : Nat) (c2 : Nat) (a3 : Option Addr) (n3 : Nat) (c3 : Nat) (a4 : Option Addr) (n4 : Nat) (c4 : Nat) (zi1 : Int) (zi5 : Int) (zi6 : Int) (x0 : List Int) (x2 : List Int) (x3 : List TPrepared) (x4 : List Int), v = .agg #[.slice a0 n0 c0, .int .i64 zi1, .slice a2 n2 c2, .slice a3 n3 c3, .slice a4 n4 c4, .int .i64 zi5, .int .i64 zi6] ∧ RSink.At w [.slice a0 n0 c0, .int .i64 zi1, .slice a2 n2 c2, .slice a3 n3 c3, .slice a4 n4 c4, .int .i64 zi5, .int .i64 zi6] (x0, zi1, x2, x3, x4, zi5, zi6) := by
  obtain ⟨cs, ⟨x0, zi1, x2, x3, x4, zi5, zi6⟩, rfl, hx⟩ := open_struct Try.underlying36 opens_Sink hv h
  obtain ⟨a0, n0, c0, a2, n2, c2, a3, n3, c3, a4, n4, c4, rfl, _⟩ := RSink.at_open hx
  exact ⟨a0, n0, c0, a2, n2, c2, a3, n3, c3, a4, n4, c4, zi1, zi5, zi6, x0, x2, x3, x4, rfl, hx⟩
end

end Go.Proofs.Ytecaaekilbdgdaa
