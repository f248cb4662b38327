/- Opening Locks among the laws' arguments. -/
import Derived.Test.YtjjebodlekepaaaDoorM15
import Derived.Test.YtjjebodlekepaaaDoorM4
namespace Go.Proofs.YtjjebodlekepaaaDoor
open Go.ChangeShapes Go.WideShapes Go.ChangeAt Go.RowKit Go.Joins Go.Deep

section
variable {H : Type} {enc : TypeId × Value → H} {w : World} {base b0 : Nat} {held : Bool}
theorem Opens.struct5 {P : Program} {α0 α1 α2 α3 α4 : Type} {A0 : Rep α0} {A1 : Rep α1} {A2 : Rep α2} {A3 : Rep α3} {A4 : Rep α4} {t : TypeId} {f0 f1 f2 f3 f4 : Field} (ht : P.underlying t = some (.struct #[f0, f1, f2, f3, f4])) (hC : P.cellsOf t = 5)
    (o0 : f0.offset = 0) (o1 : f1.offset = 1) (o2 : f2.offset = 2) (o3 : f3.offset = 3) (o4 : f4.offset = 4)
    (c0 : P.cellsOf f0.type = 1) (c1 : P.cellsOf f1.type = 1) (c2 : P.cellsOf f2.type = 1) (c3 : P.cellsOf f3.type = 1) (c4 : P.cellsOf f4.type = 1)
    (h0 : Opens enc P w base held f0.type A0) (h1 : Opens enc P w base held f1.type A1) (h2 : Opens enc P w base held f2.type A2) (h3 : Opens enc P w base held f3.type A3) (h4 : Opens enc P w base held f4.type A4) :
    Opens enc P w base held t (Rep.pair A0 (Rep.pair A1 (Rep.pair A2 (Rep.pair A3 (A4))))) := fun fuel cs x h => by
  obtain ⟨xs, n, _, rfl, hl, hlen, hf⟩ := DataW.trod_struct ht h
  match xs, hlen, cs, hl.trans hC with
  | [y0, y1, y2, y3, y4], _, [v0, v1, v2, v3, v4], _ =>
    have g0 := hf 0 f0 rfl
    have g1 := hf 1 f1 rfl
    have g2 := hf 2 f2 rfl
    have g3 := hf 3 f3 rfl
    have g4 := hf 4 f4 rfl
    simp [o0, c0, o1, c1, o2, c2, o3, c3, o4, c4] at g0 g1 g2 g3 g4
    obtain ⟨x0, q0⟩ := h0 _ _ _ g0
    obtain ⟨x1, q1⟩ := h1 _ _ _ g1
    obtain ⟨x2, q2⟩ := h2 _ _ _ g2
    obtain ⟨x3, q3⟩ := h3 _ _ _ g3
    obtain ⟨x4, q4⟩ := h4 _ _ _ g4
    exact ⟨(x0, x1, x2, x3, x4), [v0], _, rfl, q0, [v1], _, rfl, q1, [v2], _, rfl, q2, [v3], [v4], rfl, q3, q4⟩

set_option maxRecDepth 100000 in
theorem opens_Locks : Opens enc Tryd.prog w base held 25 RLks := by
  have oi : Opens enc Tryd.prog w base held 3 Rep.int := Opens.int Tryd.underlying3
  have oa0 : Opens enc Tryd.prog w base held 22 RSteps := Opens.slice Tryd.underlying22 (by kernel_rfl) opens_Step (by decide)
  have oa1 : Opens enc Tryd.prog w base held 22 RSteps := Opens.slice Tryd.underlying22 (by kernel_rfl) opens_Step (by decide)
  have oa2 : Opens enc Tryd.prog w base held 22 RSteps := Opens.slice Tryd.underlying22 (by kernel_rfl) opens_Step (by decide)
  have oa3 : Opens enc Tryd.prog w base held 23 RInts := Opens.slice Tryd.underlying23 (by kernel_rfl) oi (by decide)
  have oa4 : Opens enc Tryd.prog w base held 23 RInts := Opens.slice Tryd.underlying23 (by kernel_rfl) oi (by decide)
  exact Opens.struct5 Tryd.underlying25 (by kernel_rfl) rfl rfl rfl rfl rfl (by kernel_rfl) (by kernel_rfl) (by kernel_rfl) (by kernel_rfl) (by kernel_rfl) oa0 oa1 oa2 oa3 oa4

set_option maxRecDepth 100000 in
theorem open_Locks {r : Reach} {v : Value} {d : DataW H} {p : List MemPlace} (hv : Value.okWide Tryd.prog w r b0 25 v) (h : DataW.Trod enc Tryd.prog w base (fun _ => true) held 25 v d p) :
    ∃ (a0 : Option Addr) (n0 c0 : Nat) (a1 : Option Addr) (n1 c1 : Nat) (a2 : Option Addr) (n2 c2 : Nat) (a3 : Option Addr) (n3 c3 : Nat) (a4 : Option Addr) (n4 c4 : Nat) (z : TLk), v = .agg #[.slice a0 n0 c0, .slice a1 n1 c1, .slice a2 n2 c2, .slice a3 n3 c3, .slice a4 n4 c4] ∧ RLks.At w [.slice a0 n0 c0, .slice a1 n1 c1, .slice a2 n2 c2, .slice a3 n3 c3, .slice a4 n4 c4] z := by
  obtain ⟨cs, x, rfl, hx⟩ := open_struct Tryd.underlying25 opens_Locks hv h
  obtain ⟨a0, n0, c0, a1, n1, c1, a2, n2, c2, a3, n3, c3, a4, n4, c4, rfl⟩ := RLks.at_open hx
  exact ⟨a0, n0, c0, a1, n1, c1, a2, n2, c2, a3, n3, c3, a4, n4, c4, x, rfl, hx⟩
end

end Go.Proofs.YtjjebodlekepaaaDoor
