/- Opening Prepared among the laws' arguments. -/
import Derived.Test.YtecaaekilbdgdaaOpenP
import Derived.Test.YtecaaekilbdgdaaOpB
import Derived.Test.YtecaaekilbdgdaaPpG
namespace Go.Proofs.Ytecaaekilbdgdaa
open Go.ChangeShapes Go.WideShapes Go.ChangeAt Go.RowKit Go.Joins Go.Deep

section
variable {H : Type} {enc : TypeId × Value → H} {w : World} {base b0 : Nat} {held : Bool}
theorem Opens.structCPrepared {P : Program} {α0 α1 α2 : Type} {A0 : Rep α0} {A1 : Rep α1} {A2 : Rep α2} {t : TypeId} {f0 f1 f2 : Field} (ht : P.underlying t = some (.struct #[f0, f1, f2])) (hC : P.cellsOf t = 3)
    (o0 : f0.offset = 0) (o1 : f1.offset = 1) (o2 : f2.offset = 2)
    (c0 : P.cellsOf f0.type = 1) (c1 : P.cellsOf f1.type = 1) (c2 : P.cellsOf f2.type = 1)
    (h0 : Opens enc P w base held f0.type A0) (h1 : Opens enc P w base held f1.type A1) (h2 : Opens enc P w base held f2.type A2) :
    Opens enc P w base held t (Rep.pair A0 (Rep.pair A1 (A2))) := fun fuel cs x h => by
  obtain ⟨xs, n, _, rfl, hl, hlen, hf⟩ := DataW.trod_struct ht h
  match xs, hlen, cs, hl.trans hC with
  | [y0, y1, y2], _, [v0, v1, v2], _ =>
    have g0 := hf 0 f0 rfl
    have g1 := hf 1 f1 rfl
    have g2 := hf 2 f2 rfl
    simp [o0, c0, o1, c1, o2, c2] at g0 g1 g2
    obtain ⟨x0, q0⟩ := h0 _ _ _ g0
    obtain ⟨x1, q1⟩ := h1 _ _ _ g1
    obtain ⟨x2, q2⟩ := h2 _ _ _ g2
    exact ⟨(x0, x1, x2), [v0], _, rfl, q0, [v1], [v2], rfl, q1, q2⟩

set_option maxRecDepth 100000 in
theorem opens_Prepared : Opens enc Try.prog w base held 63 RPrepared := by
  have oi : Opens enc Try.prog w base held 3 Rep.int := Opens.int Try.underlying3
  have ois : Opens enc Try.prog w base held 22 RInts := Opens.slice Try.underlying22 (by kernel_rfl) oi (by decide)
  exact Opens.structCPrepared Try.underlying63 (by kernel_rfl) rfl rfl rfl (by kernel_rfl) (by kernel_rfl) (by kernel_rfl) oi oi ois
end

end Go.Proofs.Ytecaaekilbdgdaa
