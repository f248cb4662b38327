/- Opening Snap among the laws' arguments. -/
import Derived.Test.YthfndafgllcelaaOpenP
import Derived.Test.YthfndafgllcelaaOpB
import Derived.Test.YthfndafgllcelaaSnpG
import Derived.Test.YthfndafgllcelaaOpPr
import Derived.Test.YthfndafgllcelaaOpWi
namespace Go.Proofs.Ythfndafgllcelaa
open Go.ChangeShapes Go.WideShapes Go.ChangeAt Go.RowKit Go.Joins Go.Deep

section
variable {H : Type} {enc : TypeId × Value → H} {w : World} {base b0 : Nat} {held : Bool}
theorem Opens.structCSnap {P : Program} {α0 α1 : Type} {A0 : Rep α0} {A1 : Rep α1} {t : TypeId} {f0 f1 : Field} (ht : P.underlying t = some (.struct #[f0, f1])) (hC : P.cellsOf t = 2)
    (o0 : f0.offset = 0) (o1 : f1.offset = 1)
    (c0 : P.cellsOf f0.type = 1) (c1 : P.cellsOf f1.type = 1)
    (h0 : Opens enc P w base held f0.type A0) (h1 : Opens enc P w base held f1.type A1) :
    Opens enc P w base held t (Rep.pair A0 (A1)) := fun fuel cs x h => by
  obtain ⟨xs, n, _, rfl, hl, hlen, hf⟩ := DataW.trod_struct ht h
  match xs, hlen, cs, hl.trans hC with
  | [y0, y1], _, [v0, v1], _ =>
    have g0 := hf 0 f0 rfl
    have g1 := hf 1 f1 rfl
    simp [o0, c0, o1, c1] at g0 g1
    obtain ⟨x0, q0⟩ := h0 _ _ _ g0
    obtain ⟨x1, q1⟩ := h1 _ _ _ g1
    exact ⟨(x0, x1), [v0], [v1], rfl, q0, q1⟩

set_option maxRecDepth 100000 in
theorem opens_Snap : Opens enc Try.prog w base held 38 RSnap := by
  have os0 : Opens enc Try.prog w base held 35 RProcs := Opens.slice Try.underlying35 (by kernel_rfl) opens_Proc (by decide)
  have os1 : Opens enc Try.prog w base held 36 RWires := Opens.slice Try.underlying36 (by kernel_rfl) opens_Wire (by decide)
  exact Opens.structCSnap Try.underlying38 (by kernel_rfl) rfl rfl (by kernel_rfl) (by kernel_rfl) os0 os1

set_option maxRecDepth 100000 in
theorem open_Snap {r : Reach} {v : Value} {d : DataW H} {p : List MemPlace} (hv : Value.okWide Try.prog w r b0 38 v) (h : DataW.Trod enc Try.prog w base (fun _ => true) held 38 v d p) :
    ∃ (a0 : Option Addr) (n0 : Nat) (c0 : Nat) (a1 : Option Addr) (n1 : Nat) (c1 : Nat)  (x0 : List TProc) (x1 : List TWire), v = .agg #[.slice a0 n0 c0, .slice a1 n1 c1] ∧ RSnap.At w [.slice a0 n0 c0, .slice a1 n1 c1] (x0, x1) := by
  obtain ⟨cs, ⟨x0, x1⟩, rfl, hx⟩ := open_struct Try.underlying38 opens_Snap hv h
  obtain ⟨a0, n0, c0, a1, n1, c1, rfl, _⟩ := RSnap.at_open hx
  exact ⟨a0, n0, c0, a1, n1, c1, x0, x1, rfl, hx⟩
end

end Go.Proofs.Ythfndafgllcelaa
