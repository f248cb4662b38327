/- Opening tableaus among the laws' arguments. -/
import Derived.Test.YthliamoeplgblaaOpenP
import Derived.Test.YthliamoeplgblaaTbG
namespace Go.Proofs.Ythliamoeplgblaa
open Go.ChangeShapes Go.WideShapes Go.ChangeAt Go.RowKit Go.Joins Go.Deep

section
variable {H : Type} {enc : TypeId × Value → H} {P : Program} {w : World} {base b0 : Nat} {held : Bool}
theorem Opens.struct1 {α : Type} {A : Rep α} {t : TypeId} {f0 : Field} (ht : P.underlying t = some (.struct #[f0])) (hC : P.cellsOf t = 1) (o0 : f0.offset = 0)
    (c0 : P.cellsOf f0.type = 1) (h0 : Opens enc P w base held f0.type A) : Opens enc P w base held t A := fun fuel cs x h => by
  obtain ⟨xs, n, _, rfl, hl, hlen, hf⟩ := DataW.trod_struct ht h
  match xs, hlen, cs, hl.trans hC with
  | [y0], _, [v0], _ =>
    have g0 := hf 0 f0 rfl
    simp [o0, c0] at g0
    exact h0 _ _ _ g0

set_option maxRecDepth 100000 in
theorem opens_tableau : Opens enc Try.prog w base held 24 RTbl := by
  have oi : Opens enc Try.prog w base held 3 Rep.int := Opens.int Try.underlying3
  have ois : Opens enc Try.prog w base held 54 RInts := Opens.slice Try.underlying54 (by kernel_rfl) oi (by decide)
  have orow : Opens enc Try.prog w base held 94 RInts := Opens.struct1 Try.underlying94 (by kernel_rfl) rfl (by kernel_rfl) ois
  have ors : Opens enc Try.prog w base held 22 RRows := Opens.slice Try.underlying22 (by kernel_rfl) orow (by decide)
  exact Opens.struct2 Try.underlying24 (by kernel_rfl) rfl rfl (by kernel_rfl) (by kernel_rfl) oi ors

set_option maxRecDepth 100000 in
/-- A tableau by value. -/
theorem open_tableau {r : Reach} {v : Value} {d : DataW H} {p : List MemPlace} (hv : Value.okWide Try.prog w r b0 24 v) (h : DataW.Trod enc Try.prog w base (fun _ => true) held 24 v d p) :
    ∃ (q : Int) (a : Option Addr) (n c : Nat) (zss : List (List Int)), v = .agg #[.int .i64 q, .slice a n c] ∧ zss.length = n ∧ n ≤ 9223372036854775807 ∧ AtS w a zss := by
  obtain ⟨cs, x, rfl, hx⟩ := open_struct Try.underlying24 opens_tableau hv h
  obtain ⟨c1, c2, rfl, h1, a, n, c, rfl, _⟩ := id hx
  obtain rfl : c1 = [.int .i64 x.1] := h1
  obtain ⟨_, h2, h3, h4, _⟩ := RTbl.at_iff (p := x.1) (a := a) (n := n) (c := c) (x := x) hx
  exact ⟨x.1, a, n, c, x.2, rfl, h2, h3, h4⟩
end

end Go.Proofs.Ythliamoeplgblaa
