/- Opening slices of Step among the laws' arguments. -/
import Derived.Test.YtociphdhkjoofaaDoorOpenP
import Derived.Test.YtociphdhkjoofaaDoorSrF
namespace Go.Proofs.YtociphdhkjoofaaDoor
open Go.ChangeShapes Go.WideShapes Go.ChangeAt Go.RowKit Go.Joins Go.Deep

section
variable {H : Type} {enc : TypeId × Value → H} {w : World} {base : Nat} {held : Bool}
set_option maxRecDepth 100000 in
theorem opens_Step : Opens enc Tryd.prog w base held 48 RStep := fun fuel cs x h => by
  have oi : Opens enc Tryd.prog w base held 3 Rep.int := Opens.int Tryd.underlying3
  obtain ⟨y, c1, c0, rfl, h1, c2, c3, rfl, h2, h3⟩ := (Opens.struct3 Tryd.underlying48 (by kernel_rfl) rfl rfl rfl (by kernel_rfl) (by kernel_rfl) (by kernel_rfl) oi oi oi) fuel cs x h
  refine ⟨y, ?_⟩
  have e1 : c1 = [.int .i64 y.1] := h1
  subst e1
  have e2 : c2 = [.int .i64 y.2.1] := h2
  subst e2
  have e3 : c3 = [.int .i64 y.2.2] := h3
  subst e3
  rfl

set_option maxRecDepth 100000 in
theorem open_Steps {fuel n c : Nat} {a : Option Addr} {x : DataW H × List MemPlace} (h : DataW.trod enc Tryd.prog w base (fun _ => true) held fuel 22 [.slice a n c] = some x) : ∃ zs : List TStep, zs.length = n ∧ n ≤ 9223372036854775807 ∧ At w a (flStep zs) := by
  have od : Opens enc Tryd.prog w base held 22 RSteps := Opens.slice Tryd.underlying22 (by kernel_rfl) opens_Step (by decide)
  obtain ⟨y, a', n', c', e, h1, h2, h3, _⟩ := od _ _ _ h
  simp only [List.cons.injEq, Value.slice.injEq, and_true] at e
  obtain ⟨rfl, rfl, rfl⟩ := e
  exact ⟨y, h1, h2, flat_atSl (by omega) h3⟩
end

end Go.Proofs.YtociphdhkjoofaaDoor
