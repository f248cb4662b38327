/- Opening dependencies among the laws' arguments. -/
import Derived.Test.YtkcfhlpdenjimaaDoorOpenP
import Derived.Test.YtkcfhlpdenjimaaDoorDepG
namespace Go.Proofs.YtkcfhlpdenjimaaDoor
open Go.ChangeShapes Go.WideShapes Go.ChangeAt Go.RowKit Go.Joins Go.Deep

section
variable {H : Type} {enc : TypeId × Value → H} {w : World} {base b0 : Nat} {held : Bool}
set_option maxRecDepth 100000 in
theorem opens_depend : Opens enc Tryd.prog w base held 36 RDep := by
  have oi : Opens enc Tryd.prog w base held 3 Rep.int := Opens.int Tryd.underlying3
  have ois : Opens enc Tryd.prog w base held 23 RInts := Opens.slice Tryd.underlying23 (by kernel_rfl) oi (by decide)
  exact Opens.struct2 Tryd.underlying36 (by kernel_rfl) rfl rfl (by kernel_rfl) (by kernel_rfl) ois ois

set_option maxRecDepth 100000 in
theorem open_depends {fuel n c : Nat} {a : Option Addr} {x : DataW H × List MemPlace} (h : DataW.trod enc Tryd.prog w base (fun _ => true) held fuel 22 [.slice a n c] = some x) : ∃ zs : List Dep, zs.length = n ∧ n ≤ 9223372036854775807 ∧ AtD w a zs := by
  have od : Opens enc Tryd.prog w base held 22 RDeps := Opens.slice Tryd.underlying22 (by kernel_rfl) opens_depend (by decide)
  obtain ⟨y, a', n', c', e, h1, h2, h3, _⟩ := od _ _ _ h
  simp only [List.cons.injEq, Value.slice.injEq, and_true] at e
  obtain ⟨rfl, rfl, rfl⟩ := e
  exact ⟨y, h1, h2, h3⟩

set_option maxRecDepth 100000 in
/-- A dependency by value. -/
theorem open_depend {r : Reach} {v : Value} {d : DataW H} {p : List MemPlace} (hv : Value.okWide Tryd.prog w r b0 36 v) (h : DataW.Trod enc Tryd.prog w base (fun _ => true) held 36 v d p) :
    ∃ (fa : Option Addr) (fn fc : Nat) (ta : Option Addr) (tn tc : Nat) (z : Dep), v = .agg #[.slice fa fn fc, .slice ta tn tc] ∧ RDep.At w [.slice fa fn fc, .slice ta tn tc] z := by
  obtain ⟨cs, x, rfl, hx⟩ := open_struct Tryd.underlying36 opens_depend hv h
  obtain ⟨fa, fn, fc, ta, tn, tc, rfl, _⟩ := RDep.at_open hx
  exact ⟨fa, fn, fc, ta, tn, tc, x, rfl, hx⟩
end

end Go.Proofs.YtkcfhlpdenjimaaDoor
