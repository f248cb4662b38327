/- What the laws over dependencies lean on. -/
import Derived.Test.YtkcfhlpdenjimaaDoorLawD
import Derived.Test.YtkcfhlpdenjimaaDoorIntsR
namespace Go.Proofs.YtkcfhlpdenjimaaDoor
open Go.RowKit

theorem deps_at {w : World} {F : Nat → Prop} {a : Option Addr} {n c : Nat} {xs : List Dep} (h : RDeps.Own w F [.slice a n c] xs) : AtD w a xs := by
  obtain ⟨a', n', c', e, _, _, h3, _⟩ := RDeps.toAt h
  simp only [List.cons.injEq, Value.slice.injEq, and_true] at e
  obtain ⟨rfl, rfl, rfl⟩ := e
  exact h3
theorem dep_at {w : World} {F : Nat → Prop} {fa : Option Addr} {fn fc : Nat} {ta : Option Addr} {tn tc : Nat} {fs ts : List Int} (h : RDep.Own w F [.slice fa fn fc, .slice ta tn tc] (fs, ts)) : At w fa fs ∧ At w ta ts := by
  obtain ⟨⟨_, _, h3, _⟩, ⟨_, _, k3, _⟩⟩ := RDep.at_iff (RDep.toAt h)
  exact ⟨h3, k3⟩

end Go.Proofs.YtkcfhlpdenjimaaDoor
