/- Opening queries among the laws' arguments. -/
import Derived.Test.YtipgepienagplaaOpenP
import Derived.Test.YtipgepienagplaaQrG
namespace Go.Proofs.Ytipgepienagplaa
open Go.ChangeShapes Go.WideShapes Go.ChangeAt Go.RowKit Go.Joins Go.Deep

section
variable {H : Type} {enc : TypeId × Value → H} {w : World} {base b0 : Nat} {held : Bool}
set_option maxRecDepth 100000 in
theorem opens_atom : Opens enc Try.prog w base held 116 RAtm := by
  have oi : Opens enc Try.prog w base held 3 Rep.int := Opens.int Try.underlying3
  have ois : Opens enc Try.prog w base held 22 RInts := Opens.slice Try.underlying22 (by kernel_rfl) oi (by decide)
  exact Opens.struct2 Try.underlying116 (by kernel_rfl) rfl rfl (by kernel_rfl) (by kernel_rfl) oi ois

set_option maxRecDepth 100000 in
theorem opens_query : Opens enc Try.prog w base held 25 RQry := by
  have oi : Opens enc Try.prog w base held 3 Rep.int := Opens.int Try.underlying3
  have ois : Opens enc Try.prog w base held 22 RInts := Opens.slice Try.underlying22 (by kernel_rfl) oi (by decide)
  have oa : Opens enc Try.prog w base held 23 RAtms := Opens.slice Try.underlying23 (by kernel_rfl) opens_atom (by decide)
  exact Opens.struct2 Try.underlying25 (by kernel_rfl) rfl rfl (by kernel_rfl) (by kernel_rfl) ois oa

set_option maxRecDepth 100000 in
/-- A query by value. -/
theorem open_query {r : Reach} {v : Value} {d : DataW H} {p : List MemPlace} (hv : Value.okWide Try.prog w r b0 25 v) (h : DataW.Trod enc Try.prog w base (fun _ => true) held 25 v d p) :
    ∃ (fa : Option Addr) (fn fc : Nat) (ta : Option Addr) (tn tc : Nat) (z : Qry), v = .agg #[.slice fa fn fc, .slice ta tn tc] ∧ RQry.At w [.slice fa fn fc, .slice ta tn tc] z := by
  obtain ⟨cs, x, rfl, hx⟩ := open_struct Try.underlying25 opens_query hv h
  obtain ⟨fa, fn, fc, ta, tn, tc, rfl⟩ := RQry.at_open hx
  exact ⟨fa, fn, fc, ta, tn, tc, x, rfl, hx⟩
end

end Go.Proofs.Ytipgepienagplaa
