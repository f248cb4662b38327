/- Opening statistics among the laws' arguments. -/
import Derived.Test.YteggbamjfhbmfaaOpenP
import Derived.Test.YteggbamjfhbmfaaSaG
namespace Go.Proofs.Yteggbamjfhbmfaa
open Go.ChangeShapes Go.WideShapes Go.ChangeAt Go.RowKit Go.Joins Go.Deep

section
variable {H : Type} {enc : TypeId × Value → H} {w : World} {base b0 : Nat} {held : Bool}
set_option maxRecDepth 100000 in
theorem opens_stats : Opens enc Try.prog w base held 50 RSta := by
  have oi : Opens enc Try.prog w base held 3 Rep.int := Opens.int Try.underlying3
  have ois : Opens enc Try.prog w base held 22 RInts := Opens.slice Try.underlying22 (by kernel_rfl) oi (by decide)
  have oa : Opens enc Try.prog w base held 48 RPairs := Opens.slice Try.underlying48 (by kernel_rfl) ois (by decide)
  exact Opens.struct2 Try.underlying50 (by kernel_rfl) rfl rfl (by kernel_rfl) (by kernel_rfl) ois oa

set_option maxRecDepth 100000 in
/-- A statistics by value. -/
theorem open_stats {r : Reach} {v : Value} {d : DataW H} {p : List MemPlace} (hv : Value.okWide Try.prog w r b0 50 v) (h : DataW.Trod enc Try.prog w base (fun _ => true) held 50 v d p) :
    ∃ (fa : Option Addr) (fn fc : Nat) (ta : Option Addr) (tn tc : Nat) (z : Sta), v = .agg #[.slice fa fn fc, .slice ta tn tc] ∧ RSta.At w [.slice fa fn fc, .slice ta tn tc] z := by
  obtain ⟨cs, x, rfl, hx⟩ := open_struct Try.underlying50 opens_stats hv h
  obtain ⟨fa, fn, fc, ta, tn, tc, rfl⟩ := RSta.at_open hx
  exact ⟨fa, fn, fc, ta, tn, tc, x, rfl, hx⟩
end

end Go.Proofs.Yteggbamjfhbmfaa
