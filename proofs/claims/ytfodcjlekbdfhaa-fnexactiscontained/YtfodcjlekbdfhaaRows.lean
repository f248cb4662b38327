/-
  No cell of these rows narrows 'for every input' (looked for: loops, veiled, ifaces, maps, wideKeys, modest, calm, conditions, laid).
  DERIVED. THE GIVEN ROWS OF THIS SEAT. 4 by the template 'for every input the law returns true; each argument reads behind the call as it read before'; 0 by the template 'total and deterministic' (their statements: YtfodcjlekbdfhaaTotals.lean).
  GIVEN WITH THE SEED: the statements are not yours to turn. If you find one false, say at which input.
  Laid BY PROGRAM, IN A SANDBOX (cutbox-rows.mjs): the forced cells as the released guide's own fill.sh prints them over the translation 865118e523b15b79… (all of the seat's roots in one cut). By AI agents, Wed Nov 11 2026. No macro, syntax, notation, axiom, sorry.
-/
import Derived.Test.YtfodcjlekbdfhaaChecked
import GoSem.Claim
import GoSem.ClaimJoined
import GoSem.ClaimMapViews
import Derived.JoinedTies
import Derived.KernelRfl
namespace Go.Proofs.Ytfodcjlekbdfhaa
/- THE CELL 'sum', in the pinned program and in every row, IS THE sha256 OF THE DUMP (.gsa) THAT YtfodcjlekbdfhaaProg.lean LOADS. Nothing in Lean hashes anything: it is a label: what it is worth is what the hold of that sum in a sandbox is worth. -/
noncomputable def Try.pinned : Pinned := { name := "ytfodcjlekbdfhaa", sum := "865118e523b15b7945a66e0188a7eef4a89533a9b4db851234dea2465e951889", checked := Try.checked }
namespace Rows
def none {H : Type} : Left H := { results := [], args := [] }

/-- 'laws.FnExactGoodQuery': WHATEVER THE INPUT: true; the input reads as it did. -/
def fnExactGoodQuerySpec : ChangeSpec := { name := "fnExactGoodQuery", fn := fun _ => fun
  | [d1, d2] => { results := [.lit (.bool true)], args := [d1, d2] }
  | _ => none }
def fnExactGoodQueryRow : OpenClaim := { program := "ytfodcjlekbdfhaa", sum := "865118e523b15b7945a66e0188a7eef4a89533a9b4db851234dea2465e951889", func := "loop.example/g00305/laws.FnExactGoodQuery", spec := "fnExactGoodQuery", unfollowed := true, recurses := true, plainKeys := false, apart := false }
def FnExactGoodQuerySaid : Prop := fnExactGoodQueryRow.holds Try.pinned (OpenSpec.ofChange fnExactGoodQuerySpec)

/-- ITS FALSE NEIGHBOUR: 'it returns false'. Refute it at one input. -/
def fnExactGoodQueryWrong : ChangeSpec := { name := "fnExactGoodQuery", fn := fun _ => fun
  | [d1, d2] => { results := [.lit (.bool false)], args := [d1, d2] }
  | _ => none }
def FnExactGoodQueryWrongFalsely : Prop := fnExactGoodQueryRow.holds Try.pinned (OpenSpec.ofChange fnExactGoodQueryWrong)

/-- 'laws.FnExactIsContained': WHATEVER THE INPUT: true; the input reads as it did. -/
def fnExactIsContainedSpec : ChangeSpec := { name := "fnExactIsContained", fn := fun _ => fun
  | [d1, d2, d3] => { results := [.lit (.bool true)], args := [d1, d2, d3] }
  | _ => none }
def fnExactIsContainedRow : OpenClaim := { program := "ytfodcjlekbdfhaa", sum := "865118e523b15b7945a66e0188a7eef4a89533a9b4db851234dea2465e951889", func := "loop.example/g00305/laws.FnExactIsContained", spec := "fnExactIsContained", unfollowed := true, recurses := true, plainKeys := false, apart := false }
def FnExactIsContainedSaid : Prop := fnExactIsContainedRow.holds Try.pinned (OpenSpec.ofChange fnExactIsContainedSpec)

/-- ITS FALSE NEIGHBOUR: 'it returns false'. Refute it at one input. -/
def fnExactIsContainedWrong : ChangeSpec := { name := "fnExactIsContained", fn := fun _ => fun
  | [d1, d2, d3] => { results := [.lit (.bool false)], args := [d1, d2, d3] }
  | _ => none }
def FnExactIsContainedWrongFalsely : Prop := fnExactIsContainedRow.holds Try.pinned (OpenSpec.ofChange fnExactIsContainedWrong)

/-- 'laws.FnExactCanonicalOf': WHATEVER THE INPUT: true; the input reads as it did. -/
def fnExactCanonicalOfSpec : ChangeSpec := { name := "fnExactCanonicalOf", fn := fun _ => fun
  | [d1, d2] => { results := [.lit (.bool true)], args := [d1, d2] }
  | _ => none }
def fnExactCanonicalOfRow : OpenClaim := { program := "ytfodcjlekbdfhaa", sum := "865118e523b15b7945a66e0188a7eef4a89533a9b4db851234dea2465e951889", func := "loop.example/g00305/laws.FnExactCanonicalOf", spec := "fnExactCanonicalOf", unfollowed := true, recurses := true, plainKeys := false, apart := false }
def FnExactCanonicalOfSaid : Prop := fnExactCanonicalOfRow.holds Try.pinned (OpenSpec.ofChange fnExactCanonicalOfSpec)

/-- ITS FALSE NEIGHBOUR: 'it returns false'. Refute it at one input. -/
def fnExactCanonicalOfWrong : ChangeSpec := { name := "fnExactCanonicalOf", fn := fun _ => fun
  | [d1, d2] => { results := [.lit (.bool false)], args := [d1, d2] }
  | _ => none }
def FnExactCanonicalOfWrongFalsely : Prop := fnExactCanonicalOfRow.holds Try.pinned (OpenSpec.ofChange fnExactCanonicalOfWrong)

/-- 'laws.FnExactCoreOf': WHATEVER THE INPUT: true; the input reads as it did. -/
def fnExactCoreOfSpec : ChangeSpec := { name := "fnExactCoreOf", fn := fun _ => fun
  | [d1, d2] => { results := [.lit (.bool true)], args := [d1, d2] }
  | _ => none }
def fnExactCoreOfRow : OpenClaim := { program := "ytfodcjlekbdfhaa", sum := "865118e523b15b7945a66e0188a7eef4a89533a9b4db851234dea2465e951889", func := "loop.example/g00305/laws.FnExactCoreOf", spec := "fnExactCoreOf", unfollowed := true, recurses := true, plainKeys := false, apart := false }
def FnExactCoreOfSaid : Prop := fnExactCoreOfRow.holds Try.pinned (OpenSpec.ofChange fnExactCoreOfSpec)

/-- ITS FALSE NEIGHBOUR: 'it returns false'. Refute it at one input. -/
def fnExactCoreOfWrong : ChangeSpec := { name := "fnExactCoreOf", fn := fun _ => fun
  | [d1, d2] => { results := [.lit (.bool false)], args := [d1, d2] }
  | _ => none }
def FnExactCoreOfWrongFalsely : Prop := fnExactCoreOfRow.holds Try.pinned (OpenSpec.ofChange fnExactCoreOfWrong)

/- THE SECOND FORM. 'bulk': how many values and letters a reading holds, each counted each time it is reached (what is shared counts as often as it is met; a slice's spare places count too). A statement '..UptoSaid' is the law's where the arguments, and the package variables that the reading takes, are together of bulk at most 1048576: NARROWER than '..Said'. Prove '..Said' where nothing that the law and all that it calls make is longer than what came in: it says more and counts as full. Else prove '..UptoSaid'. A law counts once. -/
mutual
def uptoBulk {H : Type} : DataW H → Nat
  | .lit (.string bytes) => bytes.length + 1
  | .lit _ => 1
  | .nil => 1
  | .ptr d => uptoBulk d + 1
  | .slice elems spare => uptoBulkAll elems + uptoBulkAll spare + 1
  | .agg parts => uptoBulkAll parts + 1
  | .iface _ d => uptoBulk d + 1
  | .map entries => uptoBulkEntries entries + 1
  | .held _ => 1
def uptoBulkAll {H : Type} : List (DataW H) → Nat
  | [] => 0
  | d :: r => uptoBulk d + uptoBulkAll r
def uptoBulkEntries {H : Type} : List (Lit × DataW H) → Nat
  | [] => 0
  | x :: r => uptoBulkEntry x + uptoBulkEntries r
def uptoBulkEntry {H : Type} : Lit × DataW H → Nat
  | (.string bytes, d) => bytes.length + uptoBulk d + 1
  | (_, d) => uptoBulk d + 1
 end
def uptoSmall : (H : Type) → List (DataW H) → Bool := fun _ ds => decide (uptoBulkAll ds ≤ 1048576)
def OpenSpec.upto (s : _root_.Go.ChangeSpec) : _root_.Go.OpenSpec := { _root_.Go.OpenSpec.ofChange s with cond := some uptoSmall }

/-- 'laws.FnExactGoodQuery', WHERE WHAT IT READS IS OF BULK AT MOST 1048576: true; the input reads as it did. -/
def fnExactGoodQueryUptoRow : OpenClaim := { program := "ytfodcjlekbdfhaa", sum := "865118e523b15b7945a66e0188a7eef4a89533a9b4db851234dea2465e951889", func := "loop.example/g00305/laws.FnExactGoodQuery", spec := "fnExactGoodQuery", unfollowed := true, recurses := true, plainKeys := false, apart := false, narrowed := true }
def FnExactGoodQueryUptoSaid : Prop := fnExactGoodQueryUptoRow.holds Try.pinned (OpenSpec.upto fnExactGoodQuerySpec)

/-- 'laws.FnExactIsContained', WHERE WHAT IT READS IS OF BULK AT MOST 1048576: true; the input reads as it did. -/
def fnExactIsContainedUptoRow : OpenClaim := { program := "ytfodcjlekbdfhaa", sum := "865118e523b15b7945a66e0188a7eef4a89533a9b4db851234dea2465e951889", func := "loop.example/g00305/laws.FnExactIsContained", spec := "fnExactIsContained", unfollowed := true, recurses := true, plainKeys := false, apart := false, narrowed := true }
def FnExactIsContainedUptoSaid : Prop := fnExactIsContainedUptoRow.holds Try.pinned (OpenSpec.upto fnExactIsContainedSpec)

/-- 'laws.FnExactCanonicalOf', WHERE WHAT IT READS IS OF BULK AT MOST 1048576: true; the input reads as it did. -/
def fnExactCanonicalOfUptoRow : OpenClaim := { program := "ytfodcjlekbdfhaa", sum := "865118e523b15b7945a66e0188a7eef4a89533a9b4db851234dea2465e951889", func := "loop.example/g00305/laws.FnExactCanonicalOf", spec := "fnExactCanonicalOf", unfollowed := true, recurses := true, plainKeys := false, apart := false, narrowed := true }
def FnExactCanonicalOfUptoSaid : Prop := fnExactCanonicalOfUptoRow.holds Try.pinned (OpenSpec.upto fnExactCanonicalOfSpec)

/-- 'laws.FnExactCoreOf', WHERE WHAT IT READS IS OF BULK AT MOST 1048576: true; the input reads as it did. -/
def fnExactCoreOfUptoRow : OpenClaim := { program := "ytfodcjlekbdfhaa", sum := "865118e523b15b7945a66e0188a7eef4a89533a9b4db851234dea2465e951889", func := "loop.example/g00305/laws.FnExactCoreOf", spec := "fnExactCoreOf", unfollowed := true, recurses := true, plainKeys := false, apart := false, narrowed := true }
def FnExactCoreOfUptoSaid : Prop := fnExactCoreOfUptoRow.holds Try.pinned (OpenSpec.upto fnExactCoreOfSpec)

end Rows
end Go.Proofs.Ytfodcjlekbdfhaa
