/-
  No cell of these rows narrows 'for every input' (looked for: loops, veiled, ifaces, maps, wideKeys, modest, calm, conditions, laid).
  DERIVED. THE GIVEN ROWS OF THIS SEAT. 4 by the template 'for every input the law returns true; each argument reads behind the call as it read before'; 0 by the template 'total and deterministic' (their statements: YthliamoeplgblaaTotals.lean).
  GIVEN WITH THE SEED: the statements are not yours to turn. If you find one false, say at which input.
  Laid BY PROGRAM, IN A SANDBOX (cutbox-rows.mjs): the forced cells as the released guide's own fill.sh prints them over the translation 09138998d6c2b466… (all of the seat's roots in one cut). By AI agents, Wed Nov 11 2026. No macro, syntax, notation, axiom, sorry.
-/
import Derived.Test.YthliamoeplgblaaChecked
import GoSem.Claim
import GoSem.ClaimJoined
import GoSem.ClaimMapViews
import Derived.JoinedTies
import Derived.KernelRfl
namespace Go.Proofs.Ythliamoeplgblaa
/- THE CELL 'sum', in the pinned program and in every row, IS THE sha256 OF THE DUMP (.gsa) THAT YthliamoeplgblaaProg.lean LOADS. Nothing in Lean hashes anything: it is a label: what it is worth is what the hold of that sum in a sandbox is worth. -/
noncomputable def Try.pinned : Pinned := { name := "ythliamoeplgblaa", sum := "09138998d6c2b46602a33089a77baa9bc939e4d7fb7631704ad467cc204c7940", checked := Try.checked }
namespace Rows
def none {H : Type} : Left H := { results := [], args := [] }

/-- 'laws.FnExactChaseStep': WHATEVER THE INPUT: true; the input reads as it did. -/
def fnExactChaseStepSpec : ChangeSpec := { name := "fnExactChaseStep", fn := fun _ => fun
  | [d1, d2] => { results := [.lit (.bool true)], args := [d1, d2] }
  | _ => none }
def fnExactChaseStepRow : OpenClaim := { program := "ythliamoeplgblaa", sum := "09138998d6c2b46602a33089a77baa9bc939e4d7fb7631704ad467cc204c7940", func := "loop.example/g00305/laws.FnExactChaseStep", spec := "fnExactChaseStep", plainKeys := false, apart := false }
def FnExactChaseStepSaid : Prop := fnExactChaseStepRow.holds Try.pinned (OpenSpec.ofChange fnExactChaseStepSpec)

/-- ITS FALSE NEIGHBOUR: 'it returns false'. Refute it at one input. -/
def fnExactChaseStepWrong : ChangeSpec := { name := "fnExactChaseStep", fn := fun _ => fun
  | [d1, d2] => { results := [.lit (.bool false)], args := [d1, d2] }
  | _ => none }
def FnExactChaseStepWrongFalsely : Prop := fnExactChaseStepRow.holds Try.pinned (OpenSpec.ofChange fnExactChaseStepWrong)

/-- 'laws.FnExactChaseAll': WHATEVER THE INPUT: true; the input reads as it did. -/
def fnExactChaseAllSpec : ChangeSpec := { name := "fnExactChaseAll", fn := fun _ => fun
  | [d1, d2] => { results := [.lit (.bool true)], args := [d1, d2] }
  | _ => none }
def fnExactChaseAllRow : OpenClaim := { program := "ythliamoeplgblaa", sum := "09138998d6c2b46602a33089a77baa9bc939e4d7fb7631704ad467cc204c7940", func := "loop.example/g00305/laws.FnExactChaseAll", spec := "fnExactChaseAll", plainKeys := false, apart := false }
def FnExactChaseAllSaid : Prop := fnExactChaseAllRow.holds Try.pinned (OpenSpec.ofChange fnExactChaseAllSpec)

/-- ITS FALSE NEIGHBOUR: 'it returns false'. Refute it at one input. -/
def fnExactChaseAllWrong : ChangeSpec := { name := "fnExactChaseAll", fn := fun _ => fun
  | [d1, d2] => { results := [.lit (.bool false)], args := [d1, d2] }
  | _ => none }
def FnExactChaseAllWrongFalsely : Prop := fnExactChaseAllRow.holds Try.pinned (OpenSpec.ofChange fnExactChaseAllWrong)

/-- 'laws.FnExactTableauTable': WHATEVER THE INPUT: true; the input reads as it did. -/
def fnExactTableauTableSpec : ChangeSpec := { name := "fnExactTableauTable", fn := fun _ => fun
  | [d] => { results := [.lit (.bool true)], args := [d] }
  | _ => none }
def fnExactTableauTableRow : OpenClaim := { program := "ythliamoeplgblaa", sum := "09138998d6c2b46602a33089a77baa9bc939e4d7fb7631704ad467cc204c7940", func := "loop.example/g00305/laws.FnExactTableauTable", spec := "fnExactTableauTable", unfollowed := true, recurses := true, plainKeys := false, apart := false }
def FnExactTableauTableSaid : Prop := fnExactTableauTableRow.holds Try.pinned (OpenSpec.ofChange fnExactTableauTableSpec)

/-- ITS FALSE NEIGHBOUR: 'it returns false'. Refute it at one input. -/
def fnExactTableauTableWrong : ChangeSpec := { name := "fnExactTableauTable", fn := fun _ => fun
  | [d] => { results := [.lit (.bool false)], args := [d] }
  | _ => none }
def FnExactTableauTableWrongFalsely : Prop := fnExactTableauTableRow.holds Try.pinned (OpenSpec.ofChange fnExactTableauTableWrong)

/-- 'laws.FnExactGoodTableau': WHATEVER THE INPUT: true; the input reads as it did. -/
def fnExactGoodTableauSpec : ChangeSpec := { name := "fnExactGoodTableau", fn := fun _ => fun
  | [d] => { results := [.lit (.bool true)], args := [d] }
  | _ => none }
def fnExactGoodTableauRow : OpenClaim := { program := "ythliamoeplgblaa", sum := "09138998d6c2b46602a33089a77baa9bc939e4d7fb7631704ad467cc204c7940", func := "loop.example/g00305/laws.FnExactGoodTableau", spec := "fnExactGoodTableau", plainKeys := false, apart := false }
def FnExactGoodTableauSaid : Prop := fnExactGoodTableauRow.holds Try.pinned (OpenSpec.ofChange fnExactGoodTableauSpec)

/-- ITS FALSE NEIGHBOUR: 'it returns false'. Refute it at one input. -/
def fnExactGoodTableauWrong : ChangeSpec := { name := "fnExactGoodTableau", fn := fun _ => fun
  | [d] => { results := [.lit (.bool false)], args := [d] }
  | _ => none }
def FnExactGoodTableauWrongFalsely : Prop := fnExactGoodTableauRow.holds Try.pinned (OpenSpec.ofChange fnExactGoodTableauWrong)

/- THE SECOND FORM. 'bulk': how many values and letters a reading holds, each counted each time it is reached (what is shared counts as often as it is met; a slice's spare places count too). A statement '..UptoSaid' is the law's where the arguments, and the package variables that the reading takes, are together of bulk at most 1048576: NARROWER than '..Said'. Prove '..Said' where nothing that the law and all that it calls make is longer than what came in: it says more and counts as full. Else prove '..UptoSaid'. A law counts once. -/
mutual
def uptoBulk {H : Type} : DataW H → Nat
  | .lit (.string bytes) => bytes.length + 1
  | .lit _ => 1
  | .nil => 1
  | .ptr d => uptoBulk d + 1
  | .slice elems spare => uptoBulkAll elems + uptoBulkAll spare + 1
  | .agg parts => uptoBulkAll parts + 1
  | .iface _ d => uptoBulk d + 1
  | .map entries => uptoBulkEntries entries + 1
  | .held _ => 1
def uptoBulkAll {H : Type} : List (DataW H) → Nat
  | [] => 0
  | d :: r => uptoBulk d + uptoBulkAll r
def uptoBulkEntries {H : Type} : List (Lit × DataW H) → Nat
  | [] => 0
  | x :: r => uptoBulkEntry x + uptoBulkEntries r
def uptoBulkEntry {H : Type} : Lit × DataW H → Nat
  | (.string bytes, d) => bytes.length + uptoBulk d + 1
  | (_, d) => uptoBulk d + 1
 end
def uptoSmall : (H : Type) → List (DataW H) → Bool := fun _ ds => decide (uptoBulkAll ds ≤ 1048576)
def OpenSpec.upto (s : _root_.Go.ChangeSpec) : _root_.Go.OpenSpec := { _root_.Go.OpenSpec.ofChange s with cond := some uptoSmall }

/-- 'laws.FnExactChaseStep', WHERE WHAT IT READS IS OF BULK AT MOST 1048576: true; the input reads as it did. -/
def fnExactChaseStepUptoRow : OpenClaim := { program := "ythliamoeplgblaa", sum := "09138998d6c2b46602a33089a77baa9bc939e4d7fb7631704ad467cc204c7940", func := "loop.example/g00305/laws.FnExactChaseStep", spec := "fnExactChaseStep", plainKeys := false, apart := false, narrowed := true }
def FnExactChaseStepUptoSaid : Prop := fnExactChaseStepUptoRow.holds Try.pinned (OpenSpec.upto fnExactChaseStepSpec)

/-- 'laws.FnExactChaseAll', WHERE WHAT IT READS IS OF BULK AT MOST 1048576: true; the input reads as it did. -/
def fnExactChaseAllUptoRow : OpenClaim := { program := "ythliamoeplgblaa", sum := "09138998d6c2b46602a33089a77baa9bc939e4d7fb7631704ad467cc204c7940", func := "loop.example/g00305/laws.FnExactChaseAll", spec := "fnExactChaseAll", plainKeys := false, apart := false, narrowed := true }
def FnExactChaseAllUptoSaid : Prop := fnExactChaseAllUptoRow.holds Try.pinned (OpenSpec.upto fnExactChaseAllSpec)

/-- 'laws.FnExactTableauTable', WHERE WHAT IT READS IS OF BULK AT MOST 1048576: true; the input reads as it did. -/
def fnExactTableauTableUptoRow : OpenClaim := { program := "ythliamoeplgblaa", sum := "09138998d6c2b46602a33089a77baa9bc939e4d7fb7631704ad467cc204c7940", func := "loop.example/g00305/laws.FnExactTableauTable", spec := "fnExactTableauTable", unfollowed := true, recurses := true, plainKeys := false, apart := false, narrowed := true }
def FnExactTableauTableUptoSaid : Prop := fnExactTableauTableUptoRow.holds Try.pinned (OpenSpec.upto fnExactTableauTableSpec)

/-- 'laws.FnExactGoodTableau', WHERE WHAT IT READS IS OF BULK AT MOST 1048576: true; the input reads as it did. -/
def fnExactGoodTableauUptoRow : OpenClaim := { program := "ythliamoeplgblaa", sum := "09138998d6c2b46602a33089a77baa9bc939e4d7fb7631704ad467cc204c7940", func := "loop.example/g00305/laws.FnExactGoodTableau", spec := "fnExactGoodTableau", plainKeys := false, apart := false, narrowed := true }
def FnExactGoodTableauUptoSaid : Prop := fnExactGoodTableauUptoRow.holds Try.pinned (OpenSpec.upto fnExactGoodTableauSpec)

end Rows
end Go.Proofs.Ythliamoeplgblaa
