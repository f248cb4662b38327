/-
  No cell of these rows narrows 'for every input' (looked for: loops, veiled, ifaces, maps, wideKeys, modest, calm, conditions, laid).
  DERIVED. THE GIVEN ROWS OF THIS SEAT. 4 by the template 'for every input the law returns true; each argument reads behind the call as it read before'; 0 by the template 'total and deterministic' (their statements: YtaaefdddibdenaaTotals.lean).
  GIVEN WITH THE SEED: the statements are not yours to turn. If you find one false, say at which input.
  Laid BY PROGRAM, IN A SANDBOX (cutbox-rows.mjs): the forced cells as the released guide's own fill.sh prints them over the translation caac7a2c970bb601… (all of the seat's roots in one cut). By AI agents, Wed Nov 11 2026. No macro, syntax, notation, axiom, sorry.
-/
import Derived.Test.YtaaefdddibdenaaChecked
import GoSem.Claim
import GoSem.ClaimJoined
import GoSem.ClaimMapViews
import Derived.JoinedTies
import Derived.KernelRfl
namespace Go.Proofs.Ytaaefdddibdenaa
/- THE CELL 'sum', in the pinned program and in every row, IS THE sha256 OF THE DUMP (.gsa) THAT YtaaefdddibdenaaProg.lean LOADS. Nothing in Lean hashes anything: it is a label: what it is worth is what the hold of that sum in a sandbox is worth. -/
noncomputable def Try.pinned : Pinned := { name := "ytaaefdddibdenaa", sum := "caac7a2c970bb601af01d1340959ece4747be7197251fea5ddc0bd1398cffa0e", checked := Try.checked }
namespace Rows
def none {H : Type} : Left H := { results := [], args := [] }

/-- 'laws.FnExactGoodTests': WHATEVER THE INPUT: true; the input reads as it did. -/
def fnExactGoodTestsSpec : ChangeSpec := { name := "fnExactGoodTests", fn := fun _ => fun
  | [d1, d2] => { results := [.lit (.bool true)], args := [d1, d2] }
  | _ => none }
def fnExactGoodTestsRow : OpenClaim := { program := "ytaaefdddibdenaa", sum := "caac7a2c970bb601af01d1340959ece4747be7197251fea5ddc0bd1398cffa0e", func := "loop.example/g00305/laws.FnExactGoodTests", spec := "fnExactGoodTests", plainKeys := false, apart := false }
def FnExactGoodTestsSaid : Prop := fnExactGoodTestsRow.holds Try.pinned (OpenSpec.ofChange fnExactGoodTestsSpec)

/-- ITS FALSE NEIGHBOUR: 'it returns false'. Refute it at one input. -/
def fnExactGoodTestsWrong : ChangeSpec := { name := "fnExactGoodTests", fn := fun _ => fun
  | [d1, d2] => { results := [.lit (.bool false)], args := [d1, d2] }
  | _ => none }
def FnExactGoodTestsWrongFalsely : Prop := fnExactGoodTestsRow.holds Try.pinned (OpenSpec.ofChange fnExactGoodTestsWrong)

/-- 'laws.FnExactSelectRows': WHATEVER THE INPUT: true; the input reads as it did. -/
def fnExactSelectRowsSpec : ChangeSpec := { name := "fnExactSelectRows", fn := fun _ => fun
  | [d1, d2] => { results := [.lit (.bool true)], args := [d1, d2] }
  | _ => none }
def fnExactSelectRowsRow : OpenClaim := { program := "ytaaefdddibdenaa", sum := "caac7a2c970bb601af01d1340959ece4747be7197251fea5ddc0bd1398cffa0e", func := "loop.example/g00305/laws.FnExactSelectRows", spec := "fnExactSelectRows", unfollowed := true, recurses := true, plainKeys := false, apart := false }
def FnExactSelectRowsSaid : Prop := fnExactSelectRowsRow.holds Try.pinned (OpenSpec.ofChange fnExactSelectRowsSpec)

/-- ITS FALSE NEIGHBOUR: 'it returns false'. Refute it at one input. -/
def fnExactSelectRowsWrong : ChangeSpec := { name := "fnExactSelectRows", fn := fun _ => fun
  | [d1, d2] => { results := [.lit (.bool false)], args := [d1, d2] }
  | _ => none }
def FnExactSelectRowsWrongFalsely : Prop := fnExactSelectRowsRow.holds Try.pinned (OpenSpec.ofChange fnExactSelectRowsWrong)

/-- 'laws.FnExactJoinTables': WHATEVER THE INPUT: true; the input reads as it did. -/
def fnExactJoinTablesSpec : ChangeSpec := { name := "fnExactJoinTables", fn := fun _ => fun
  | [d1, d2, d3] => { results := [.lit (.bool true)], args := [d1, d2, d3] }
  | _ => none }
def fnExactJoinTablesRow : OpenClaim := { program := "ytaaefdddibdenaa", sum := "caac7a2c970bb601af01d1340959ece4747be7197251fea5ddc0bd1398cffa0e", func := "loop.example/g00305/laws.FnExactJoinTables", spec := "fnExactJoinTables", unfollowed := true, recurses := true, plainKeys := false, apart := false }
def FnExactJoinTablesSaid : Prop := fnExactJoinTablesRow.holds Try.pinned (OpenSpec.ofChange fnExactJoinTablesSpec)

/-- ITS FALSE NEIGHBOUR: 'it returns false'. Refute it at one input. -/
def fnExactJoinTablesWrong : ChangeSpec := { name := "fnExactJoinTables", fn := fun _ => fun
  | [d1, d2, d3] => { results := [.lit (.bool false)], args := [d1, d2, d3] }
  | _ => none }
def FnExactJoinTablesWrongFalsely : Prop := fnExactJoinTablesRow.holds Try.pinned (OpenSpec.ofChange fnExactJoinTablesWrong)

/-- 'laws.FnExactCrossTables': WHATEVER THE INPUT: true; the input reads as it did. -/
def fnExactCrossTablesSpec : ChangeSpec := { name := "fnExactCrossTables", fn := fun _ => fun
  | [d1, d2] => { results := [.lit (.bool true)], args := [d1, d2] }
  | _ => none }
def fnExactCrossTablesRow : OpenClaim := { program := "ytaaefdddibdenaa", sum := "caac7a2c970bb601af01d1340959ece4747be7197251fea5ddc0bd1398cffa0e", func := "loop.example/g00305/laws.FnExactCrossTables", spec := "fnExactCrossTables", unfollowed := true, recurses := true, plainKeys := false, apart := false }
def FnExactCrossTablesSaid : Prop := fnExactCrossTablesRow.holds Try.pinned (OpenSpec.ofChange fnExactCrossTablesSpec)

/-- ITS FALSE NEIGHBOUR: 'it returns false'. Refute it at one input. -/
def fnExactCrossTablesWrong : ChangeSpec := { name := "fnExactCrossTables", fn := fun _ => fun
  | [d1, d2] => { results := [.lit (.bool false)], args := [d1, d2] }
  | _ => none }
def FnExactCrossTablesWrongFalsely : Prop := fnExactCrossTablesRow.holds Try.pinned (OpenSpec.ofChange fnExactCrossTablesWrong)

/- THE SECOND FORM. 'bulk': how many values and letters a reading holds, each counted each time it is reached (what is shared counts as often as it is met; a slice's spare places count too). A statement '..UptoSaid' is the law's where the arguments, and the package variables that the reading takes, are together of bulk at most 1048576: NARROWER than '..Said'. Prove '..Said' where nothing that the law and all that it calls make is longer than what came in: it says more and counts as full. Else prove '..UptoSaid'. A law counts once. -/
mutual
def uptoBulk {H : Type} : DataW H → Nat
  | .lit (.string bytes) => bytes.length + 1
  | .lit _ => 1
  | .nil => 1
  | .ptr d => uptoBulk d + 1
  | .slice elems spare => uptoBulkAll elems + uptoBulkAll spare + 1
  | .agg parts => uptoBulkAll parts + 1
  | .iface _ d => uptoBulk d + 1
  | .map entries => uptoBulkEntries entries + 1
  | .held _ => 1
def uptoBulkAll {H : Type} : List (DataW H) → Nat
  | [] => 0
  | d :: r => uptoBulk d + uptoBulkAll r
def uptoBulkEntries {H : Type} : List (Lit × DataW H) → Nat
  | [] => 0
  | x :: r => uptoBulkEntry x + uptoBulkEntries r
def uptoBulkEntry {H : Type} : Lit × DataW H → Nat
  | (.string bytes, d) => bytes.length + uptoBulk d + 1
  | (_, d) => uptoBulk d + 1
 end
def uptoSmall : (H : Type) → List (DataW H) → Bool := fun _ ds => decide (uptoBulkAll ds ≤ 1048576)
def OpenSpec.upto (s : _root_.Go.ChangeSpec) : _root_.Go.OpenSpec := { _root_.Go.OpenSpec.ofChange s with cond := some uptoSmall }

/-- 'laws.FnExactGoodTests', WHERE WHAT IT READS IS OF BULK AT MOST 1048576: true; the input reads as it did. -/
def fnExactGoodTestsUptoRow : OpenClaim := { program := "ytaaefdddibdenaa", sum := "caac7a2c970bb601af01d1340959ece4747be7197251fea5ddc0bd1398cffa0e", func := "loop.example/g00305/laws.FnExactGoodTests", spec := "fnExactGoodTests", plainKeys := false, apart := false, narrowed := true }
def FnExactGoodTestsUptoSaid : Prop := fnExactGoodTestsUptoRow.holds Try.pinned (OpenSpec.upto fnExactGoodTestsSpec)

/-- 'laws.FnExactSelectRows', WHERE WHAT IT READS IS OF BULK AT MOST 1048576: true; the input reads as it did. -/
def fnExactSelectRowsUptoRow : OpenClaim := { program := "ytaaefdddibdenaa", sum := "caac7a2c970bb601af01d1340959ece4747be7197251fea5ddc0bd1398cffa0e", func := "loop.example/g00305/laws.FnExactSelectRows", spec := "fnExactSelectRows", unfollowed := true, recurses := true, plainKeys := false, apart := false, narrowed := true }
def FnExactSelectRowsUptoSaid : Prop := fnExactSelectRowsUptoRow.holds Try.pinned (OpenSpec.upto fnExactSelectRowsSpec)

/-- 'laws.FnExactJoinTables', WHERE WHAT IT READS IS OF BULK AT MOST 1048576: true; the input reads as it did. -/
def fnExactJoinTablesUptoRow : OpenClaim := { program := "ytaaefdddibdenaa", sum := "caac7a2c970bb601af01d1340959ece4747be7197251fea5ddc0bd1398cffa0e", func := "loop.example/g00305/laws.FnExactJoinTables", spec := "fnExactJoinTables", unfollowed := true, recurses := true, plainKeys := false, apart := false, narrowed := true }
def FnExactJoinTablesUptoSaid : Prop := fnExactJoinTablesUptoRow.holds Try.pinned (OpenSpec.upto fnExactJoinTablesSpec)

/-- 'laws.FnExactCrossTables', WHERE WHAT IT READS IS OF BULK AT MOST 1048576: true; the input reads as it did. -/
def fnExactCrossTablesUptoRow : OpenClaim := { program := "ytaaefdddibdenaa", sum := "caac7a2c970bb601af01d1340959ece4747be7197251fea5ddc0bd1398cffa0e", func := "loop.example/g00305/laws.FnExactCrossTables", spec := "fnExactCrossTables", unfollowed := true, recurses := true, plainKeys := false, apart := false, narrowed := true }
def FnExactCrossTablesUptoSaid : Prop := fnExactCrossTablesUptoRow.holds Try.pinned (OpenSpec.upto fnExactCrossTablesSpec)

end Rows
end Go.Proofs.Ytaaefdddibdenaa
