/-
  No cell of these rows narrows 'for every input' (looked for: loops, veiled, ifaces, maps, wideKeys, modest, calm, conditions, laid).
  DERIVED. THE GIVEN ROWS OF THIS SEAT. 5 by the template 'for every input the law returns true; each argument reads behind the call as it read before'; 0 by the template 'total and deterministic' (their statements: YtogokgegkakmbaaTotals.lean).
  GIVEN WITH THE SEED: the statements are not yours to turn. If you find one false, say at which input.
  Laid BY PROGRAM, IN A SANDBOX (cutbox-rows.mjs): the forced cells as the released guide's own fill.sh prints them over the translation fcb8a87239acc67a… (all of the seat's roots in one cut). By AI agents, Wed Nov 11 2026. No macro, syntax, notation, axiom, sorry.
-/
import Derived.Test.YtogokgegkakmbaaChecked
import GoSem.Claim
import GoSem.ClaimJoined
import GoSem.ClaimMapViews
import Derived.JoinedTies
import Derived.KernelRfl
namespace Go.Proofs.Ytogokgegkakmbaa
/- THE CELL 'sum', in the pinned program and in every row, IS THE sha256 OF THE DUMP (.gsa) THAT YtogokgegkakmbaaProg.lean LOADS. Nothing in Lean hashes anything: it is a label: what it is worth is what the hold of that sum in a sandbox is worth. -/
noncomputable def Try.pinned : Pinned := { name := "ytogokgegkakmbaa", sum := "fcb8a87239acc67afbfd81b8acb75c1613551d11a52440a5915cb52e0e73df0e", checked := Try.checked }
namespace Rows
def none {H : Type} : Left H := { results := [], args := [] }

/-- 'laws.FnExactNewTable': WHATEVER THE INPUT: true; the input reads as it did. -/
def fnExactNewTableSpec : ChangeSpec := { name := "fnExactNewTable", fn := fun _ => fun
  | [d1, d2] => { results := [.lit (.bool true)], args := [d1, d2] }
  | _ => none }
def fnExactNewTableRow : OpenClaim := { program := "ytogokgegkakmbaa", sum := "fcb8a87239acc67afbfd81b8acb75c1613551d11a52440a5915cb52e0e73df0e", func := "loop.example/g00305/laws.FnExactNewTable", spec := "fnExactNewTable", unfollowed := true, recurses := true, plainKeys := false, apart := false }
def FnExactNewTableSaid : Prop := fnExactNewTableRow.holds Try.pinned (OpenSpec.ofChange fnExactNewTableSpec)

/-- ITS FALSE NEIGHBOUR: 'it returns false'. Refute it at one input. -/
def fnExactNewTableWrong : ChangeSpec := { name := "fnExactNewTable", fn := fun _ => fun
  | [d1, d2] => { results := [.lit (.bool false)], args := [d1, d2] }
  | _ => none }
def FnExactNewTableWrongFalsely : Prop := fnExactNewTableRow.holds Try.pinned (OpenSpec.ofChange fnExactNewTableWrong)

/-- 'laws.FnExactAddTables': WHATEVER THE INPUT: true; the input reads as it did. -/
def fnExactAddTablesSpec : ChangeSpec := { name := "fnExactAddTables", fn := fun _ => fun
  | [d1, d2] => { results := [.lit (.bool true)], args := [d1, d2] }
  | _ => none }
def fnExactAddTablesRow : OpenClaim := { program := "ytogokgegkakmbaa", sum := "fcb8a87239acc67afbfd81b8acb75c1613551d11a52440a5915cb52e0e73df0e", func := "loop.example/g00305/laws.FnExactAddTables", spec := "fnExactAddTables", unfollowed := true, recurses := true, plainKeys := false, apart := false }
def FnExactAddTablesSaid : Prop := fnExactAddTablesRow.holds Try.pinned (OpenSpec.ofChange fnExactAddTablesSpec)

/-- ITS FALSE NEIGHBOUR: 'it returns false'. Refute it at one input. -/
def fnExactAddTablesWrong : ChangeSpec := { name := "fnExactAddTables", fn := fun _ => fun
  | [d1, d2] => { results := [.lit (.bool false)], args := [d1, d2] }
  | _ => none }
def FnExactAddTablesWrongFalsely : Prop := fnExactAddTablesRow.holds Try.pinned (OpenSpec.ofChange fnExactAddTablesWrong)

/-- 'laws.FnExactNegateTable': WHATEVER THE INPUT: true; the input reads as it did. -/
def fnExactNegateTableSpec : ChangeSpec := { name := "fnExactNegateTable", fn := fun _ => fun
  | [d] => { results := [.lit (.bool true)], args := [d] }
  | _ => none }
def fnExactNegateTableRow : OpenClaim := { program := "ytogokgegkakmbaa", sum := "fcb8a87239acc67afbfd81b8acb75c1613551d11a52440a5915cb52e0e73df0e", func := "loop.example/g00305/laws.FnExactNegateTable", spec := "fnExactNegateTable", unfollowed := true, recurses := true, plainKeys := false, apart := false }
def FnExactNegateTableSaid : Prop := fnExactNegateTableRow.holds Try.pinned (OpenSpec.ofChange fnExactNegateTableSpec)

/-- ITS FALSE NEIGHBOUR: 'it returns false'. Refute it at one input. -/
def fnExactNegateTableWrong : ChangeSpec := { name := "fnExactNegateTable", fn := fun _ => fun
  | [d] => { results := [.lit (.bool false)], args := [d] }
  | _ => none }
def FnExactNegateTableWrongFalsely : Prop := fnExactNegateTableRow.holds Try.pinned (OpenSpec.ofChange fnExactNegateTableWrong)

/-- 'laws.FnExactScaleTable': WHATEVER THE INPUT: true; the input reads as it did. -/
def fnExactScaleTableSpec : ChangeSpec := { name := "fnExactScaleTable", fn := fun _ => fun
  | [d1, d2] => { results := [.lit (.bool true)], args := [d1, d2] }
  | _ => none }
def fnExactScaleTableRow : OpenClaim := { program := "ytogokgegkakmbaa", sum := "fcb8a87239acc67afbfd81b8acb75c1613551d11a52440a5915cb52e0e73df0e", func := "loop.example/g00305/laws.FnExactScaleTable", spec := "fnExactScaleTable", unfollowed := true, recurses := true, plainKeys := false, apart := false }
def FnExactScaleTableSaid : Prop := fnExactScaleTableRow.holds Try.pinned (OpenSpec.ofChange fnExactScaleTableSpec)

/-- ITS FALSE NEIGHBOUR: 'it returns false'. Refute it at one input. -/
def fnExactScaleTableWrong : ChangeSpec := { name := "fnExactScaleTable", fn := fun _ => fun
  | [d1, d2] => { results := [.lit (.bool false)], args := [d1, d2] }
  | _ => none }
def FnExactScaleTableWrongFalsely : Prop := fnExactScaleTableRow.holds Try.pinned (OpenSpec.ofChange fnExactScaleTableWrong)

/-- 'laws.FnExactEmptyTable': WHATEVER THE INPUT: true; the input reads as it did. -/
def fnExactEmptyTableSpec : ChangeSpec := { name := "fnExactEmptyTable", fn := fun _ => fun
  | [d] => { results := [.lit (.bool true)], args := [d] }
  | _ => none }
def fnExactEmptyTableRow : OpenClaim := { program := "ytogokgegkakmbaa", sum := "fcb8a87239acc67afbfd81b8acb75c1613551d11a52440a5915cb52e0e73df0e", func := "loop.example/g00305/laws.FnExactEmptyTable", spec := "fnExactEmptyTable", unfollowed := true, recurses := true, plainKeys := false, apart := false }
def FnExactEmptyTableSaid : Prop := fnExactEmptyTableRow.holds Try.pinned (OpenSpec.ofChange fnExactEmptyTableSpec)

/-- ITS FALSE NEIGHBOUR: 'it returns false'. Refute it at one input. -/
def fnExactEmptyTableWrong : ChangeSpec := { name := "fnExactEmptyTable", fn := fun _ => fun
  | [d] => { results := [.lit (.bool false)], args := [d] }
  | _ => none }
def FnExactEmptyTableWrongFalsely : Prop := fnExactEmptyTableRow.holds Try.pinned (OpenSpec.ofChange fnExactEmptyTableWrong)

/- THE SECOND FORM. 'bulk': how many values and letters a reading holds, each counted each time it is reached (what is shared counts as often as it is met; a slice's spare places count too). A statement '..UptoSaid' is the law's where the arguments, and the package variables that the reading takes, are together of bulk at most 1048576: NARROWER than '..Said'. Prove '..Said' where nothing that the law and all that it calls make is longer than what came in: it says more and counts as full. Else prove '..UptoSaid'. A law counts once. -/
mutual
def uptoBulk {H : Type} : DataW H → Nat
  | .lit (.string bytes) => bytes.length + 1
  | .lit _ => 1
  | .nil => 1
  | .ptr d => uptoBulk d + 1
  | .slice elems spare => uptoBulkAll elems + uptoBulkAll spare + 1
  | .agg parts => uptoBulkAll parts + 1
  | .iface _ d => uptoBulk d + 1
  | .map entries => uptoBulkEntries entries + 1
  | .held _ => 1
def uptoBulkAll {H : Type} : List (DataW H) → Nat
  | [] => 0
  | d :: r => uptoBulk d + uptoBulkAll r
def uptoBulkEntries {H : Type} : List (Lit × DataW H) → Nat
  | [] => 0
  | x :: r => uptoBulkEntry x + uptoBulkEntries r
def uptoBulkEntry {H : Type} : Lit × DataW H → Nat
  | (.string bytes, d) => bytes.length + uptoBulk d + 1
  | (_, d) => uptoBulk d + 1
 end
def uptoSmall : (H : Type) → List (DataW H) → Bool := fun _ ds => decide (uptoBulkAll ds ≤ 1048576)
def OpenSpec.upto (s : _root_.Go.ChangeSpec) : _root_.Go.OpenSpec := { _root_.Go.OpenSpec.ofChange s with cond := some uptoSmall }

/-- 'laws.FnExactNewTable', WHERE WHAT IT READS IS OF BULK AT MOST 1048576: true; the input reads as it did. -/
def fnExactNewTableUptoRow : OpenClaim := { program := "ytogokgegkakmbaa", sum := "fcb8a87239acc67afbfd81b8acb75c1613551d11a52440a5915cb52e0e73df0e", func := "loop.example/g00305/laws.FnExactNewTable", spec := "fnExactNewTable", unfollowed := true, recurses := true, plainKeys := false, apart := false, narrowed := true }
def FnExactNewTableUptoSaid : Prop := fnExactNewTableUptoRow.holds Try.pinned (OpenSpec.upto fnExactNewTableSpec)

/-- 'laws.FnExactAddTables', WHERE WHAT IT READS IS OF BULK AT MOST 1048576: true; the input reads as it did. -/
def fnExactAddTablesUptoRow : OpenClaim := { program := "ytogokgegkakmbaa", sum := "fcb8a87239acc67afbfd81b8acb75c1613551d11a52440a5915cb52e0e73df0e", func := "loop.example/g00305/laws.FnExactAddTables", spec := "fnExactAddTables", unfollowed := true, recurses := true, plainKeys := false, apart := false, narrowed := true }
def FnExactAddTablesUptoSaid : Prop := fnExactAddTablesUptoRow.holds Try.pinned (OpenSpec.upto fnExactAddTablesSpec)

/-- 'laws.FnExactNegateTable', WHERE WHAT IT READS IS OF BULK AT MOST 1048576: true; the input reads as it did. -/
def fnExactNegateTableUptoRow : OpenClaim := { program := "ytogokgegkakmbaa", sum := "fcb8a87239acc67afbfd81b8acb75c1613551d11a52440a5915cb52e0e73df0e", func := "loop.example/g00305/laws.FnExactNegateTable", spec := "fnExactNegateTable", unfollowed := true, recurses := true, plainKeys := false, apart := false, narrowed := true }
def FnExactNegateTableUptoSaid : Prop := fnExactNegateTableUptoRow.holds Try.pinned (OpenSpec.upto fnExactNegateTableSpec)

/-- 'laws.FnExactScaleTable', WHERE WHAT IT READS IS OF BULK AT MOST 1048576: true; the input reads as it did. -/
def fnExactScaleTableUptoRow : OpenClaim := { program := "ytogokgegkakmbaa", sum := "fcb8a87239acc67afbfd81b8acb75c1613551d11a52440a5915cb52e0e73df0e", func := "loop.example/g00305/laws.FnExactScaleTable", spec := "fnExactScaleTable", unfollowed := true, recurses := true, plainKeys := false, apart := false, narrowed := true }
def FnExactScaleTableUptoSaid : Prop := fnExactScaleTableUptoRow.holds Try.pinned (OpenSpec.upto fnExactScaleTableSpec)

/-- 'laws.FnExactEmptyTable', WHERE WHAT IT READS IS OF BULK AT MOST 1048576: true; the input reads as it did. -/
def fnExactEmptyTableUptoRow : OpenClaim := { program := "ytogokgegkakmbaa", sum := "fcb8a87239acc67afbfd81b8acb75c1613551d11a52440a5915cb52e0e73df0e", func := "loop.example/g00305/laws.FnExactEmptyTable", spec := "fnExactEmptyTable", unfollowed := true, recurses := true, plainKeys := false, apart := false, narrowed := true }
def FnExactEmptyTableUptoSaid : Prop := fnExactEmptyTableUptoRow.holds Try.pinned (OpenSpec.upto fnExactEmptyTableSpec)

end Rows
end Go.Proofs.Ytogokgegkakmbaa
