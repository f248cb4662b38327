/-
  No cell of these rows narrows 'for every input' (looked for: loops, veiled, ifaces, maps, wideKeys, modest, calm, conditions, laid).
  DERIVED. THE GIVEN ROWS OF THIS SEAT. 6 by the template 'for every input the law returns true; each argument reads behind the call as it read before'; 0 by the template 'total and deterministic' (their statements: YtlfljfmhhnoinaaTotals.lean).
  GIVEN WITH THE SEED: the statements are not yours to turn. If you find one false, say at which input.
  Laid BY PROGRAM, IN A SANDBOX (cutbox-rows.mjs): the forced cells as the released guide's own fill.sh prints them over the translation dcdea5ff20e38264… (all of the seat's roots in one cut). By AI agents, Wed Nov 11 2026. No macro, syntax, notation, axiom, sorry.
-/
import Derived.Test.YtlfljfmhhnoinaaChecked
import GoSem.Claim
import GoSem.ClaimJoined
import GoSem.ClaimMapViews
import Derived.JoinedTies
import Derived.KernelRfl
namespace Go.Proofs.Ytlfljfmhhnoinaa
/- THE CELL 'sum', in the pinned program and in every row, IS THE sha256 OF THE DUMP (.gsa) THAT YtlfljfmhhnoinaaProg.lean LOADS. Nothing in Lean hashes anything: it is a label: what it is worth is what the hold of that sum in a sandbox is worth. -/
noncomputable def Try.pinned : Pinned := { name := "ytlfljfmhhnoinaa", sum := "dcdea5ff20e3826488214df617805938a8fb59dc52cd1e32ec3aca42b15a4849", checked := Try.checked }
namespace Rows
def none {H : Type} : Left H := { results := [], args := [] }

/-- 'laws.FnExactGoodGroups': WHATEVER THE INPUT: true; the input reads as it did. -/
def fnExactGoodGroupsSpec : ChangeSpec := { name := "fnExactGoodGroups", fn := fun _ => fun
  | [d] => { results := [.lit (.bool true)], args := [d] }
  | _ => none }
def fnExactGoodGroupsRow : OpenClaim := { program := "ytlfljfmhhnoinaa", sum := "dcdea5ff20e3826488214df617805938a8fb59dc52cd1e32ec3aca42b15a4849", func := "loop.example/g00305/laws.FnExactGoodGroups", spec := "fnExactGoodGroups", plainKeys := false, apart := false }
def FnExactGoodGroupsSaid : Prop := fnExactGoodGroupsRow.holds Try.pinned (OpenSpec.ofChange fnExactGoodGroupsSpec)

/-- ITS FALSE NEIGHBOUR: 'it returns false'. Refute it at one input. -/
def fnExactGoodGroupsWrong : ChangeSpec := { name := "fnExactGoodGroups", fn := fun _ => fun
  | [d] => { results := [.lit (.bool false)], args := [d] }
  | _ => none }
def FnExactGoodGroupsWrongFalsely : Prop := fnExactGoodGroupsRow.holds Try.pinned (OpenSpec.ofChange fnExactGoodGroupsWrong)

/-- 'laws.FnExactGroupFor': WHATEVER THE INPUT: true; the input reads as it did. -/
def fnExactGroupForSpec : ChangeSpec := { name := "fnExactGroupFor", fn := fun _ => fun
  | [d1, d2] => { results := [.lit (.bool true)], args := [d1, d2] }
  | _ => none }
def fnExactGroupForRow : OpenClaim := { program := "ytlfljfmhhnoinaa", sum := "dcdea5ff20e3826488214df617805938a8fb59dc52cd1e32ec3aca42b15a4849", func := "loop.example/g00305/laws.FnExactGroupFor", spec := "fnExactGroupFor", plainKeys := false, apart := false }
def FnExactGroupForSaid : Prop := fnExactGroupForRow.holds Try.pinned (OpenSpec.ofChange fnExactGroupForSpec)

/-- ITS FALSE NEIGHBOUR: 'it returns false'. Refute it at one input. -/
def fnExactGroupForWrong : ChangeSpec := { name := "fnExactGroupFor", fn := fun _ => fun
  | [d1, d2] => { results := [.lit (.bool false)], args := [d1, d2] }
  | _ => none }
def FnExactGroupForWrongFalsely : Prop := fnExactGroupForRow.holds Try.pinned (OpenSpec.ofChange fnExactGroupForWrong)

/-- 'laws.FnExactGroupsAsTable': WHATEVER THE INPUT: true; the input reads as it did. -/
def fnExactGroupsAsTableSpec : ChangeSpec := { name := "fnExactGroupsAsTable", fn := fun _ => fun
  | [d] => { results := [.lit (.bool true)], args := [d] }
  | _ => none }
def fnExactGroupsAsTableRow : OpenClaim := { program := "ytlfljfmhhnoinaa", sum := "dcdea5ff20e3826488214df617805938a8fb59dc52cd1e32ec3aca42b15a4849", func := "loop.example/g00305/laws.FnExactGroupsAsTable", spec := "fnExactGroupsAsTable", plainKeys := false, apart := false }
def FnExactGroupsAsTableSaid : Prop := fnExactGroupsAsTableRow.holds Try.pinned (OpenSpec.ofChange fnExactGroupsAsTableSpec)

/-- ITS FALSE NEIGHBOUR: 'it returns false'. Refute it at one input. -/
def fnExactGroupsAsTableWrong : ChangeSpec := { name := "fnExactGroupsAsTable", fn := fun _ => fun
  | [d] => { results := [.lit (.bool false)], args := [d] }
  | _ => none }
def FnExactGroupsAsTableWrongFalsely : Prop := fnExactGroupsAsTableRow.holds Try.pinned (OpenSpec.ofChange fnExactGroupsAsTableWrong)

/-- 'laws.FnExactTotalsOf': WHATEVER THE INPUT: true; the input reads as it did. -/
def fnExactTotalsOfSpec : ChangeSpec := { name := "fnExactTotalsOf", fn := fun _ => fun
  | [d] => { results := [.lit (.bool true)], args := [d] }
  | _ => none }
def fnExactTotalsOfRow : OpenClaim := { program := "ytlfljfmhhnoinaa", sum := "dcdea5ff20e3826488214df617805938a8fb59dc52cd1e32ec3aca42b15a4849", func := "loop.example/g00305/laws.FnExactTotalsOf", spec := "fnExactTotalsOf", unfollowed := true, recurses := true, plainKeys := false, apart := false }
def FnExactTotalsOfSaid : Prop := fnExactTotalsOfRow.holds Try.pinned (OpenSpec.ofChange fnExactTotalsOfSpec)

/-- ITS FALSE NEIGHBOUR: 'it returns false'. Refute it at one input. -/
def fnExactTotalsOfWrong : ChangeSpec := { name := "fnExactTotalsOf", fn := fun _ => fun
  | [d] => { results := [.lit (.bool false)], args := [d] }
  | _ => none }
def FnExactTotalsOfWrongFalsely : Prop := fnExactTotalsOfRow.holds Try.pinned (OpenSpec.ofChange fnExactTotalsOfWrong)

/-- 'laws.FnExactRollUp': WHATEVER THE INPUT: true; the input reads as it did. -/
def fnExactRollUpSpec : ChangeSpec := { name := "fnExactRollUp", fn := fun _ => fun
  | [d1, d2] => { results := [.lit (.bool true)], args := [d1, d2] }
  | _ => none }
def fnExactRollUpRow : OpenClaim := { program := "ytlfljfmhhnoinaa", sum := "dcdea5ff20e3826488214df617805938a8fb59dc52cd1e32ec3aca42b15a4849", func := "loop.example/g00305/laws.FnExactRollUp", spec := "fnExactRollUp", unfollowed := true, recurses := true, plainKeys := false, apart := false }
def FnExactRollUpSaid : Prop := fnExactRollUpRow.holds Try.pinned (OpenSpec.ofChange fnExactRollUpSpec)

/-- ITS FALSE NEIGHBOUR: 'it returns false'. Refute it at one input. -/
def fnExactRollUpWrong : ChangeSpec := { name := "fnExactRollUp", fn := fun _ => fun
  | [d1, d2] => { results := [.lit (.bool false)], args := [d1, d2] }
  | _ => none }
def FnExactRollUpWrongFalsely : Prop := fnExactRollUpRow.holds Try.pinned (OpenSpec.ofChange fnExactRollUpWrong)

/-- 'laws.FnExactMergeGroups': WHATEVER THE INPUT: true; the input reads as it did. -/
def fnExactMergeGroupsSpec : ChangeSpec := { name := "fnExactMergeGroups", fn := fun _ => fun
  | [d1, d2] => { results := [.lit (.bool true)], args := [d1, d2] }
  | _ => none }
def fnExactMergeGroupsRow : OpenClaim := { program := "ytlfljfmhhnoinaa", sum := "dcdea5ff20e3826488214df617805938a8fb59dc52cd1e32ec3aca42b15a4849", func := "loop.example/g00305/laws.FnExactMergeGroups", spec := "fnExactMergeGroups", unfollowed := true, recurses := true, plainKeys := false, apart := false }
def FnExactMergeGroupsSaid : Prop := fnExactMergeGroupsRow.holds Try.pinned (OpenSpec.ofChange fnExactMergeGroupsSpec)

/-- ITS FALSE NEIGHBOUR: 'it returns false'. Refute it at one input. -/
def fnExactMergeGroupsWrong : ChangeSpec := { name := "fnExactMergeGroups", fn := fun _ => fun
  | [d1, d2] => { results := [.lit (.bool false)], args := [d1, d2] }
  | _ => none }
def FnExactMergeGroupsWrongFalsely : Prop := fnExactMergeGroupsRow.holds Try.pinned (OpenSpec.ofChange fnExactMergeGroupsWrong)

/- THE SECOND FORM. 'bulk': how many values and letters a reading holds, each counted each time it is reached (what is shared counts as often as it is met; a slice's spare places count too). A statement '..UptoSaid' is the law's where the arguments, and the package variables that the reading takes, are together of bulk at most 1048576: NARROWER than '..Said'. Prove '..Said' where nothing that the law and all that it calls make is longer than what came in: it says more and counts as full. Else prove '..UptoSaid'. A law counts once. -/
mutual
def uptoBulk {H : Type} : DataW H → Nat
  | .lit (.string bytes) => bytes.length + 1
  | .lit _ => 1
  | .nil => 1
  | .ptr d => uptoBulk d + 1
  | .slice elems spare => uptoBulkAll elems + uptoBulkAll spare + 1
  | .agg parts => uptoBulkAll parts + 1
  | .iface _ d => uptoBulk d + 1
  | .map entries => uptoBulkEntries entries + 1
  | .held _ => 1
def uptoBulkAll {H : Type} : List (DataW H) → Nat
  | [] => 0
  | d :: r => uptoBulk d + uptoBulkAll r
def uptoBulkEntries {H : Type} : List (Lit × DataW H) → Nat
  | [] => 0
  | x :: r => uptoBulkEntry x + uptoBulkEntries r
def uptoBulkEntry {H : Type} : Lit × DataW H → Nat
  | (.string bytes, d) => bytes.length + uptoBulk d + 1
  | (_, d) => uptoBulk d + 1
 end
def uptoSmall : (H : Type) → List (DataW H) → Bool := fun _ ds => decide (uptoBulkAll ds ≤ 1048576)
def OpenSpec.upto (s : _root_.Go.ChangeSpec) : _root_.Go.OpenSpec := { _root_.Go.OpenSpec.ofChange s with cond := some uptoSmall }

/-- 'laws.FnExactGoodGroups', WHERE WHAT IT READS IS OF BULK AT MOST 1048576: true; the input reads as it did. -/
def fnExactGoodGroupsUptoRow : OpenClaim := { program := "ytlfljfmhhnoinaa", sum := "dcdea5ff20e3826488214df617805938a8fb59dc52cd1e32ec3aca42b15a4849", func := "loop.example/g00305/laws.FnExactGoodGroups", spec := "fnExactGoodGroups", plainKeys := false, apart := false, narrowed := true }
def FnExactGoodGroupsUptoSaid : Prop := fnExactGoodGroupsUptoRow.holds Try.pinned (OpenSpec.upto fnExactGoodGroupsSpec)

/-- 'laws.FnExactGroupFor', WHERE WHAT IT READS IS OF BULK AT MOST 1048576: true; the input reads as it did. -/
def fnExactGroupForUptoRow : OpenClaim := { program := "ytlfljfmhhnoinaa", sum := "dcdea5ff20e3826488214df617805938a8fb59dc52cd1e32ec3aca42b15a4849", func := "loop.example/g00305/laws.FnExactGroupFor", spec := "fnExactGroupFor", plainKeys := false, apart := false, narrowed := true }
def FnExactGroupForUptoSaid : Prop := fnExactGroupForUptoRow.holds Try.pinned (OpenSpec.upto fnExactGroupForSpec)

/-- 'laws.FnExactGroupsAsTable', WHERE WHAT IT READS IS OF BULK AT MOST 1048576: true; the input reads as it did. -/
def fnExactGroupsAsTableUptoRow : OpenClaim := { program := "ytlfljfmhhnoinaa", sum := "dcdea5ff20e3826488214df617805938a8fb59dc52cd1e32ec3aca42b15a4849", func := "loop.example/g00305/laws.FnExactGroupsAsTable", spec := "fnExactGroupsAsTable", plainKeys := false, apart := false, narrowed := true }
def FnExactGroupsAsTableUptoSaid : Prop := fnExactGroupsAsTableUptoRow.holds Try.pinned (OpenSpec.upto fnExactGroupsAsTableSpec)

/-- 'laws.FnExactTotalsOf', WHERE WHAT IT READS IS OF BULK AT MOST 1048576: true; the input reads as it did. -/
def fnExactTotalsOfUptoRow : OpenClaim := { program := "ytlfljfmhhnoinaa", sum := "dcdea5ff20e3826488214df617805938a8fb59dc52cd1e32ec3aca42b15a4849", func := "loop.example/g00305/laws.FnExactTotalsOf", spec := "fnExactTotalsOf", unfollowed := true, recurses := true, plainKeys := false, apart := false, narrowed := true }
def FnExactTotalsOfUptoSaid : Prop := fnExactTotalsOfUptoRow.holds Try.pinned (OpenSpec.upto fnExactTotalsOfSpec)

/-- 'laws.FnExactRollUp', WHERE WHAT IT READS IS OF BULK AT MOST 1048576: true; the input reads as it did. -/
def fnExactRollUpUptoRow : OpenClaim := { program := "ytlfljfmhhnoinaa", sum := "dcdea5ff20e3826488214df617805938a8fb59dc52cd1e32ec3aca42b15a4849", func := "loop.example/g00305/laws.FnExactRollUp", spec := "fnExactRollUp", unfollowed := true, recurses := true, plainKeys := false, apart := false, narrowed := true }
def FnExactRollUpUptoSaid : Prop := fnExactRollUpUptoRow.holds Try.pinned (OpenSpec.upto fnExactRollUpSpec)

/-- 'laws.FnExactMergeGroups', WHERE WHAT IT READS IS OF BULK AT MOST 1048576: true; the input reads as it did. -/
def fnExactMergeGroupsUptoRow : OpenClaim := { program := "ytlfljfmhhnoinaa", sum := "dcdea5ff20e3826488214df617805938a8fb59dc52cd1e32ec3aca42b15a4849", func := "loop.example/g00305/laws.FnExactMergeGroups", spec := "fnExactMergeGroups", unfollowed := true, recurses := true, plainKeys := false, apart := false, narrowed := true }
def FnExactMergeGroupsUptoSaid : Prop := fnExactMergeGroupsUptoRow.holds Try.pinned (OpenSpec.upto fnExactMergeGroupsSpec)

end Rows
end Go.Proofs.Ytlfljfmhhnoinaa
