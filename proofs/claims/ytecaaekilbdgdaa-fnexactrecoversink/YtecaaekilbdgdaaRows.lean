/-
  No cell of these rows narrows 'for every input' (looked for: loops, veiled, ifaces, maps, wideKeys, modest, calm, conditions, laid).
  DERIVED. THE GIVEN ROWS OF THIS SEAT. 5 by the template 'for every input the law returns true; each argument reads behind the call as it read before'; 0 by the template 'total and deterministic' (their statements: YtecaaekilbdgdaaTotals.lean).
  GIVEN WITH THE SEED: the statements are not yours to turn. If you find one false, say at which input.
  Laid BY PROGRAM, IN A SANDBOX (cutbox-rows.mjs): the forced cells as the released guide's own fill.sh prints them over the translation b1c13d258889d0c1… (all of the seat's roots in one cut). By AI agents, Wed Nov 11 2026. No macro, syntax, notation, axiom, sorry.
-/
import Derived.Test.YtecaaekilbdgdaaChecked
import GoSem.Claim
import GoSem.ClaimJoined
import GoSem.ClaimMapViews
import Derived.JoinedTies
import Derived.KernelRfl
namespace Go.Proofs.Ytecaaekilbdgdaa
/- THE CELL 'sum', in the pinned program and in every row, IS THE sha256 OF THE DUMP (.gsa) THAT YtecaaekilbdgdaaProg.lean LOADS. Nothing in Lean hashes anything: it is a label: what it is worth is what the hold of that sum in a sandbox is worth. -/
noncomputable def Try.pinned : Pinned := { name := "ytecaaekilbdgdaa", sum := "b1c13d258889d0c18329729610820d3499cce64bd58e3dd99826619511753ebd", checked := Try.checked }
namespace Rows
def none {H : Type} : Left H := { results := [], args := [] }

/-- 'laws.FnExactNewSink': WHATEVER THE INPUT: true; the input reads as it did. -/
def fnExactNewSinkSpec : ChangeSpec := { name := "fnExactNewSink", fn := fun _ => fun
  | [d] => { results := [.lit (.bool true)], args := [d] }
  | _ => none }
def fnExactNewSinkRow : OpenClaim := { program := "ytecaaekilbdgdaa", sum := "b1c13d258889d0c18329729610820d3499cce64bd58e3dd99826619511753ebd", func := "loop.example/g00305/laws.FnExactNewSink", spec := "fnExactNewSink", apart := false }
def FnExactNewSinkSaid : Prop := fnExactNewSinkRow.holds Try.pinned (OpenSpec.ofChange fnExactNewSinkSpec)

/-- ITS FALSE NEIGHBOUR: 'it returns false'. Refute it at one input. -/
def fnExactNewSinkWrong : ChangeSpec := { name := "fnExactNewSink", fn := fun _ => fun
  | [d] => { results := [.lit (.bool false)], args := [d] }
  | _ => none }
def FnExactNewSinkWrongFalsely : Prop := fnExactNewSinkRow.holds Try.pinned (OpenSpec.ofChange fnExactNewSinkWrong)

/-- 'laws.FnExactGoodSink': WHATEVER THE INPUT: true; the input reads as it did. -/
def fnExactGoodSinkSpec : ChangeSpec := { name := "fnExactGoodSink", fn := fun _ => fun
  | [d] => { results := [.lit (.bool true)], args := [d] }
  | _ => none }
def fnExactGoodSinkRow : OpenClaim := { program := "ytecaaekilbdgdaa", sum := "b1c13d258889d0c18329729610820d3499cce64bd58e3dd99826619511753ebd", func := "loop.example/g00305/laws.FnExactGoodSink", spec := "fnExactGoodSink", apart := false }
def FnExactGoodSinkSaid : Prop := fnExactGoodSinkRow.holds Try.pinned (OpenSpec.ofChange fnExactGoodSinkSpec)

/-- ITS FALSE NEIGHBOUR: 'it returns false'. Refute it at one input. -/
def fnExactGoodSinkWrong : ChangeSpec := { name := "fnExactGoodSink", fn := fun _ => fun
  | [d] => { results := [.lit (.bool false)], args := [d] }
  | _ => none }
def FnExactGoodSinkWrongFalsely : Prop := fnExactGoodSinkRow.holds Try.pinned (OpenSpec.ofChange fnExactGoodSinkWrong)

/-- 'laws.FnExactRecoverSink': WHATEVER THE INPUT: true; the input reads as it did. -/
def fnExactRecoverSinkSpec : ChangeSpec := { name := "fnExactRecoverSink", fn := fun _ => fun
  | [d] => { results := [.lit (.bool true)], args := [d] }
  | _ => none }
def fnExactRecoverSinkRow : OpenClaim := { program := "ytecaaekilbdgdaa", sum := "b1c13d258889d0c18329729610820d3499cce64bd58e3dd99826619511753ebd", func := "loop.example/g00305/laws.FnExactRecoverSink", spec := "fnExactRecoverSink", unfollowed := true, recurses := true, apart := false }
def FnExactRecoverSinkSaid : Prop := fnExactRecoverSinkRow.holds Try.pinned (OpenSpec.ofChange fnExactRecoverSinkSpec)

/-- ITS FALSE NEIGHBOUR: 'it returns false'. Refute it at one input. -/
def fnExactRecoverSinkWrong : ChangeSpec := { name := "fnExactRecoverSink", fn := fun _ => fun
  | [d] => { results := [.lit (.bool false)], args := [d] }
  | _ => none }
def FnExactRecoverSinkWrongFalsely : Prop := fnExactRecoverSinkRow.holds Try.pinned (OpenSpec.ofChange fnExactRecoverSinkWrong)

/-- 'laws.FnExactDrainSink': WHATEVER THE INPUT: true; the input reads as it did. -/
def fnExactDrainSinkSpec : ChangeSpec := { name := "fnExactDrainSink", fn := fun _ => fun
  | [d] => { results := [.lit (.bool true)], args := [d] }
  | _ => none }
def fnExactDrainSinkRow : OpenClaim := { program := "ytecaaekilbdgdaa", sum := "b1c13d258889d0c18329729610820d3499cce64bd58e3dd99826619511753ebd", func := "loop.example/g00305/laws.FnExactDrainSink", spec := "fnExactDrainSink", unfollowed := true, recurses := true, apart := false }
def FnExactDrainSinkSaid : Prop := fnExactDrainSinkRow.holds Try.pinned (OpenSpec.ofChange fnExactDrainSinkSpec)

/-- ITS FALSE NEIGHBOUR: 'it returns false'. Refute it at one input. -/
def fnExactDrainSinkWrong : ChangeSpec := { name := "fnExactDrainSink", fn := fun _ => fun
  | [d] => { results := [.lit (.bool false)], args := [d] }
  | _ => none }
def FnExactDrainSinkWrongFalsely : Prop := fnExactDrainSinkRow.holds Try.pinned (OpenSpec.ofChange fnExactDrainSinkWrong)

/-- 'laws.FnExactOutOf': WHATEVER THE INPUT: true; the input reads as it did. -/
def fnExactOutOfSpec : ChangeSpec := { name := "fnExactOutOf", fn := fun _ => fun
  | [d] => { results := [.lit (.bool true)], args := [d] }
  | _ => none }
def fnExactOutOfRow : OpenClaim := { program := "ytecaaekilbdgdaa", sum := "b1c13d258889d0c18329729610820d3499cce64bd58e3dd99826619511753ebd", func := "loop.example/g00305/laws.FnExactOutOf", spec := "fnExactOutOf", apart := false }
def FnExactOutOfSaid : Prop := fnExactOutOfRow.holds Try.pinned (OpenSpec.ofChange fnExactOutOfSpec)

/-- ITS FALSE NEIGHBOUR: 'it returns false'. Refute it at one input. -/
def fnExactOutOfWrong : ChangeSpec := { name := "fnExactOutOf", fn := fun _ => fun
  | [d] => { results := [.lit (.bool false)], args := [d] }
  | _ => none }
def FnExactOutOfWrongFalsely : Prop := fnExactOutOfRow.holds Try.pinned (OpenSpec.ofChange fnExactOutOfWrong)

/- THE SECOND FORM. 'bulk': how many values and letters a reading holds, each counted each time it is reached (what is shared counts as often as it is met; a slice's spare places count too). A statement '..UptoSaid' is the law's where the arguments, and the package variables that the reading takes, are together of bulk at most 1048576: NARROWER than '..Said'. Prove '..Said' where nothing that the law and all that it calls make is longer than what came in: it says more and counts as full. Else prove '..UptoSaid'. A law counts once. -/
mutual
def uptoBulk {H : Type} : DataW H → Nat
  | .lit (.string bytes) => bytes.length + 1
  | .lit _ => 1
  | .nil => 1
  | .ptr d => uptoBulk d + 1
  | .slice elems spare => uptoBulkAll elems + uptoBulkAll spare + 1
  | .agg parts => uptoBulkAll parts + 1
  | .iface _ d => uptoBulk d + 1
  | .map entries => uptoBulkEntries entries + 1
  | .held _ => 1
def uptoBulkAll {H : Type} : List (DataW H) → Nat
  | [] => 0
  | d :: r => uptoBulk d + uptoBulkAll r
def uptoBulkEntries {H : Type} : List (Lit × DataW H) → Nat
  | [] => 0
  | x :: r => uptoBulkEntry x + uptoBulkEntries r
def uptoBulkEntry {H : Type} : Lit × DataW H → Nat
  | (.string bytes, d) => bytes.length + uptoBulk d + 1
  | (_, d) => uptoBulk d + 1
 end
def uptoSmall : (H : Type) → List (DataW H) → Bool := fun _ ds => decide (uptoBulkAll ds ≤ 1048576)
def OpenSpec.upto (s : _root_.Go.ChangeSpec) : _root_.Go.OpenSpec := { _root_.Go.OpenSpec.ofChange s with cond := some uptoSmall }

/-- 'laws.FnExactNewSink', WHERE WHAT IT READS IS OF BULK AT MOST 1048576: true; the input reads as it did. -/
def fnExactNewSinkUptoRow : OpenClaim := { program := "ytecaaekilbdgdaa", sum := "b1c13d258889d0c18329729610820d3499cce64bd58e3dd99826619511753ebd", func := "loop.example/g00305/laws.FnExactNewSink", spec := "fnExactNewSink", apart := false, narrowed := true }
def FnExactNewSinkUptoSaid : Prop := fnExactNewSinkUptoRow.holds Try.pinned (OpenSpec.upto fnExactNewSinkSpec)

/-- 'laws.FnExactGoodSink', WHERE WHAT IT READS IS OF BULK AT MOST 1048576: true; the input reads as it did. -/
def fnExactGoodSinkUptoRow : OpenClaim := { program := "ytecaaekilbdgdaa", sum := "b1c13d258889d0c18329729610820d3499cce64bd58e3dd99826619511753ebd", func := "loop.example/g00305/laws.FnExactGoodSink", spec := "fnExactGoodSink", apart := false, narrowed := true }
def FnExactGoodSinkUptoSaid : Prop := fnExactGoodSinkUptoRow.holds Try.pinned (OpenSpec.upto fnExactGoodSinkSpec)

/-- 'laws.FnExactRecoverSink', WHERE WHAT IT READS IS OF BULK AT MOST 1048576: true; the input reads as it did. -/
def fnExactRecoverSinkUptoRow : OpenClaim := { program := "ytecaaekilbdgdaa", sum := "b1c13d258889d0c18329729610820d3499cce64bd58e3dd99826619511753ebd", func := "loop.example/g00305/laws.FnExactRecoverSink", spec := "fnExactRecoverSink", unfollowed := true, recurses := true, apart := false, narrowed := true }
def FnExactRecoverSinkUptoSaid : Prop := fnExactRecoverSinkUptoRow.holds Try.pinned (OpenSpec.upto fnExactRecoverSinkSpec)

/-- 'laws.FnExactDrainSink', WHERE WHAT IT READS IS OF BULK AT MOST 1048576: true; the input reads as it did. -/
def fnExactDrainSinkUptoRow : OpenClaim := { program := "ytecaaekilbdgdaa", sum := "b1c13d258889d0c18329729610820d3499cce64bd58e3dd99826619511753ebd", func := "loop.example/g00305/laws.FnExactDrainSink", spec := "fnExactDrainSink", unfollowed := true, recurses := true, apart := false, narrowed := true }
def FnExactDrainSinkUptoSaid : Prop := fnExactDrainSinkUptoRow.holds Try.pinned (OpenSpec.upto fnExactDrainSinkSpec)

/-- 'laws.FnExactOutOf', WHERE WHAT IT READS IS OF BULK AT MOST 1048576: true; the input reads as it did. -/
def fnExactOutOfUptoRow : OpenClaim := { program := "ytecaaekilbdgdaa", sum := "b1c13d258889d0c18329729610820d3499cce64bd58e3dd99826619511753ebd", func := "loop.example/g00305/laws.FnExactOutOf", spec := "fnExactOutOf", apart := false, narrowed := true }
def FnExactOutOfUptoSaid : Prop := fnExactOutOfUptoRow.holds Try.pinned (OpenSpec.upto fnExactOutOfSpec)

end Rows
end Go.Proofs.Ytecaaekilbdgdaa
