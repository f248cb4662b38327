/-
  No cell of these rows narrows 'for every input' (looked for: loops, veiled, ifaces, maps, wideKeys, modest, calm, conditions, laid).
  DERIVED. THE GIVEN ROWS OF THIS SEAT. 6 by the template 'for every input the law returns true; each argument reads behind the call as it read before'; 0 by the template 'total and deterministic' (their statements: YtmkhdocjabflkaaTotals.lean).
  GIVEN WITH THE SEED: the statements are not yours to turn. If you find one false, say at which input.
  Laid BY PROGRAM, IN A SANDBOX (cutbox-rows.mjs): the forced cells as the released guide's own fill.sh prints them over the translation 4b6c82ba4dd5f7c0… (all of the seat's roots in one cut). By AI agents, Wed Nov 11 2026. No macro, syntax, notation, axiom, sorry.
-/
import Derived.Test.YtmkhdocjabflkaaChecked
import GoSem.Claim
import GoSem.ClaimJoined
import GoSem.ClaimMapViews
import Derived.JoinedTies
import Derived.KernelRfl
namespace Go.Proofs.Ytmkhdocjabflkaa
/- THE CELL 'sum', in the pinned program and in every row, IS THE sha256 OF THE DUMP (.gsa) THAT YtmkhdocjabflkaaProg.lean LOADS. Nothing in Lean hashes anything: it is a label: what it is worth is what the hold of that sum in a sandbox is worth. -/
noncomputable def Try.pinned : Pinned := { name := "ytmkhdocjabflkaa", sum := "4b6c82ba4dd5f7c03825e9a41971e2cfbbc5c25f292361ec3cc37d2549ac5049", checked := Try.checked }
namespace Rows
def none {H : Type} : Left H := { results := [], args := [] }

/-- 'laws.FnDeltas': WHATEVER THE INPUT: true; the input reads as it did. -/
def fnDeltasSpec : ChangeSpec := { name := "fnDeltas", fn := fun _ => fun
  | [d1, d2] => { results := [.lit (.bool true)], args := [d1, d2] }
  | _ => none }
def fnDeltasRow : OpenClaim := { program := "ytmkhdocjabflkaa", sum := "4b6c82ba4dd5f7c03825e9a41971e2cfbbc5c25f292361ec3cc37d2549ac5049", func := "loop.example/g00305/laws.FnDeltas", spec := "fnDeltas", unfollowed := true, recurses := true, plainKeys := false, apart := false }
def FnDeltasSaid : Prop := fnDeltasRow.holds Try.pinned (OpenSpec.ofChange fnDeltasSpec)

/-- ITS FALSE NEIGHBOUR: 'it returns false'. Refute it at one input. -/
def fnDeltasWrong : ChangeSpec := { name := "fnDeltas", fn := fun _ => fun
  | [d1, d2] => { results := [.lit (.bool false)], args := [d1, d2] }
  | _ => none }
def FnDeltasWrongFalsely : Prop := fnDeltasRow.holds Try.pinned (OpenSpec.ofChange fnDeltasWrong)

/-- 'laws.FnExactGoodStream': WHATEVER THE INPUT: true; the input reads as it did. -/
def fnExactGoodStreamSpec : ChangeSpec := { name := "fnExactGoodStream", fn := fun _ => fun
  | [d] => { results := [.lit (.bool true)], args := [d] }
  | _ => none }
def fnExactGoodStreamRow : OpenClaim := { program := "ytmkhdocjabflkaa", sum := "4b6c82ba4dd5f7c03825e9a41971e2cfbbc5c25f292361ec3cc37d2549ac5049", func := "loop.example/g00305/laws.FnExactGoodStream", spec := "fnExactGoodStream", plainKeys := false, apart := false }
def FnExactGoodStreamSaid : Prop := fnExactGoodStreamRow.holds Try.pinned (OpenSpec.ofChange fnExactGoodStreamSpec)

/-- ITS FALSE NEIGHBOUR: 'it returns false'. Refute it at one input. -/
def fnExactGoodStreamWrong : ChangeSpec := { name := "fnExactGoodStream", fn := fun _ => fun
  | [d] => { results := [.lit (.bool false)], args := [d] }
  | _ => none }
def FnExactGoodStreamWrongFalsely : Prop := fnExactGoodStreamRow.holds Try.pinned (OpenSpec.ofChange fnExactGoodStreamWrong)

/-- 'laws.FnExactIntegrate': WHATEVER THE INPUT: true; the input reads as it did. -/
def fnExactIntegrateSpec : ChangeSpec := { name := "fnExactIntegrate", fn := fun _ => fun
  | [d] => { results := [.lit (.bool true)], args := [d] }
  | _ => none }
def fnExactIntegrateRow : OpenClaim := { program := "ytmkhdocjabflkaa", sum := "4b6c82ba4dd5f7c03825e9a41971e2cfbbc5c25f292361ec3cc37d2549ac5049", func := "loop.example/g00305/laws.FnExactIntegrate", spec := "fnExactIntegrate", unfollowed := true, recurses := true, plainKeys := false, apart := false }
def FnExactIntegrateSaid : Prop := fnExactIntegrateRow.holds Try.pinned (OpenSpec.ofChange fnExactIntegrateSpec)

/-- ITS FALSE NEIGHBOUR: 'it returns false'. Refute it at one input. -/
def fnExactIntegrateWrong : ChangeSpec := { name := "fnExactIntegrate", fn := fun _ => fun
  | [d] => { results := [.lit (.bool false)], args := [d] }
  | _ => none }
def FnExactIntegrateWrongFalsely : Prop := fnExactIntegrateRow.holds Try.pinned (OpenSpec.ofChange fnExactIntegrateWrong)

/-- 'laws.FnExactDifferentiate': WHATEVER THE INPUT: true; the input reads as it did. -/
def fnExactDifferentiateSpec : ChangeSpec := { name := "fnExactDifferentiate", fn := fun _ => fun
  | [d] => { results := [.lit (.bool true)], args := [d] }
  | _ => none }
def fnExactDifferentiateRow : OpenClaim := { program := "ytmkhdocjabflkaa", sum := "4b6c82ba4dd5f7c03825e9a41971e2cfbbc5c25f292361ec3cc37d2549ac5049", func := "loop.example/g00305/laws.FnExactDifferentiate", spec := "fnExactDifferentiate", unfollowed := true, recurses := true, plainKeys := false, apart := false }
def FnExactDifferentiateSaid : Prop := fnExactDifferentiateRow.holds Try.pinned (OpenSpec.ofChange fnExactDifferentiateSpec)

/-- ITS FALSE NEIGHBOUR: 'it returns false'. Refute it at one input. -/
def fnExactDifferentiateWrong : ChangeSpec := { name := "fnExactDifferentiate", fn := fun _ => fun
  | [d] => { results := [.lit (.bool false)], args := [d] }
  | _ => none }
def FnExactDifferentiateWrongFalsely : Prop := fnExactDifferentiateRow.holds Try.pinned (OpenSpec.ofChange fnExactDifferentiateWrong)

/-- 'laws.FnExactDelayStream': WHATEVER THE INPUT: true; the input reads as it did. -/
def fnExactDelayStreamSpec : ChangeSpec := { name := "fnExactDelayStream", fn := fun _ => fun
  | [d] => { results := [.lit (.bool true)], args := [d] }
  | _ => none }
def fnExactDelayStreamRow : OpenClaim := { program := "ytmkhdocjabflkaa", sum := "4b6c82ba4dd5f7c03825e9a41971e2cfbbc5c25f292361ec3cc37d2549ac5049", func := "loop.example/g00305/laws.FnExactDelayStream", spec := "fnExactDelayStream", unfollowed := true, recurses := true, plainKeys := false, apart := false }
def FnExactDelayStreamSaid : Prop := fnExactDelayStreamRow.holds Try.pinned (OpenSpec.ofChange fnExactDelayStreamSpec)

/-- ITS FALSE NEIGHBOUR: 'it returns false'. Refute it at one input. -/
def fnExactDelayStreamWrong : ChangeSpec := { name := "fnExactDelayStream", fn := fun _ => fun
  | [d] => { results := [.lit (.bool false)], args := [d] }
  | _ => none }
def FnExactDelayStreamWrongFalsely : Prop := fnExactDelayStreamRow.holds Try.pinned (OpenSpec.ofChange fnExactDelayStreamWrong)

/-- 'laws.FnExactJoinDelta': WHATEVER THE INPUT: true; the input reads as it did. -/
def fnExactJoinDeltaSpec : ChangeSpec := { name := "fnExactJoinDelta", fn := fun _ => fun
  | [d1, d2, d3, d4, d5] => { results := [.lit (.bool true)], args := [d1, d2, d3, d4, d5] }
  | _ => none }
def fnExactJoinDeltaRow : OpenClaim := { program := "ytmkhdocjabflkaa", sum := "4b6c82ba4dd5f7c03825e9a41971e2cfbbc5c25f292361ec3cc37d2549ac5049", func := "loop.example/g00305/laws.FnExactJoinDelta", spec := "fnExactJoinDelta", unfollowed := true, recurses := true, plainKeys := false, apart := false }
def FnExactJoinDeltaSaid : Prop := fnExactJoinDeltaRow.holds Try.pinned (OpenSpec.ofChange fnExactJoinDeltaSpec)

/-- ITS FALSE NEIGHBOUR: 'it returns false'. Refute it at one input. -/
def fnExactJoinDeltaWrong : ChangeSpec := { name := "fnExactJoinDelta", fn := fun _ => fun
  | [d1, d2, d3, d4, d5] => { results := [.lit (.bool false)], args := [d1, d2, d3, d4, d5] }
  | _ => none }
def FnExactJoinDeltaWrongFalsely : Prop := fnExactJoinDeltaRow.holds Try.pinned (OpenSpec.ofChange fnExactJoinDeltaWrong)

/- THE SECOND FORM. 'bulk': how many values and letters a reading holds, each counted each time it is reached (what is shared counts as often as it is met; a slice's spare places count too). A statement '..UptoSaid' is the law's where the arguments, and the package variables that the reading takes, are together of bulk at most 1048576: NARROWER than '..Said'. Prove '..Said' where nothing that the law and all that it calls make is longer than what came in: it says more and counts as full. Else prove '..UptoSaid'. A law counts once. -/
mutual
def uptoBulk {H : Type} : DataW H → Nat
  | .lit (.string bytes) => bytes.length + 1
  | .lit _ => 1
  | .nil => 1
  | .ptr d => uptoBulk d + 1
  | .slice elems spare => uptoBulkAll elems + uptoBulkAll spare + 1
  | .agg parts => uptoBulkAll parts + 1
  | .iface _ d => uptoBulk d + 1
  | .map entries => uptoBulkEntries entries + 1
  | .held _ => 1
def uptoBulkAll {H : Type} : List (DataW H) → Nat
  | [] => 0
  | d :: r => uptoBulk d + uptoBulkAll r
def uptoBulkEntries {H : Type} : List (Lit × DataW H) → Nat
  | [] => 0
  | x :: r => uptoBulkEntry x + uptoBulkEntries r
def uptoBulkEntry {H : Type} : Lit × DataW H → Nat
  | (.string bytes, d) => bytes.length + uptoBulk d + 1
  | (_, d) => uptoBulk d + 1
 end
def uptoSmall : (H : Type) → List (DataW H) → Bool := fun _ ds => decide (uptoBulkAll ds ≤ 1048576)
def OpenSpec.upto (s : _root_.Go.ChangeSpec) : _root_.Go.OpenSpec := { _root_.Go.OpenSpec.ofChange s with cond := some uptoSmall }

/-- 'laws.FnDeltas', WHERE WHAT IT READS IS OF BULK AT MOST 1048576: true; the input reads as it did. -/
def fnDeltasUptoRow : OpenClaim := { program := "ytmkhdocjabflkaa", sum := "4b6c82ba4dd5f7c03825e9a41971e2cfbbc5c25f292361ec3cc37d2549ac5049", func := "loop.example/g00305/laws.FnDeltas", spec := "fnDeltas", unfollowed := true, recurses := true, plainKeys := false, apart := false, narrowed := true }
def FnDeltasUptoSaid : Prop := fnDeltasUptoRow.holds Try.pinned (OpenSpec.upto fnDeltasSpec)

/-- 'laws.FnExactGoodStream', WHERE WHAT IT READS IS OF BULK AT MOST 1048576: true; the input reads as it did. -/
def fnExactGoodStreamUptoRow : OpenClaim := { program := "ytmkhdocjabflkaa", sum := "4b6c82ba4dd5f7c03825e9a41971e2cfbbc5c25f292361ec3cc37d2549ac5049", func := "loop.example/g00305/laws.FnExactGoodStream", spec := "fnExactGoodStream", plainKeys := false, apart := false, narrowed := true }
def FnExactGoodStreamUptoSaid : Prop := fnExactGoodStreamUptoRow.holds Try.pinned (OpenSpec.upto fnExactGoodStreamSpec)

/-- 'laws.FnExactIntegrate', WHERE WHAT IT READS IS OF BULK AT MOST 1048576: true; the input reads as it did. -/
def fnExactIntegrateUptoRow : OpenClaim := { program := "ytmkhdocjabflkaa", sum := "4b6c82ba4dd5f7c03825e9a41971e2cfbbc5c25f292361ec3cc37d2549ac5049", func := "loop.example/g00305/laws.FnExactIntegrate", spec := "fnExactIntegrate", unfollowed := true, recurses := true, plainKeys := false, apart := false, narrowed := true }
def FnExactIntegrateUptoSaid : Prop := fnExactIntegrateUptoRow.holds Try.pinned (OpenSpec.upto fnExactIntegrateSpec)

/-- 'laws.FnExactDifferentiate', WHERE WHAT IT READS IS OF BULK AT MOST 1048576: true; the input reads as it did. -/
def fnExactDifferentiateUptoRow : OpenClaim := { program := "ytmkhdocjabflkaa", sum := "4b6c82ba4dd5f7c03825e9a41971e2cfbbc5c25f292361ec3cc37d2549ac5049", func := "loop.example/g00305/laws.FnExactDifferentiate", spec := "fnExactDifferentiate", unfollowed := true, recurses := true, plainKeys := false, apart := false, narrowed := true }
def FnExactDifferentiateUptoSaid : Prop := fnExactDifferentiateUptoRow.holds Try.pinned (OpenSpec.upto fnExactDifferentiateSpec)

/-- 'laws.FnExactDelayStream', WHERE WHAT IT READS IS OF BULK AT MOST 1048576: true; the input reads as it did. -/
def fnExactDelayStreamUptoRow : OpenClaim := { program := "ytmkhdocjabflkaa", sum := "4b6c82ba4dd5f7c03825e9a41971e2cfbbc5c25f292361ec3cc37d2549ac5049", func := "loop.example/g00305/laws.FnExactDelayStream", spec := "fnExactDelayStream", unfollowed := true, recurses := true, plainKeys := false, apart := false, narrowed := true }
def FnExactDelayStreamUptoSaid : Prop := fnExactDelayStreamUptoRow.holds Try.pinned (OpenSpec.upto fnExactDelayStreamSpec)

/-- 'laws.FnExactJoinDelta', WHERE WHAT IT READS IS OF BULK AT MOST 1048576: true; the input reads as it did. -/
def fnExactJoinDeltaUptoRow : OpenClaim := { program := "ytmkhdocjabflkaa", sum := "4b6c82ba4dd5f7c03825e9a41971e2cfbbc5c25f292361ec3cc37d2549ac5049", func := "loop.example/g00305/laws.FnExactJoinDelta", spec := "fnExactJoinDelta", unfollowed := true, recurses := true, plainKeys := false, apart := false, narrowed := true }
def FnExactJoinDeltaUptoSaid : Prop := fnExactJoinDeltaUptoRow.holds Try.pinned (OpenSpec.upto fnExactJoinDeltaSpec)

end Rows
end Go.Proofs.Ytmkhdocjabflkaa
