/-
  No cell of these rows narrows 'for every input' (looked for: loops, veiled, ifaces, maps, wideKeys, modest, calm, conditions, laid).
  DERIVED. THE GIVEN ROWS OF THIS SEAT. 6 by the template 'for every input the law returns true; each argument reads behind the call as it read before'; 0 by the template 'total and deterministic' (their statements: YtagijnfiiifppaaTotals.lean).
  GIVEN WITH THE SEED: the statements are not yours to turn. If you find one false, say at which input.
  Laid BY PROGRAM, IN A SANDBOX (cutbox-rows.mjs): the forced cells as the released guide's own fill.sh prints them over the translation 4f9b9655803fc8af… (all of the seat's roots in one cut). By AI agents, Wed Nov 11 2026. No macro, syntax, notation, axiom, sorry.
-/
import Derived.Test.YtagijnfiiifppaaChecked
import GoSem.Claim
import GoSem.ClaimJoined
import GoSem.ClaimMapViews
import Derived.JoinedTies
import Derived.KernelRfl
namespace Go.Proofs.Ytagijnfiiifppaa
/- THE CELL 'sum', in the pinned program and in every row, IS THE sha256 OF THE DUMP (.gsa) THAT YtagijnfiiifppaaProg.lean LOADS. Nothing in Lean hashes anything: it is a label: what it is worth is what the hold of that sum in a sandbox is worth. -/
noncomputable def Try.pinned : Pinned := { name := "ytagijnfiiifppaa", sum := "4f9b9655803fc8af0c508cf42706e432dea3e0c0059663662209e51747560b66", checked := Try.checked }
namespace Rows
def none {H : Type} : Left H := { results := [], args := [] }

/-- 'laws.FnRowBytes': WHATEVER THE INPUT: true; the input reads as it did. -/
def fnRowBytesSpec : ChangeSpec := { name := "fnRowBytes", fn := fun _ => fun
  | [d1, d2] => { results := [.lit (.bool true)], args := [d1, d2] }
  | _ => none }
def fnRowBytesRow : OpenClaim := { program := "ytagijnfiiifppaa", sum := "4f9b9655803fc8af0c508cf42706e432dea3e0c0059663662209e51747560b66", func := "loop.example/g00305/laws.FnRowBytes", spec := "fnRowBytes", apart := false }
def FnRowBytesSaid : Prop := fnRowBytesRow.holds Try.pinned (OpenSpec.ofChange fnRowBytesSpec)

/-- ITS FALSE NEIGHBOUR: 'it returns false'. Refute it at one input. -/
def fnRowBytesWrong : ChangeSpec := { name := "fnRowBytes", fn := fun _ => fun
  | [d1, d2] => { results := [.lit (.bool false)], args := [d1, d2] }
  | _ => none }
def FnRowBytesWrongFalsely : Prop := fnRowBytesRow.holds Try.pinned (OpenSpec.ofChange fnRowBytesWrong)

/-- 'laws.FnRowJoins': WHATEVER THE INPUT: true; the input reads as it did. -/
def fnRowJoinsSpec : ChangeSpec := { name := "fnRowJoins", fn := fun _ => fun
  | [d1, d2] => { results := [.lit (.bool true)], args := [d1, d2] }
  | _ => none }
def fnRowJoinsRow : OpenClaim := { program := "ytagijnfiiifppaa", sum := "4f9b9655803fc8af0c508cf42706e432dea3e0c0059663662209e51747560b66", func := "loop.example/g00305/laws.FnRowJoins", spec := "fnRowJoins", apart := false }
def FnRowJoinsSaid : Prop := fnRowJoinsRow.holds Try.pinned (OpenSpec.ofChange fnRowJoinsSpec)

/-- ITS FALSE NEIGHBOUR: 'it returns false'. Refute it at one input. -/
def fnRowJoinsWrong : ChangeSpec := { name := "fnRowJoins", fn := fun _ => fun
  | [d1, d2] => { results := [.lit (.bool false)], args := [d1, d2] }
  | _ => none }
def FnRowJoinsWrongFalsely : Prop := fnRowJoinsRow.holds Try.pinned (OpenSpec.ofChange fnRowJoinsWrong)

/-- 'laws.FnExactGoodRow': WHATEVER THE INPUT: true; the input reads as it did. -/
def fnExactGoodRowSpec : ChangeSpec := { name := "fnExactGoodRow", fn := fun _ => fun
  | [d] => { results := [.lit (.bool true)], args := [d] }
  | _ => none }
def fnExactGoodRowRow : OpenClaim := { program := "ytagijnfiiifppaa", sum := "4f9b9655803fc8af0c508cf42706e432dea3e0c0059663662209e51747560b66", func := "loop.example/g00305/laws.FnExactGoodRow", spec := "fnExactGoodRow", apart := false }
def FnExactGoodRowSaid : Prop := fnExactGoodRowRow.holds Try.pinned (OpenSpec.ofChange fnExactGoodRowSpec)

/-- ITS FALSE NEIGHBOUR: 'it returns false'. Refute it at one input. -/
def fnExactGoodRowWrong : ChangeSpec := { name := "fnExactGoodRow", fn := fun _ => fun
  | [d] => { results := [.lit (.bool false)], args := [d] }
  | _ => none }
def FnExactGoodRowWrongFalsely : Prop := fnExactGoodRowRow.holds Try.pinned (OpenSpec.ofChange fnExactGoodRowWrong)

/-- 'laws.FnExactCompareRows': WHATEVER THE INPUT: true; the input reads as it did. -/
def fnExactCompareRowsSpec : ChangeSpec := { name := "fnExactCompareRows", fn := fun _ => fun
  | [d1, d2] => { results := [.lit (.bool true)], args := [d1, d2] }
  | _ => none }
def fnExactCompareRowsRow : OpenClaim := { program := "ytagijnfiiifppaa", sum := "4f9b9655803fc8af0c508cf42706e432dea3e0c0059663662209e51747560b66", func := "loop.example/g00305/laws.FnExactCompareRows", spec := "fnExactCompareRows", apart := false }
def FnExactCompareRowsSaid : Prop := fnExactCompareRowsRow.holds Try.pinned (OpenSpec.ofChange fnExactCompareRowsSpec)

/-- ITS FALSE NEIGHBOUR: 'it returns false'. Refute it at one input. -/
def fnExactCompareRowsWrong : ChangeSpec := { name := "fnExactCompareRows", fn := fun _ => fun
  | [d1, d2] => { results := [.lit (.bool false)], args := [d1, d2] }
  | _ => none }
def FnExactCompareRowsWrongFalsely : Prop := fnExactCompareRowsRow.holds Try.pinned (OpenSpec.ofChange fnExactCompareRowsWrong)

/-- 'laws.FnExactRowBytes': WHATEVER THE INPUT: true; the input reads as it did. -/
def fnExactRowBytesSpec : ChangeSpec := { name := "fnExactRowBytes", fn := fun _ => fun
  | [d] => { results := [.lit (.bool true)], args := [d] }
  | _ => none }
def fnExactRowBytesRow : OpenClaim := { program := "ytagijnfiiifppaa", sum := "4f9b9655803fc8af0c508cf42706e432dea3e0c0059663662209e51747560b66", func := "loop.example/g00305/laws.FnExactRowBytes", spec := "fnExactRowBytes", apart := false }
def FnExactRowBytesSaid : Prop := fnExactRowBytesRow.holds Try.pinned (OpenSpec.ofChange fnExactRowBytesSpec)

/-- ITS FALSE NEIGHBOUR: 'it returns false'. Refute it at one input. -/
def fnExactRowBytesWrong : ChangeSpec := { name := "fnExactRowBytes", fn := fun _ => fun
  | [d] => { results := [.lit (.bool false)], args := [d] }
  | _ => none }
def FnExactRowBytesWrongFalsely : Prop := fnExactRowBytesRow.holds Try.pinned (OpenSpec.ofChange fnExactRowBytesWrong)

/-- 'laws.FnExactReadRow': WHATEVER THE INPUT: true; the input reads as it did. -/
def fnExactReadRowSpec : ChangeSpec := { name := "fnExactReadRow", fn := fun _ => fun
  | [d] => { results := [.lit (.bool true)], args := [d] }
  | _ => none }
def fnExactReadRowRow : OpenClaim := { program := "ytagijnfiiifppaa", sum := "4f9b9655803fc8af0c508cf42706e432dea3e0c0059663662209e51747560b66", func := "loop.example/g00305/laws.FnExactReadRow", spec := "fnExactReadRow", apart := false }
def FnExactReadRowSaid : Prop := fnExactReadRowRow.holds Try.pinned (OpenSpec.ofChange fnExactReadRowSpec)

/-- ITS FALSE NEIGHBOUR: 'it returns false'. Refute it at one input. -/
def fnExactReadRowWrong : ChangeSpec := { name := "fnExactReadRow", fn := fun _ => fun
  | [d] => { results := [.lit (.bool false)], args := [d] }
  | _ => none }
def FnExactReadRowWrongFalsely : Prop := fnExactReadRowRow.holds Try.pinned (OpenSpec.ofChange fnExactReadRowWrong)

/- THE SECOND FORM. 'bulk': how many values and letters a reading holds, each counted each time it is reached (what is shared counts as often as it is met; a slice's spare places count too). A statement '..UptoSaid' is the law's where the arguments, and the package variables that the reading takes, are together of bulk at most 1048576: NARROWER than '..Said'. Prove '..Said' where nothing that the law and all that it calls make is longer than what came in: it says more and counts as full. Else prove '..UptoSaid'. A law counts once. -/
mutual
def uptoBulk {H : Type} : DataW H → Nat
  | .lit (.string bytes) => bytes.length + 1
  | .lit _ => 1
  | .nil => 1
  | .ptr d => uptoBulk d + 1
  | .slice elems spare => uptoBulkAll elems + uptoBulkAll spare + 1
  | .agg parts => uptoBulkAll parts + 1
  | .iface _ d => uptoBulk d + 1
  | .map entries => uptoBulkEntries entries + 1
  | .held _ => 1
def uptoBulkAll {H : Type} : List (DataW H) → Nat
  | [] => 0
  | d :: r => uptoBulk d + uptoBulkAll r
def uptoBulkEntries {H : Type} : List (Lit × DataW H) → Nat
  | [] => 0
  | x :: r => uptoBulkEntry x + uptoBulkEntries r
def uptoBulkEntry {H : Type} : Lit × DataW H → Nat
  | (.string bytes, d) => bytes.length + uptoBulk d + 1
  | (_, d) => uptoBulk d + 1
 end
def uptoSmall : (H : Type) → List (DataW H) → Bool := fun _ ds => decide (uptoBulkAll ds ≤ 1048576)
def OpenSpec.upto (s : _root_.Go.ChangeSpec) : _root_.Go.OpenSpec := { _root_.Go.OpenSpec.ofChange s with cond := some uptoSmall }

/-- 'laws.FnRowBytes', WHERE WHAT IT READS IS OF BULK AT MOST 1048576: true; the input reads as it did. -/
def fnRowBytesUptoRow : OpenClaim := { program := "ytagijnfiiifppaa", sum := "4f9b9655803fc8af0c508cf42706e432dea3e0c0059663662209e51747560b66", func := "loop.example/g00305/laws.FnRowBytes", spec := "fnRowBytes", apart := false, narrowed := true }
def FnRowBytesUptoSaid : Prop := fnRowBytesUptoRow.holds Try.pinned (OpenSpec.upto fnRowBytesSpec)

/-- 'laws.FnRowJoins', WHERE WHAT IT READS IS OF BULK AT MOST 1048576: true; the input reads as it did. -/
def fnRowJoinsUptoRow : OpenClaim := { program := "ytagijnfiiifppaa", sum := "4f9b9655803fc8af0c508cf42706e432dea3e0c0059663662209e51747560b66", func := "loop.example/g00305/laws.FnRowJoins", spec := "fnRowJoins", apart := false, narrowed := true }
def FnRowJoinsUptoSaid : Prop := fnRowJoinsUptoRow.holds Try.pinned (OpenSpec.upto fnRowJoinsSpec)

/-- 'laws.FnExactGoodRow', WHERE WHAT IT READS IS OF BULK AT MOST 1048576: true; the input reads as it did. -/
def fnExactGoodRowUptoRow : OpenClaim := { program := "ytagijnfiiifppaa", sum := "4f9b9655803fc8af0c508cf42706e432dea3e0c0059663662209e51747560b66", func := "loop.example/g00305/laws.FnExactGoodRow", spec := "fnExactGoodRow", apart := false, narrowed := true }
def FnExactGoodRowUptoSaid : Prop := fnExactGoodRowUptoRow.holds Try.pinned (OpenSpec.upto fnExactGoodRowSpec)

/-- 'laws.FnExactCompareRows', WHERE WHAT IT READS IS OF BULK AT MOST 1048576: true; the input reads as it did. -/
def fnExactCompareRowsUptoRow : OpenClaim := { program := "ytagijnfiiifppaa", sum := "4f9b9655803fc8af0c508cf42706e432dea3e0c0059663662209e51747560b66", func := "loop.example/g00305/laws.FnExactCompareRows", spec := "fnExactCompareRows", apart := false, narrowed := true }
def FnExactCompareRowsUptoSaid : Prop := fnExactCompareRowsUptoRow.holds Try.pinned (OpenSpec.upto fnExactCompareRowsSpec)

/-- 'laws.FnExactRowBytes', WHERE WHAT IT READS IS OF BULK AT MOST 1048576: true; the input reads as it did. -/
def fnExactRowBytesUptoRow : OpenClaim := { program := "ytagijnfiiifppaa", sum := "4f9b9655803fc8af0c508cf42706e432dea3e0c0059663662209e51747560b66", func := "loop.example/g00305/laws.FnExactRowBytes", spec := "fnExactRowBytes", apart := false, narrowed := true }
def FnExactRowBytesUptoSaid : Prop := fnExactRowBytesUptoRow.holds Try.pinned (OpenSpec.upto fnExactRowBytesSpec)

/-- 'laws.FnExactReadRow', WHERE WHAT IT READS IS OF BULK AT MOST 1048576: true; the input reads as it did. -/
def fnExactReadRowUptoRow : OpenClaim := { program := "ytagijnfiiifppaa", sum := "4f9b9655803fc8af0c508cf42706e432dea3e0c0059663662209e51747560b66", func := "loop.example/g00305/laws.FnExactReadRow", spec := "fnExactReadRow", apart := false, narrowed := true }
def FnExactReadRowUptoSaid : Prop := fnExactReadRowUptoRow.holds Try.pinned (OpenSpec.upto fnExactReadRowSpec)

end Rows
end Go.Proofs.Ytagijnfiiifppaa
