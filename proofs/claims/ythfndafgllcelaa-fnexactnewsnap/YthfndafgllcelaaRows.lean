/-
  No cell of these rows narrows 'for every input' (looked for: loops, veiled, ifaces, maps, wideKeys, modest, calm, conditions, laid).
  DERIVED. THE GIVEN ROWS OF THIS SEAT. 6 by the template 'for every input the law returns true; each argument reads behind the call as it read before'; 0 by the template 'total and deterministic' (their statements: YthfndafgllcelaaTotals.lean).
  GIVEN WITH THE SEED: the statements are not yours to turn. If you find one false, say at which input.
  Laid BY PROGRAM, IN A SANDBOX (cutbox-rows.mjs): the forced cells as the released guide's own fill.sh prints them over the translation 60b352a489d992f3… (all of the seat's roots in one cut). By AI agents, Wed Nov 11 2026. No macro, syntax, notation, axiom, sorry.
-/
import Derived.Test.YthfndafgllcelaaChecked
import GoSem.Claim
import GoSem.ClaimJoined
import GoSem.ClaimMapViews
import Derived.JoinedTies
import Derived.KernelRfl
namespace Go.Proofs.Ythfndafgllcelaa
/- THE CELL 'sum', in the pinned program and in every row, IS THE sha256 OF THE DUMP (.gsa) THAT YthfndafgllcelaaProg.lean LOADS. Nothing in Lean hashes anything: it is a label: what it is worth is what the hold of that sum in a sandbox is worth. -/
noncomputable def Try.pinned : Pinned := { name := "ythfndafgllcelaa", sum := "60b352a489d992f34457e3438b3c47c105d6279921d80c4e969e991bdefe40dd", checked := Try.checked }
namespace Rows
def none {H : Type} : Left H := { results := [], args := [] }

/-- 'laws.FnExactNewSnap': WHATEVER THE INPUT: true; the input reads as it did. -/
def fnExactNewSnapSpec : ChangeSpec := { name := "fnExactNewSnap", fn := fun _ => fun
  | [d] => { results := [.lit (.bool true)], args := [d] }
  | _ => none }
def fnExactNewSnapRow : OpenClaim := { program := "ythfndafgllcelaa", sum := "60b352a489d992f34457e3438b3c47c105d6279921d80c4e969e991bdefe40dd", func := "loop.example/g00305/laws.FnExactNewSnap", spec := "fnExactNewSnap", unfollowed := true, recurses := true, apart := false }
def FnExactNewSnapSaid : Prop := fnExactNewSnapRow.holds Try.pinned (OpenSpec.ofChange fnExactNewSnapSpec)

/-- ITS FALSE NEIGHBOUR: 'it returns false'. Refute it at one input. -/
def fnExactNewSnapWrong : ChangeSpec := { name := "fnExactNewSnap", fn := fun _ => fun
  | [d] => { results := [.lit (.bool false)], args := [d] }
  | _ => none }
def FnExactNewSnapWrongFalsely : Prop := fnExactNewSnapRow.holds Try.pinned (OpenSpec.ofChange fnExactNewSnapWrong)

/-- 'laws.FnExactGoodSnap': WHATEVER THE INPUT: true; the input reads as it did. -/
def fnExactGoodSnapSpec : ChangeSpec := { name := "fnExactGoodSnap", fn := fun _ => fun
  | [d] => { results := [.lit (.bool true)], args := [d] }
  | _ => none }
def fnExactGoodSnapRow : OpenClaim := { program := "ythfndafgllcelaa", sum := "60b352a489d992f34457e3438b3c47c105d6279921d80c4e969e991bdefe40dd", func := "loop.example/g00305/laws.FnExactGoodSnap", spec := "fnExactGoodSnap", unfollowed := true, recurses := true, apart := false }
def FnExactGoodSnapSaid : Prop := fnExactGoodSnapRow.holds Try.pinned (OpenSpec.ofChange fnExactGoodSnapSpec)

/-- ITS FALSE NEIGHBOUR: 'it returns false'. Refute it at one input. -/
def fnExactGoodSnapWrong : ChangeSpec := { name := "fnExactGoodSnap", fn := fun _ => fun
  | [d] => { results := [.lit (.bool false)], args := [d] }
  | _ => none }
def FnExactGoodSnapWrongFalsely : Prop := fnExactGoodSnapRow.holds Try.pinned (OpenSpec.ofChange fnExactGoodSnapWrong)

/-- 'laws.FnExactStepSnap': WHATEVER THE INPUT: true; the input reads as it did. -/
def fnExactStepSnapSpec : ChangeSpec := { name := "fnExactStepSnap", fn := fun _ => fun
  | [d1, d2] => { results := [.lit (.bool true)], args := [d1, d2] }
  | _ => none }
def fnExactStepSnapRow : OpenClaim := { program := "ythfndafgllcelaa", sum := "60b352a489d992f34457e3438b3c47c105d6279921d80c4e969e991bdefe40dd", func := "loop.example/g00305/laws.FnExactStepSnap", spec := "fnExactStepSnap", unfollowed := true, recurses := true, apart := false }
def FnExactStepSnapSaid : Prop := fnExactStepSnapRow.holds Try.pinned (OpenSpec.ofChange fnExactStepSnapSpec)

/-- ITS FALSE NEIGHBOUR: 'it returns false'. Refute it at one input. -/
def fnExactStepSnapWrong : ChangeSpec := { name := "fnExactStepSnap", fn := fun _ => fun
  | [d1, d2] => { results := [.lit (.bool false)], args := [d1, d2] }
  | _ => none }
def FnExactStepSnapWrongFalsely : Prop := fnExactStepSnapRow.holds Try.pinned (OpenSpec.ofChange fnExactStepSnapWrong)

/-- 'laws.FnExactPlaySnap': WHATEVER THE INPUT: true; the input reads as it did. -/
def fnExactPlaySnapSpec : ChangeSpec := { name := "fnExactPlaySnap", fn := fun _ => fun
  | [d1, d2] => { results := [.lit (.bool true)], args := [d1, d2] }
  | _ => none }
def fnExactPlaySnapRow : OpenClaim := { program := "ythfndafgllcelaa", sum := "60b352a489d992f34457e3438b3c47c105d6279921d80c4e969e991bdefe40dd", func := "loop.example/g00305/laws.FnExactPlaySnap", spec := "fnExactPlaySnap", unfollowed := true, recurses := true, apart := false }
def FnExactPlaySnapSaid : Prop := fnExactPlaySnapRow.holds Try.pinned (OpenSpec.ofChange fnExactPlaySnapSpec)

/-- ITS FALSE NEIGHBOUR: 'it returns false'. Refute it at one input. -/
def fnExactPlaySnapWrong : ChangeSpec := { name := "fnExactPlaySnap", fn := fun _ => fun
  | [d1, d2] => { results := [.lit (.bool false)], args := [d1, d2] }
  | _ => none }
def FnExactPlaySnapWrongFalsely : Prop := fnExactPlaySnapRow.holds Try.pinned (OpenSpec.ofChange fnExactPlaySnapWrong)

/-- 'laws.FnExactTotalIn': WHATEVER THE INPUT: true; the input reads as it did. -/
def fnExactTotalInSpec : ChangeSpec := { name := "fnExactTotalIn", fn := fun _ => fun
  | [d] => { results := [.lit (.bool true)], args := [d] }
  | _ => none }
def fnExactTotalInRow : OpenClaim := { program := "ythfndafgllcelaa", sum := "60b352a489d992f34457e3438b3c47c105d6279921d80c4e969e991bdefe40dd", func := "loop.example/g00305/laws.FnExactTotalIn", spec := "fnExactTotalIn", unfollowed := true, recurses := true, apart := false }
def FnExactTotalInSaid : Prop := fnExactTotalInRow.holds Try.pinned (OpenSpec.ofChange fnExactTotalInSpec)

/-- ITS FALSE NEIGHBOUR: 'it returns false'. Refute it at one input. -/
def fnExactTotalInWrong : ChangeSpec := { name := "fnExactTotalIn", fn := fun _ => fun
  | [d] => { results := [.lit (.bool false)], args := [d] }
  | _ => none }
def FnExactTotalInWrongFalsely : Prop := fnExactTotalInRow.holds Try.pinned (OpenSpec.ofChange fnExactTotalInWrong)

/-- 'laws.FnExactPictureOf': WHATEVER THE INPUT: true; the input reads as it did. -/
def fnExactPictureOfSpec : ChangeSpec := { name := "fnExactPictureOf", fn := fun _ => fun
  | [d] => { results := [.lit (.bool true)], args := [d] }
  | _ => none }
def fnExactPictureOfRow : OpenClaim := { program := "ythfndafgllcelaa", sum := "60b352a489d992f34457e3438b3c47c105d6279921d80c4e969e991bdefe40dd", func := "loop.example/g00305/laws.FnExactPictureOf", spec := "fnExactPictureOf", unfollowed := true, recurses := true, apart := false }
def FnExactPictureOfSaid : Prop := fnExactPictureOfRow.holds Try.pinned (OpenSpec.ofChange fnExactPictureOfSpec)

/-- ITS FALSE NEIGHBOUR: 'it returns false'. Refute it at one input. -/
def fnExactPictureOfWrong : ChangeSpec := { name := "fnExactPictureOf", fn := fun _ => fun
  | [d] => { results := [.lit (.bool false)], args := [d] }
  | _ => none }
def FnExactPictureOfWrongFalsely : Prop := fnExactPictureOfRow.holds Try.pinned (OpenSpec.ofChange fnExactPictureOfWrong)

/- THE SECOND FORM. 'bulk': how many values and letters a reading holds, each counted each time it is reached (what is shared counts as often as it is met; a slice's spare places count too). A statement '..UptoSaid' is the law's where the arguments, and the package variables that the reading takes, are together of bulk at most 1048576: NARROWER than '..Said'. Prove '..Said' where nothing that the law and all that it calls make is longer than what came in: it says more and counts as full. Else prove '..UptoSaid'. A law counts once. -/
mutual
def uptoBulk {H : Type} : DataW H → Nat
  | .lit (.string bytes) => bytes.length + 1
  | .lit _ => 1
  | .nil => 1
  | .ptr d => uptoBulk d + 1
  | .slice elems spare => uptoBulkAll elems + uptoBulkAll spare + 1
  | .agg parts => uptoBulkAll parts + 1
  | .iface _ d => uptoBulk d + 1
  | .map entries => uptoBulkEntries entries + 1
  | .held _ => 1
def uptoBulkAll {H : Type} : List (DataW H) → Nat
  | [] => 0
  | d :: r => uptoBulk d + uptoBulkAll r
def uptoBulkEntries {H : Type} : List (Lit × DataW H) → Nat
  | [] => 0
  | x :: r => uptoBulkEntry x + uptoBulkEntries r
def uptoBulkEntry {H : Type} : Lit × DataW H → Nat
  | (.string bytes, d) => bytes.length + uptoBulk d + 1
  | (_, d) => uptoBulk d + 1
 end
def uptoSmall : (H : Type) → List (DataW H) → Bool := fun _ ds => decide (uptoBulkAll ds ≤ 1048576)
def OpenSpec.upto (s : _root_.Go.ChangeSpec) : _root_.Go.OpenSpec := { _root_.Go.OpenSpec.ofChange s with cond := some uptoSmall }

/-- 'laws.FnExactNewSnap', WHERE WHAT IT READS IS OF BULK AT MOST 1048576: true; the input reads as it did. -/
def fnExactNewSnapUptoRow : OpenClaim := { program := "ythfndafgllcelaa", sum := "60b352a489d992f34457e3438b3c47c105d6279921d80c4e969e991bdefe40dd", func := "loop.example/g00305/laws.FnExactNewSnap", spec := "fnExactNewSnap", unfollowed := true, recurses := true, apart := false, narrowed := true }
def FnExactNewSnapUptoSaid : Prop := fnExactNewSnapUptoRow.holds Try.pinned (OpenSpec.upto fnExactNewSnapSpec)

/-- 'laws.FnExactGoodSnap', WHERE WHAT IT READS IS OF BULK AT MOST 1048576: true; the input reads as it did. -/
def fnExactGoodSnapUptoRow : OpenClaim := { program := "ythfndafgllcelaa", sum := "60b352a489d992f34457e3438b3c47c105d6279921d80c4e969e991bdefe40dd", func := "loop.example/g00305/laws.FnExactGoodSnap", spec := "fnExactGoodSnap", unfollowed := true, recurses := true, apart := false, narrowed := true }
def FnExactGoodSnapUptoSaid : Prop := fnExactGoodSnapUptoRow.holds Try.pinned (OpenSpec.upto fnExactGoodSnapSpec)

/-- 'laws.FnExactStepSnap', WHERE WHAT IT READS IS OF BULK AT MOST 1048576: true; the input reads as it did. -/
def fnExactStepSnapUptoRow : OpenClaim := { program := "ythfndafgllcelaa", sum := "60b352a489d992f34457e3438b3c47c105d6279921d80c4e969e991bdefe40dd", func := "loop.example/g00305/laws.FnExactStepSnap", spec := "fnExactStepSnap", unfollowed := true, recurses := true, apart := false, narrowed := true }
def FnExactStepSnapUptoSaid : Prop := fnExactStepSnapUptoRow.holds Try.pinned (OpenSpec.upto fnExactStepSnapSpec)

/-- 'laws.FnExactPlaySnap', WHERE WHAT IT READS IS OF BULK AT MOST 1048576: true; the input reads as it did. -/
def fnExactPlaySnapUptoRow : OpenClaim := { program := "ythfndafgllcelaa", sum := "60b352a489d992f34457e3438b3c47c105d6279921d80c4e969e991bdefe40dd", func := "loop.example/g00305/laws.FnExactPlaySnap", spec := "fnExactPlaySnap", unfollowed := true, recurses := true, apart := false, narrowed := true }
def FnExactPlaySnapUptoSaid : Prop := fnExactPlaySnapUptoRow.holds Try.pinned (OpenSpec.upto fnExactPlaySnapSpec)

/-- 'laws.FnExactTotalIn', WHERE WHAT IT READS IS OF BULK AT MOST 1048576: true; the input reads as it did. -/
def fnExactTotalInUptoRow : OpenClaim := { program := "ythfndafgllcelaa", sum := "60b352a489d992f34457e3438b3c47c105d6279921d80c4e969e991bdefe40dd", func := "loop.example/g00305/laws.FnExactTotalIn", spec := "fnExactTotalIn", unfollowed := true, recurses := true, apart := false, narrowed := true }
def FnExactTotalInUptoSaid : Prop := fnExactTotalInUptoRow.holds Try.pinned (OpenSpec.upto fnExactTotalInSpec)

/-- 'laws.FnExactPictureOf', WHERE WHAT IT READS IS OF BULK AT MOST 1048576: true; the input reads as it did. -/
def fnExactPictureOfUptoRow : OpenClaim := { program := "ythfndafgllcelaa", sum := "60b352a489d992f34457e3438b3c47c105d6279921d80c4e969e991bdefe40dd", func := "loop.example/g00305/laws.FnExactPictureOf", spec := "fnExactPictureOf", unfollowed := true, recurses := true, apart := false, narrowed := true }
def FnExactPictureOfUptoSaid : Prop := fnExactPictureOfUptoRow.holds Try.pinned (OpenSpec.upto fnExactPictureOfSpec)

end Rows
end Go.Proofs.Ythfndafgllcelaa
