/-
  DERIVED. GIVEN WITH THE SEED: THE CARDS: each row of YtjjebodlekepaaaDoorRows.lean that lists a variable, with what it lists TIED to the program's text (the seventh form; the later family's looks); each row that meets fmt, with fmt's text TOLD by the authors' own Lean function (tested against real Go, not proved from fmt's source: count such statements apart). THE CARD IS WHAT COUNTS. Prove the row's statement (the work); the ties are given (YtjjebodlekepaaaDoorTie.lean); close each card by the builder's one call (the guide's Derived/Test/ToyasCard.lean, 'card_holds'). Laid BY PROGRAM, IN A SANDBOX (cutbox-door.mjs). By AI agents, Wed Nov 11 2026. No macro, syntax, notation, axiom, sorry.
-/
import Derived.Test.YtjjebodlekepaaaDoorRows
import GoSem.ClaimSeven
namespace Go.Proofs.YtjjebodlekepaaaDoor
namespace Rows

/-- THE TIED CARD OF 'laws.FnExactGoodLocks'. -/
def fnExactGoodLocksCard : Claim7 := { stood := { row := fnExactGoodLocksRow, standIns := [], harness := (true, "88fd1ebc5ad7be328ab9864b7f69d98534db1002fc63cecf2b71ab1b2fe34a6f"), looks := true }, kinds := [], alts := [], laidByText := true, laidKinds := [.data, .data], laidTests := true, laidLooks := .later }
def FnExactGoodLocksCardSaid : Prop := Claim7.holds Tryd.pinned (.plain (OpenSpec.ofChange fnExactGoodLocksSpec)) fnExactGoodLocksCard

/-- THE TIED CARD OF 'laws.FnExactWaitsFor'. -/
def fnExactWaitsForCard : Claim7 := { stood := { row := fnExactWaitsForRow, standIns := [], harness := (true, "88fd1ebc5ad7be328ab9864b7f69d98534db1002fc63cecf2b71ab1b2fe34a6f"), looks := true }, kinds := [], alts := [], laidByText := true, laidKinds := [.data, .data, .handle], laidTests := true, laidLooks := .later }
def FnExactWaitsForCardSaid : Prop := Claim7.holds Tryd.pinned (.plain (OpenSpec.ofChange fnExactWaitsForSpec)) fnExactWaitsForCard

/-- THE TIED CARD OF 'laws.FnExactRunDone'. -/
def fnExactRunDoneCard : Claim7 := { stood := { row := fnExactRunDoneRow, standIns := [], harness := (true, "88fd1ebc5ad7be328ab9864b7f69d98534db1002fc63cecf2b71ab1b2fe34a6f"), looks := true }, kinds := [], alts := [], laidByText := true, laidKinds := [.data, .data], laidTests := true, laidLooks := .later }
def FnExactRunDoneCardSaid : Prop := Claim7.holds Tryd.pinned (.plain (OpenSpec.ofChange fnExactRunDoneSpec)) fnExactRunDoneCard

/-- THE TIED CARD OF 'laws.FnExactHasLock'. -/
def fnExactHasLockCard : Claim7 := { stood := { row := fnExactHasLockRow, standIns := [], harness := (true, "88fd1ebc5ad7be328ab9864b7f69d98534db1002fc63cecf2b71ab1b2fe34a6f"), looks := true }, kinds := [], alts := [], laidByText := true, laidKinds := [.data, .data], laidTests := true, laidLooks := .later }
def FnExactHasLockCardSaid : Prop := Claim7.holds Tryd.pinned (.plain (OpenSpec.ofChange fnExactHasLockSpec)) fnExactHasLockCard

/-- THE SECOND FORM's CARD OF 'laws.FnExactGoodLocks'. -/
def fnExactGoodLocksUptoCard : Claim7 := { stood := { row := fnExactGoodLocksUptoRow, standIns := [], harness := (true, "88fd1ebc5ad7be328ab9864b7f69d98534db1002fc63cecf2b71ab1b2fe34a6f"), looks := true }, kinds := [], alts := [], laidByText := true, laidKinds := [.data, .data], laidTests := true, laidLooks := .later }
def FnExactGoodLocksUptoCardSaid : Prop := Claim7.holds Tryd.pinned (.plain (OpenSpec.upto fnExactGoodLocksSpec)) fnExactGoodLocksUptoCard

/-- THE SECOND FORM's CARD OF 'laws.FnExactWaitsFor'. -/
def fnExactWaitsForUptoCard : Claim7 := { stood := { row := fnExactWaitsForUptoRow, standIns := [], harness := (true, "88fd1ebc5ad7be328ab9864b7f69d98534db1002fc63cecf2b71ab1b2fe34a6f"), looks := true }, kinds := [], alts := [], laidByText := true, laidKinds := [.data, .data, .handle], laidTests := true, laidLooks := .later }
def FnExactWaitsForUptoCardSaid : Prop := Claim7.holds Tryd.pinned (.plain (OpenSpec.upto fnExactWaitsForSpec)) fnExactWaitsForUptoCard

/-- THE SECOND FORM's CARD OF 'laws.FnExactRunDone'. -/
def fnExactRunDoneUptoCard : Claim7 := { stood := { row := fnExactRunDoneUptoRow, standIns := [], harness := (true, "88fd1ebc5ad7be328ab9864b7f69d98534db1002fc63cecf2b71ab1b2fe34a6f"), looks := true }, kinds := [], alts := [], laidByText := true, laidKinds := [.data, .data], laidTests := true, laidLooks := .later }
def FnExactRunDoneUptoCardSaid : Prop := Claim7.holds Tryd.pinned (.plain (OpenSpec.upto fnExactRunDoneSpec)) fnExactRunDoneUptoCard

/-- THE SECOND FORM's CARD OF 'laws.FnExactHasLock'. -/
def fnExactHasLockUptoCard : Claim7 := { stood := { row := fnExactHasLockUptoRow, standIns := [], harness := (true, "88fd1ebc5ad7be328ab9864b7f69d98534db1002fc63cecf2b71ab1b2fe34a6f"), looks := true }, kinds := [], alts := [], laidByText := true, laidKinds := [.data, .data], laidTests := true, laidLooks := .later }
def FnExactHasLockUptoCardSaid : Prop := Claim7.holds Tryd.pinned (.plain (OpenSpec.upto fnExactHasLockSpec)) fnExactHasLockUptoCard
end Rows
end Go.Proofs.YtjjebodlekepaaaDoor
