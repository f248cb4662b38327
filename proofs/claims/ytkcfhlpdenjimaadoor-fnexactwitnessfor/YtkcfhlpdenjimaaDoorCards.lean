/-
  DERIVED. GIVEN WITH THE SEED: THE CARDS: each row of YtkcfhlpdenjimaaDoorRows.lean that lists a variable, with what it lists TIED to the program's text (the seventh form; the later family's looks); each row that meets fmt, with fmt's text TOLD by the authors' own Lean function (tested against real Go, not proved from fmt's source: count such statements apart). THE CARD IS WHAT COUNTS. Prove the row's statement (the work); the ties are given (YtkcfhlpdenjimaaDoorTie.lean); close each card by the builder's one call (the guide's Derived/Test/ToyasCard.lean, 'card_holds'). Laid BY PROGRAM, IN A SANDBOX (cutbox-door.mjs). By AI agents, Wed Nov 11 2026. No macro, syntax, notation, axiom, sorry.
-/
import Derived.Test.YtkcfhlpdenjimaaDoorRows
import GoSem.ClaimSeven
namespace Go.Proofs.YtkcfhlpdenjimaaDoor
namespace Rows

/-- THE TIED CARD OF 'laws.FnExactClosureOf'. -/
def fnExactClosureOfCard : Claim7 := { stood := { row := fnExactClosureOfRow, standIns := [], harness := (true, "3a08b066503e966e7c6ee357c556a2f1cb50718b0cd8b03ef2a3d47fa5b9a1c4"), looks := false }, kinds := [], alts := [], laidByText := true, laidKinds := [.data, .data], laidTests := true, laidLooks := .later }
def FnExactClosureOfCardSaid : Prop := Claim7.holds Tryd.pinned (.plain (OpenSpec.ofChange fnExactClosureOfSpec)) fnExactClosureOfCard

/-- THE TIED CARD OF 'laws.FnExactWitnessFor'. -/
def fnExactWitnessForCard : Claim7 := { stood := { row := fnExactWitnessForRow, standIns := [], harness := (true, "3a08b066503e966e7c6ee357c556a2f1cb50718b0cd8b03ef2a3d47fa5b9a1c4"), looks := false }, kinds := [], alts := [], laidByText := true, laidKinds := [.data, .data], laidTests := true, laidLooks := .later }
def FnExactWitnessForCardSaid : Prop := Claim7.holds Tryd.pinned (.plain (OpenSpec.ofChange fnExactWitnessForSpec)) fnExactWitnessForCard

/-- THE TIED CARD OF 'laws.FnExactKeysOf'. -/
def fnExactKeysOfCard : Claim7 := { stood := { row := fnExactKeysOfRow, standIns := [], harness := (true, "3a08b066503e966e7c6ee357c556a2f1cb50718b0cd8b03ef2a3d47fa5b9a1c4"), looks := false }, kinds := [], alts := [], laidByText := true, laidKinds := [.data, .data], laidTests := true, laidLooks := .later }
def FnExactKeysOfCardSaid : Prop := Claim7.holds Tryd.pinned (.plain (OpenSpec.ofChange fnExactKeysOfSpec)) fnExactKeysOfCard

/-- THE TIED CARD OF 'laws.FnExactCoverOf'. -/
def fnExactCoverOfCard : Claim7 := { stood := { row := fnExactCoverOfRow, standIns := [], harness := (true, "3a08b066503e966e7c6ee357c556a2f1cb50718b0cd8b03ef2a3d47fa5b9a1c4"), looks := false }, kinds := [], alts := [], laidByText := true, laidKinds := [.data, .data], laidTests := true, laidLooks := .later }
def FnExactCoverOfCardSaid : Prop := Claim7.holds Tryd.pinned (.plain (OpenSpec.ofChange fnExactCoverOfSpec)) fnExactCoverOfCard

/-- THE SECOND FORM's CARD OF 'laws.FnExactClosureOf'. -/
def fnExactClosureOfUptoCard : Claim7 := { stood := { row := fnExactClosureOfUptoRow, standIns := [], harness := (true, "3a08b066503e966e7c6ee357c556a2f1cb50718b0cd8b03ef2a3d47fa5b9a1c4"), looks := false }, kinds := [], alts := [], laidByText := true, laidKinds := [.data, .data], laidTests := true, laidLooks := .later }
def FnExactClosureOfUptoCardSaid : Prop := Claim7.holds Tryd.pinned (.plain (OpenSpec.upto fnExactClosureOfSpec)) fnExactClosureOfUptoCard

/-- THE SECOND FORM's CARD OF 'laws.FnExactWitnessFor'. -/
def fnExactWitnessForUptoCard : Claim7 := { stood := { row := fnExactWitnessForUptoRow, standIns := [], harness := (true, "3a08b066503e966e7c6ee357c556a2f1cb50718b0cd8b03ef2a3d47fa5b9a1c4"), looks := false }, kinds := [], alts := [], laidByText := true, laidKinds := [.data, .data], laidTests := true, laidLooks := .later }
def FnExactWitnessForUptoCardSaid : Prop := Claim7.holds Tryd.pinned (.plain (OpenSpec.upto fnExactWitnessForSpec)) fnExactWitnessForUptoCard

/-- THE SECOND FORM's CARD OF 'laws.FnExactKeysOf'. -/
def fnExactKeysOfUptoCard : Claim7 := { stood := { row := fnExactKeysOfUptoRow, standIns := [], harness := (true, "3a08b066503e966e7c6ee357c556a2f1cb50718b0cd8b03ef2a3d47fa5b9a1c4"), looks := false }, kinds := [], alts := [], laidByText := true, laidKinds := [.data, .data], laidTests := true, laidLooks := .later }
def FnExactKeysOfUptoCardSaid : Prop := Claim7.holds Tryd.pinned (.plain (OpenSpec.upto fnExactKeysOfSpec)) fnExactKeysOfUptoCard

/-- THE SECOND FORM's CARD OF 'laws.FnExactCoverOf'. -/
def fnExactCoverOfUptoCard : Claim7 := { stood := { row := fnExactCoverOfUptoRow, standIns := [], harness := (true, "3a08b066503e966e7c6ee357c556a2f1cb50718b0cd8b03ef2a3d47fa5b9a1c4"), looks := false }, kinds := [], alts := [], laidByText := true, laidKinds := [.data, .data], laidTests := true, laidLooks := .later }
def FnExactCoverOfUptoCardSaid : Prop := Claim7.holds Tryd.pinned (.plain (OpenSpec.upto fnExactCoverOfSpec)) fnExactCoverOfUptoCard
end Rows
end Go.Proofs.YtkcfhlpdenjimaaDoor
