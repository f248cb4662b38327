/-
  DERIVED. GIVEN WITH THE SEED: THE CARDS: each row of YtpnaoahlfhbbmaaDoorRows.lean that lists a variable, with what it lists TIED to the program's text (the seventh form; the later family's looks); each row that meets fmt, with fmt's text TOLD by the authors' own Lean function (tested against real Go, not proved from fmt's source: count such statements apart). THE CARD IS WHAT COUNTS. Prove the row's statement (the work); the ties are given (YtpnaoahlfhbbmaaDoorTie.lean); close each card by the builder's one call (the guide's Derived/Test/ToyasCard.lean, 'card_holds'). Laid BY PROGRAM, IN A SANDBOX (cutbox-door.mjs). By AI agents, Wed Nov 11 2026. No macro, syntax, notation, axiom, sorry.
-/
import Derived.Test.YtpnaoahlfhbbmaaDoorRows
import GoSem.ClaimSeven
namespace Go.Proofs.YtpnaoahlfhbbmaaDoor
namespace Rows

/-- THE TIED CARD OF 'laws.FnExactIsNormal'. -/
def fnExactIsNormalCard : Claim7 := { stood := { row := fnExactIsNormalRow, standIns := [], harness := (true, "8fa59fe03d335f17944f2bf68d73358ceff33715847f1f5c7fca8407e7e0624f"), looks := false }, kinds := [], alts := [], laidByText := true, laidKinds := [.data, .data], laidTests := true, laidLooks := .later }
def FnExactIsNormalCardSaid : Prop := Claim7.holds Tryd.pinned (.plain (OpenSpec.ofChange fnExactIsNormalSpec)) fnExactIsNormalCard

/-- THE TIED CARD OF 'laws.FnExactNormalParts'. -/
def fnExactNormalPartsCard : Claim7 := { stood := { row := fnExactNormalPartsRow, standIns := [], harness := (true, "8fa59fe03d335f17944f2bf68d73358ceff33715847f1f5c7fca8407e7e0624f"), looks := false }, kinds := [], alts := [], laidByText := true, laidKinds := [.data, .data], laidTests := true, laidLooks := .later }
def FnExactNormalPartsCardSaid : Prop := Claim7.holds Tryd.pinned (.plain (OpenSpec.ofChange fnExactNormalPartsSpec)) fnExactNormalPartsCard

/-- THE TIED CARD OF 'laws.FnExactSplitBy'. -/
def fnExactSplitByCard : Claim7 := { stood := { row := fnExactSplitByRow, standIns := [], harness := (true, "8fa59fe03d335f17944f2bf68d73358ceff33715847f1f5c7fca8407e7e0624f"), looks := false }, kinds := [], alts := [], laidByText := true, laidKinds := [.data, .data], laidTests := true, laidLooks := .later }
def FnExactSplitByCardSaid : Prop := Claim7.holds Tryd.pinned (.plain (OpenSpec.ofChange fnExactSplitBySpec)) fnExactSplitByCard

/-- THE SECOND FORM's CARD OF 'laws.FnExactIsNormal'. -/
def fnExactIsNormalUptoCard : Claim7 := { stood := { row := fnExactIsNormalUptoRow, standIns := [], harness := (true, "8fa59fe03d335f17944f2bf68d73358ceff33715847f1f5c7fca8407e7e0624f"), looks := false }, kinds := [], alts := [], laidByText := true, laidKinds := [.data, .data], laidTests := true, laidLooks := .later }
def FnExactIsNormalUptoCardSaid : Prop := Claim7.holds Tryd.pinned (.plain (OpenSpec.upto fnExactIsNormalSpec)) fnExactIsNormalUptoCard

/-- THE SECOND FORM's CARD OF 'laws.FnExactNormalParts'. -/
def fnExactNormalPartsUptoCard : Claim7 := { stood := { row := fnExactNormalPartsUptoRow, standIns := [], harness := (true, "8fa59fe03d335f17944f2bf68d73358ceff33715847f1f5c7fca8407e7e0624f"), looks := false }, kinds := [], alts := [], laidByText := true, laidKinds := [.data, .data], laidTests := true, laidLooks := .later }
def FnExactNormalPartsUptoCardSaid : Prop := Claim7.holds Tryd.pinned (.plain (OpenSpec.upto fnExactNormalPartsSpec)) fnExactNormalPartsUptoCard

/-- THE SECOND FORM's CARD OF 'laws.FnExactSplitBy'. -/
def fnExactSplitByUptoCard : Claim7 := { stood := { row := fnExactSplitByUptoRow, standIns := [], harness := (true, "8fa59fe03d335f17944f2bf68d73358ceff33715847f1f5c7fca8407e7e0624f"), looks := false }, kinds := [], alts := [], laidByText := true, laidKinds := [.data, .data], laidTests := true, laidLooks := .later }
def FnExactSplitByUptoCardSaid : Prop := Claim7.holds Tryd.pinned (.plain (OpenSpec.upto fnExactSplitBySpec)) fnExactSplitByUptoCard
end Rows
end Go.Proofs.YtpnaoahlfhbbmaaDoor
