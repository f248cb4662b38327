/-
  DERIVED. GIVEN WITH THE SEED: THE CARDS: each row of YtkcmlphpilggpaaDoorRows.lean that lists a variable, with what it lists TIED to the program's text (the seventh form; the later family's looks); each row that meets fmt, with fmt's text TOLD by the authors' own Lean function (tested against real Go, not proved from fmt's source: count such statements apart). THE CARD IS WHAT COUNTS. Prove the row's statement (the work); the ties are given (YtkcmlphpilggpaaDoorTie.lean); close each card by the builder's one call (the guide's Derived/Test/ToyasCard.lean, 'card_holds'). Laid BY PROGRAM, IN A SANDBOX (cutbox-door.mjs). By AI agents, Wed Nov 11 2026. No macro, syntax, notation, axiom, sorry.
-/
import Derived.Test.YtkcmlphpilggpaaDoorRows
import GoSem.ClaimSeven
namespace Go.Proofs.YtkcmlphpilggpaaDoor
namespace Rows

/-- THE TIED CARD OF 'laws.FnExactBestOrder'. -/
def fnExactBestOrderCard : Claim7 := { stood := { row := fnExactBestOrderRow, standIns := [], harness := (true, "6c293bc0c5007dbc2822f2d37b5ff6f3201bdb5876bcd23c28b5ece0d213352b"), looks := false }, kinds := [], alts := [], laidByText := true, laidKinds := [.data, .data], laidTests := true, laidLooks := .later }
def FnExactBestOrderCardSaid : Prop := Claim7.holds Tryd.pinned (.plain (OpenSpec.ofChange fnExactBestOrderSpec)) fnExactBestOrderCard

/-- THE TIED CARD OF 'laws.FnExactBestOf'. -/
def fnExactBestOfCard : Claim7 := { stood := { row := fnExactBestOfRow, standIns := [], harness := (true, "6c293bc0c5007dbc2822f2d37b5ff6f3201bdb5876bcd23c28b5ece0d213352b"), looks := false }, kinds := [], alts := [], laidByText := true, laidKinds := [.data, .data], laidTests := true, laidLooks := .later }
def FnExactBestOfCardSaid : Prop := Claim7.holds Tryd.pinned (.plain (OpenSpec.ofChange fnExactBestOfSpec)) fnExactBestOfCard

/-- THE SECOND FORM's CARD OF 'laws.FnExactBestOrder'. -/
def fnExactBestOrderUptoCard : Claim7 := { stood := { row := fnExactBestOrderUptoRow, standIns := [], harness := (true, "6c293bc0c5007dbc2822f2d37b5ff6f3201bdb5876bcd23c28b5ece0d213352b"), looks := false }, kinds := [], alts := [], laidByText := true, laidKinds := [.data, .data], laidTests := true, laidLooks := .later }
def FnExactBestOrderUptoCardSaid : Prop := Claim7.holds Tryd.pinned (.plain (OpenSpec.upto fnExactBestOrderSpec)) fnExactBestOrderUptoCard

/-- THE SECOND FORM's CARD OF 'laws.FnExactBestOf'. -/
def fnExactBestOfUptoCard : Claim7 := { stood := { row := fnExactBestOfUptoRow, standIns := [], harness := (true, "6c293bc0c5007dbc2822f2d37b5ff6f3201bdb5876bcd23c28b5ece0d213352b"), looks := false }, kinds := [], alts := [], laidByText := true, laidKinds := [.data, .data], laidTests := true, laidLooks := .later }
def FnExactBestOfUptoCardSaid : Prop := Claim7.holds Tryd.pinned (.plain (OpenSpec.upto fnExactBestOfSpec)) fnExactBestOfUptoCard
end Rows
end Go.Proofs.YtkcmlphpilggpaaDoor
