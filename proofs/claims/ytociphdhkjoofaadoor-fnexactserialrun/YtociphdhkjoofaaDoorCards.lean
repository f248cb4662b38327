/-
  DERIVED. GIVEN WITH THE SEED: THE CARDS: each row of YtociphdhkjoofaaDoorRows.lean that lists a variable, with what it lists TIED to the program's text (the seventh form; the later family's looks); each row that meets fmt, with fmt's text TOLD by the authors' own Lean function (tested against real Go, not proved from fmt's source: count such statements apart). THE CARD IS WHAT COUNTS. Prove the row's statement (the work); the ties are given (YtociphdhkjoofaaDoorTie.lean); close each card by the builder's one call (the guide's Derived/Test/ToyasCard.lean, 'card_holds'). Laid BY PROGRAM, IN A SANDBOX (cutbox-door.mjs). By AI agents, Wed Nov 11 2026. No macro, syntax, notation, axiom, sorry.
-/
import Derived.Test.YtociphdhkjoofaaDoorRows
import GoSem.ClaimSeven
namespace Go.Proofs.YtociphdhkjoofaaDoor
namespace Rows

/-- THE TIED CARD OF 'laws.FnExactConflictsOf'. -/
def fnExactConflictsOfCard : Claim7 := { stood := { row := fnExactConflictsOfRow, standIns := [], harness := (true, "5c232b494b2d36890fb3c134685b41ea3accf8437b45f6de13f61078ed51c8f9"), looks := false }, kinds := [], alts := [], laidByText := true, laidKinds := [.data, .data], laidTests := true, laidLooks := .later }
def FnExactConflictsOfCardSaid : Prop := Claim7.holds Tryd.pinned (.plain (OpenSpec.ofChange fnExactConflictsOfSpec)) fnExactConflictsOfCard

/-- THE TIED CARD OF 'laws.FnExactSerialOrder'. -/
def fnExactSerialOrderCard : Claim7 := { stood := { row := fnExactSerialOrderRow, standIns := [], harness := (true, "5c232b494b2d36890fb3c134685b41ea3accf8437b45f6de13f61078ed51c8f9"), looks := false }, kinds := [], alts := [], laidByText := true, laidKinds := [.data, .data], laidTests := true, laidLooks := .later }
def FnExactSerialOrderCardSaid : Prop := Claim7.holds Tryd.pinned (.plain (OpenSpec.ofChange fnExactSerialOrderSpec)) fnExactSerialOrderCard

/-- THE TIED CARD OF 'laws.FnExactSerialRun'. -/
def fnExactSerialRunCard : Claim7 := { stood := { row := fnExactSerialRunRow, standIns := [], harness := (true, "5c232b494b2d36890fb3c134685b41ea3accf8437b45f6de13f61078ed51c8f9"), looks := false }, kinds := [], alts := [], laidByText := true, laidKinds := [.data, .data], laidTests := true, laidLooks := .later }
def FnExactSerialRunCardSaid : Prop := Claim7.holds Tryd.pinned (.plain (OpenSpec.ofChange fnExactSerialRunSpec)) fnExactSerialRunCard

/-- THE SECOND FORM's CARD OF 'laws.FnExactConflictsOf'. -/
def fnExactConflictsOfUptoCard : Claim7 := { stood := { row := fnExactConflictsOfUptoRow, standIns := [], harness := (true, "5c232b494b2d36890fb3c134685b41ea3accf8437b45f6de13f61078ed51c8f9"), looks := false }, kinds := [], alts := [], laidByText := true, laidKinds := [.data, .data], laidTests := true, laidLooks := .later }
def FnExactConflictsOfUptoCardSaid : Prop := Claim7.holds Tryd.pinned (.plain (OpenSpec.upto fnExactConflictsOfSpec)) fnExactConflictsOfUptoCard

/-- THE SECOND FORM's CARD OF 'laws.FnExactSerialOrder'. -/
def fnExactSerialOrderUptoCard : Claim7 := { stood := { row := fnExactSerialOrderUptoRow, standIns := [], harness := (true, "5c232b494b2d36890fb3c134685b41ea3accf8437b45f6de13f61078ed51c8f9"), looks := false }, kinds := [], alts := [], laidByText := true, laidKinds := [.data, .data], laidTests := true, laidLooks := .later }
def FnExactSerialOrderUptoCardSaid : Prop := Claim7.holds Tryd.pinned (.plain (OpenSpec.upto fnExactSerialOrderSpec)) fnExactSerialOrderUptoCard

/-- THE SECOND FORM's CARD OF 'laws.FnExactSerialRun'. -/
def fnExactSerialRunUptoCard : Claim7 := { stood := { row := fnExactSerialRunUptoRow, standIns := [], harness := (true, "5c232b494b2d36890fb3c134685b41ea3accf8437b45f6de13f61078ed51c8f9"), looks := false }, kinds := [], alts := [], laidByText := true, laidKinds := [.data, .data], laidTests := true, laidLooks := .later }
def FnExactSerialRunUptoCardSaid : Prop := Claim7.holds Tryd.pinned (.plain (OpenSpec.upto fnExactSerialRunSpec)) fnExactSerialRunUptoCard
end Rows
end Go.Proofs.YtociphdhkjoofaaDoor
