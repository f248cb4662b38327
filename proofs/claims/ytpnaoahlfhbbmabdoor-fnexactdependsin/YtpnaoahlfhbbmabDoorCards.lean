/-
  DERIVED. GIVEN WITH THE SEED: THE CARDS: each row of YtpnaoahlfhbbmabDoorRows.lean that lists a variable, with what it lists TIED to the program's text (the seventh form; the later family's looks); each row that meets fmt, with fmt's text TOLD by the authors' own Lean function (tested against real Go, not proved from fmt's source: count such statements apart). THE CARD IS WHAT COUNTS. Prove the row's statement (the work); the ties are given (YtpnaoahlfhbbmabDoorTie.lean); close each card by the builder's one call (the guide's Derived/Test/ToyasCard.lean, 'card_holds'). Laid BY PROGRAM, IN A SANDBOX (cutbox-door.mjs). By AI agents, Wed Nov 11 2026. No macro, syntax, notation, axiom, sorry.
-/
import Derived.Test.YtpnaoahlfhbbmabDoorRows
import GoSem.ClaimSeven
namespace Go.Proofs.YtpnaoahlfhbbmabDoor
namespace Rows

/-- THE TIED CARD OF 'laws.FnExactDependsIn'. -/
def fnExactDependsInCard : Claim7 := { stood := { row := fnExactDependsInRow, standIns := [], harness := (true, "853bd77568ef99e8df458546ed817f5cbee18f53d984a9bcb7f510b3a24accb9"), looks := false }, kinds := [], alts := [], laidByText := true, laidKinds := [.data, .data], laidTests := true, laidLooks := .later }
def FnExactDependsInCardSaid : Prop := Claim7.holds Tryd.pinned (.plain (OpenSpec.ofChange fnExactDependsInSpec)) fnExactDependsInCard

/-- THE SECOND FORM's CARD OF 'laws.FnExactDependsIn'. -/
def fnExactDependsInUptoCard : Claim7 := { stood := { row := fnExactDependsInUptoRow, standIns := [], harness := (true, "853bd77568ef99e8df458546ed817f5cbee18f53d984a9bcb7f510b3a24accb9"), looks := false }, kinds := [], alts := [], laidByText := true, laidKinds := [.data, .data], laidTests := true, laidLooks := .later }
def FnExactDependsInUptoCardSaid : Prop := Claim7.holds Tryd.pinned (.plain (OpenSpec.upto fnExactDependsInSpec)) fnExactDependsInUptoCard
end Rows
end Go.Proofs.YtpnaoahlfhbbmabDoor
