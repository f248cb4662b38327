/-
  DERIVED. GIVEN WITH THE SEED: THE CARDS: each row of YthliamoeplgblaaDoorRows.lean that lists a variable, with what it lists TIED to the program's text (the seventh form; the later family's looks); each row that meets fmt, with fmt's text TOLD by the authors' own Lean function (tested against real Go, not proved from fmt's source: count such statements apart). THE CARD IS WHAT COUNTS. Prove the row's statement (the work); the ties are given (YthliamoeplgblaaDoorTie.lean); close each card by the builder's one call (the guide's Derived/Test/ToyasCard.lean, 'card_holds'). Laid BY PROGRAM, IN A SANDBOX (cutbox-door.mjs). By AI agents, Wed Nov 11 2026. No macro, syntax, notation, axiom, sorry.
-/
import Derived.Test.YthliamoeplgblaaDoorRows
import GoSem.ClaimSeven
namespace Go.Proofs.YthliamoeplgblaaDoor
namespace Rows

/-- THE TIED CARD OF 'laws.FnExactStartTableau'. -/
def fnExactStartTableauCard : Claim7 := { stood := { row := fnExactStartTableauRow, standIns := [], harness := (true, "a13cbb9914869c6eddd000d99f3bc2cb34a4cb16da0c49570fb805db96af8146"), looks := false }, kinds := [], alts := [], laidByText := true, laidKinds := [.data, .data], laidTests := true, laidLooks := .later }
def FnExactStartTableauCardSaid : Prop := Claim7.holds Tryd.pinned (.plain (OpenSpec.ofChange fnExactStartTableauSpec)) fnExactStartTableauCard

/-- THE TIED CARD OF 'laws.FnExactIsLossless'. -/
def fnExactIsLosslessCard : Claim7 := { stood := { row := fnExactIsLosslessRow, standIns := [], harness := (true, "a13cbb9914869c6eddd000d99f3bc2cb34a4cb16da0c49570fb805db96af8146"), looks := false }, kinds := [], alts := [], laidByText := true, laidKinds := [.data, .data], laidTests := true, laidLooks := .later }
def FnExactIsLosslessCardSaid : Prop := Claim7.holds Tryd.pinned (.plain (OpenSpec.ofChange fnExactIsLosslessSpec)) fnExactIsLosslessCard

/-- THE SECOND FORM's CARD OF 'laws.FnExactStartTableau'. -/
def fnExactStartTableauUptoCard : Claim7 := { stood := { row := fnExactStartTableauUptoRow, standIns := [], harness := (true, "a13cbb9914869c6eddd000d99f3bc2cb34a4cb16da0c49570fb805db96af8146"), looks := false }, kinds := [], alts := [], laidByText := true, laidKinds := [.data, .data], laidTests := true, laidLooks := .later }
def FnExactStartTableauUptoCardSaid : Prop := Claim7.holds Tryd.pinned (.plain (OpenSpec.upto fnExactStartTableauSpec)) fnExactStartTableauUptoCard

/-- THE SECOND FORM's CARD OF 'laws.FnExactIsLossless'. -/
def fnExactIsLosslessUptoCard : Claim7 := { stood := { row := fnExactIsLosslessUptoRow, standIns := [], harness := (true, "a13cbb9914869c6eddd000d99f3bc2cb34a4cb16da0c49570fb805db96af8146"), looks := false }, kinds := [], alts := [], laidByText := true, laidKinds := [.data, .data], laidTests := true, laidLooks := .later }
def FnExactIsLosslessUptoCardSaid : Prop := Claim7.holds Tryd.pinned (.plain (OpenSpec.upto fnExactIsLosslessSpec)) fnExactIsLosslessUptoCard
end Rows
end Go.Proofs.YthliamoeplgblaaDoor
