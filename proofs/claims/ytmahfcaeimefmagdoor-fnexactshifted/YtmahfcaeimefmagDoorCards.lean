/-
  DERIVED. GIVEN WITH THE SEED: THE CARDS: each row of YtmahfcaeimefmagDoorRows.lean that lists a variable, with what it lists TIED to the program's text (the seventh form; the later family's looks); each row that meets fmt, with fmt's text TOLD by the authors' own Lean function (tested against real Go, not proved from fmt's source: count such statements apart). THE CARD IS WHAT COUNTS. Prove the row's statement (the work); the ties are given (YtmahfcaeimefmagDoorTie.lean); close each card by the builder's one call (the guide's Derived/Test/ToyasCard.lean, 'card_holds'). Laid BY PROGRAM, IN A SANDBOX (cutbox-door.mjs). By AI agents, Wed Nov 11 2026. No macro, syntax, notation, axiom, sorry.
-/
import Derived.Test.YtmahfcaeimefmagDoorRows
import GoSem.ClaimSeven
namespace Go.Proofs.YtmahfcaeimefmagDoor
namespace Rows

/-- THE TIED CARD OF 'laws.FnExactShifted'. -/
def fnExactShiftedCard : Claim7 := { stood := { row := fnExactShiftedRow, standIns := [], harness := (true, "66e59e7f6b06593edfc7569f274806b7a15055b07291197dadf0883cb63e55f5"), looks := false }, kinds := [], alts := [], laidByText := true, laidKinds := [.data], laidTests := true, laidLooks := .later }
def FnExactShiftedCardSaid : Prop := Claim7.holds Tryd.pinned (.plain (OpenSpec.ofChange fnExactShiftedSpec)) fnExactShiftedCard

/-- THE SECOND FORM's CARD OF 'laws.FnExactShifted'. -/
def fnExactShiftedUptoCard : Claim7 := { stood := { row := fnExactShiftedUptoRow, standIns := [], harness := (true, "66e59e7f6b06593edfc7569f274806b7a15055b07291197dadf0883cb63e55f5"), looks := false }, kinds := [], alts := [], laidByText := true, laidKinds := [.data], laidTests := true, laidLooks := .later }
def FnExactShiftedUptoCardSaid : Prop := Claim7.holds Tryd.pinned (.plain (OpenSpec.upto fnExactShiftedSpec)) fnExactShiftedUptoCard
end Rows
end Go.Proofs.YtmahfcaeimefmagDoor
