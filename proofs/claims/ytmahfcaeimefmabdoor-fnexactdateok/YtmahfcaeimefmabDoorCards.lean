/-
  DERIVED. GIVEN WITH THE SEED: THE CARDS: each row of YtmahfcaeimefmabDoorRows.lean that lists a variable, with what it lists TIED to the program's text (the seventh form; the later family's looks); each row that meets fmt, with fmt's text TOLD by the authors' own Lean function (tested against real Go, not proved from fmt's source: count such statements apart). THE CARD IS WHAT COUNTS. Prove the row's statement (the work); the ties are given (YtmahfcaeimefmabDoorTie.lean); close each card by the builder's one call (the guide's Derived/Test/ToyasCard.lean, 'card_holds'). Laid BY PROGRAM, IN A SANDBOX (cutbox-door.mjs). By AI agents, Wed Nov 11 2026. No macro, syntax, notation, axiom, sorry.
-/
import Derived.Test.YtmahfcaeimefmabDoorRows
import GoSem.ClaimSeven
namespace Go.Proofs.YtmahfcaeimefmabDoor
namespace Rows

/-- THE TIED CARD OF 'laws.FnExactDateOk'. -/
def fnExactDateOkCard : Claim7 := { stood := { row := fnExactDateOkRow, standIns := [], harness := (true, "d06974c6b33f537dd4b51154a6dc577a37d13970eb8c1f9ab4706bcd7f911245"), looks := false }, kinds := [], alts := [], laidByText := true, laidKinds := [.data], laidTests := true, laidLooks := .later }
def FnExactDateOkCardSaid : Prop := Claim7.holds Tryd.pinned (.plain (OpenSpec.ofChange fnExactDateOkSpec)) fnExactDateOkCard

/-- THE SECOND FORM's CARD OF 'laws.FnExactDateOk'. -/
def fnExactDateOkUptoCard : Claim7 := { stood := { row := fnExactDateOkUptoRow, standIns := [], harness := (true, "d06974c6b33f537dd4b51154a6dc577a37d13970eb8c1f9ab4706bcd7f911245"), looks := false }, kinds := [], alts := [], laidByText := true, laidKinds := [.data], laidTests := true, laidLooks := .later }
def FnExactDateOkUptoCardSaid : Prop := Claim7.holds Tryd.pinned (.plain (OpenSpec.upto fnExactDateOkSpec)) fnExactDateOkUptoCard
end Rows
end Go.Proofs.YtmahfcaeimefmabDoor
