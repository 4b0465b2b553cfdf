/-
  DERIVED. GIVEN WITH THE SEED: THE CARDS: each row of YtaigicdoepdhnacDoorRows.lean that lists a variable, with what it lists TIED to the program's text (the seventh form; the later family's looks); each row that meets fmt, with fmt's text TOLD by the authors' own Lean function (tested against real Go, not proved from fmt's source: count such statements apart). THE CARD IS WHAT COUNTS. Prove the row's statement (the work); the ties are given (YtaigicdoepdhnacDoorTie.lean); close each card by the builder's one call (the guide's Derived/Test/ToyasCard.lean, 'card_holds'). Laid BY PROGRAM, IN A SANDBOX (cutbox-door.mjs). By AI agents, Wed Nov 11 2026. No macro, syntax, notation, axiom, sorry.
-/
import Derived.Test.YtaigicdoepdhnacDoorRows
import GoSem.ClaimSeven
namespace Go.Proofs.YtaigicdoepdhnacDoor
namespace Rows

/-- THE TIED CARD OF 'laws.FnShifted'. -/
def fnShiftedCard : Claim7 := { stood := { row := fnShiftedRow, standIns := [], harness := (true, "1949fe4e141da8213597be614a32c0492f76852ec86c23ccbc125eeedf80c5c2"), looks := false }, kinds := [], alts := [], laidByText := true, laidKinds := [.data], laidTests := true, laidLooks := .later }
def FnShiftedCardSaid : Prop := Claim7.holds Tryd.pinned (.plain (OpenSpec.ofChange fnShiftedSpec)) fnShiftedCard

/-- THE SECOND FORM's CARD OF 'laws.FnShifted'. -/
def fnShiftedUptoCard : Claim7 := { stood := { row := fnShiftedUptoRow, standIns := [], harness := (true, "1949fe4e141da8213597be614a32c0492f76852ec86c23ccbc125eeedf80c5c2"), looks := false }, kinds := [], alts := [], laidByText := true, laidKinds := [.data], laidTests := true, laidLooks := .later }
def FnShiftedUptoCardSaid : Prop := Claim7.holds Tryd.pinned (.plain (OpenSpec.upto fnShiftedSpec)) fnShiftedUptoCard
end Rows
end Go.Proofs.YtaigicdoepdhnacDoor
