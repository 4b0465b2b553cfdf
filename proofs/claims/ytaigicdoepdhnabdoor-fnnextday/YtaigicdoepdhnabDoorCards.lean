/-
  DERIVED. GIVEN WITH THE SEED: THE CARDS: each row of YtaigicdoepdhnabDoorRows.lean that lists a variable, with what it lists TIED to the program's text (the seventh form; the later family's looks); each row that meets fmt, with fmt's text TOLD by the authors' own Lean function (tested against real Go, not proved from fmt's source: count such statements apart). THE CARD IS WHAT COUNTS. Prove the row's statement (the work); the ties are given (YtaigicdoepdhnabDoorTie.lean); close each card by the builder's one call (the guide's Derived/Test/ToyasCard.lean, 'card_holds'). Laid BY PROGRAM, IN A SANDBOX (cutbox-door.mjs). By AI agents, Wed Nov 11 2026. No macro, syntax, notation, axiom, sorry.
-/
import Derived.Test.YtaigicdoepdhnabDoorRows
import GoSem.ClaimSeven
namespace Go.Proofs.YtaigicdoepdhnabDoor
namespace Rows

/-- THE TIED CARD OF 'laws.FnNextDay'. -/
def fnNextDayCard : Claim7 := { stood := { row := fnNextDayRow, standIns := [], harness := (true, "6c7deff394685f2876745924d46d2883c123760992ec97713eb21ec1112f7c40"), looks := false }, kinds := [], alts := [], laidByText := true, laidKinds := [.data], laidTests := true, laidLooks := .later }
def FnNextDayCardSaid : Prop := Claim7.holds Tryd.pinned (.plain (OpenSpec.ofChange fnNextDaySpec)) fnNextDayCard

/-- THE SECOND FORM's CARD OF 'laws.FnNextDay'. -/
def fnNextDayUptoCard : Claim7 := { stood := { row := fnNextDayUptoRow, standIns := [], harness := (true, "6c7deff394685f2876745924d46d2883c123760992ec97713eb21ec1112f7c40"), looks := false }, kinds := [], alts := [], laidByText := true, laidKinds := [.data], laidTests := true, laidLooks := .later }
def FnNextDayUptoCardSaid : Prop := Claim7.holds Tryd.pinned (.plain (OpenSpec.upto fnNextDaySpec)) fnNextDayUptoCard
end Rows
end Go.Proofs.YtaigicdoepdhnabDoor
