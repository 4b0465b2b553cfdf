/-
  DERIVED. GIVEN WITH THE SEED: THE CARDS: each row of YtmahfcaeimefmaaDoorRows.lean that lists a variable, with what it lists TIED to the program's text (the seventh form; the later family's looks); each row that meets fmt, with fmt's text TOLD by the authors' own Lean function (tested against real Go, not proved from fmt's source: count such statements apart). THE CARD IS WHAT COUNTS. Prove the row's statement (the work); the ties are given (YtmahfcaeimefmaaDoorTie.lean); close each card by the builder's one call (the guide's Derived/Test/ToyasCard.lean, 'card_holds'). Laid BY PROGRAM, IN A SANDBOX (cutbox-door.mjs). By AI agents, Wed Nov 11 2026. No macro, syntax, notation, axiom, sorry.
-/
import Derived.Test.YtmahfcaeimefmaaDoorRows
import GoSem.ClaimSeven
namespace Go.Proofs.YtmahfcaeimefmaaDoor
namespace Rows

/-- THE TIED CARD OF 'laws.FnExactDaysIn'. -/
def fnExactDaysInCard : Claim7 := { stood := { row := fnExactDaysInRow, standIns := [], harness := (true, "1b70f6b218b10c9ddd5474e4de90b4701d5a009c0459e4add69c02eaf0a862a1"), looks := false }, kinds := [], alts := [], laidByText := true, laidKinds := [.data], laidTests := true, laidLooks := .later }
def FnExactDaysInCardSaid : Prop := Claim7.holds Tryd.pinned (.plain (OpenSpec.ofChange fnExactDaysInSpec)) fnExactDaysInCard

/-- THE SECOND FORM's CARD OF 'laws.FnExactDaysIn'. -/
def fnExactDaysInUptoCard : Claim7 := { stood := { row := fnExactDaysInUptoRow, standIns := [], harness := (true, "1b70f6b218b10c9ddd5474e4de90b4701d5a009c0459e4add69c02eaf0a862a1"), looks := false }, kinds := [], alts := [], laidByText := true, laidKinds := [.data], laidTests := true, laidLooks := .later }
def FnExactDaysInUptoCardSaid : Prop := Claim7.holds Tryd.pinned (.plain (OpenSpec.upto fnExactDaysInSpec)) fnExactDaysInUptoCard
end Rows
end Go.Proofs.YtmahfcaeimefmaaDoor
