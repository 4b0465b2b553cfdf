/-
  DERIVED. GIVEN WITH THE SEED: THE CARDS: each row of YtmahfcaeimefmafDoorRows.lean that lists a variable, with what it lists TIED to the program's text (the seventh form; the later family's looks); each row that meets fmt, with fmt's text TOLD by the authors' own Lean function (tested against real Go, not proved from fmt's source: count such statements apart). THE CARD IS WHAT COUNTS. Prove the row's statement (the work); the ties are given (YtmahfcaeimefmafDoorTie.lean); close each card by the builder's one call (the guide's Derived/Test/ToyasCard.lean, 'card_holds'). Laid BY PROGRAM, IN A SANDBOX (cutbox-door.mjs). By AI agents, Wed Nov 11 2026. No macro, syntax, notation, axiom, sorry.
-/
import Derived.Test.YtmahfcaeimefmafDoorRows
import GoSem.ClaimSeven
namespace Go.Proofs.YtmahfcaeimefmafDoor
namespace Rows

/-- THE TIED CARD OF 'laws.FnExactCompareDate'. -/
def fnExactCompareDateCard : Claim7 := { stood := { row := fnExactCompareDateRow, standIns := [], harness := (true, "5a8208178afbf776eebc7c00a7fbe95d66932441373e41782acac3a7c30c3087"), looks := false }, kinds := [], alts := [], laidByText := true, laidKinds := [.data], laidTests := true, laidLooks := .later }
def FnExactCompareDateCardSaid : Prop := Claim7.holds Tryd.pinned (.plain (OpenSpec.ofChange fnExactCompareDateSpec)) fnExactCompareDateCard

/-- THE SECOND FORM's CARD OF 'laws.FnExactCompareDate'. -/
def fnExactCompareDateUptoCard : Claim7 := { stood := { row := fnExactCompareDateUptoRow, standIns := [], harness := (true, "5a8208178afbf776eebc7c00a7fbe95d66932441373e41782acac3a7c30c3087"), looks := false }, kinds := [], alts := [], laidByText := true, laidKinds := [.data], laidTests := true, laidLooks := .later }
def FnExactCompareDateUptoCardSaid : Prop := Claim7.holds Tryd.pinned (.plain (OpenSpec.upto fnExactCompareDateSpec)) fnExactCompareDateUptoCard
end Rows
end Go.Proofs.YtmahfcaeimefmafDoor
