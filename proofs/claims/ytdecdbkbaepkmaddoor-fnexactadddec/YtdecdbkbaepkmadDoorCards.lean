/-
  DERIVED. GIVEN WITH THE SEED: THE CARDS: each row of YtdecdbkbaepkmadDoorRows.lean that lists a variable, with what it lists TIED to the program's text (the seventh form; the later family's looks); each row that meets fmt, with fmt's text TOLD by the authors' own Lean function (tested against real Go, not proved from fmt's source: count such statements apart). THE CARD IS WHAT COUNTS. Prove the row's statement (the work); the ties are given (YtdecdbkbaepkmadDoorTie.lean); close each card by the builder's one call (the guide's Derived/Test/ToyasCard.lean, 'card_holds'). Laid BY PROGRAM, IN A SANDBOX (cutbox-door.mjs). By AI agents, Wed Nov 11 2026. No macro, syntax, notation, axiom, sorry.
-/
import Derived.Test.YtdecdbkbaepkmadDoorRows
import GoSem.ClaimSeven
namespace Go.Proofs.YtdecdbkbaepkmadDoor
namespace Rows

/-- THE TIED CARD OF 'laws.FnExactAddDec'. -/
def fnExactAddDecCard : Claim7 := { stood := { row := fnExactAddDecRow, standIns := [], harness := (true, "b4453fe5aa963d9890b4d1988611a4b6c785d9312380d2f7d1e2817efa1a0bf0"), looks := false }, kinds := [], alts := [], laidByText := true, laidKinds := [.data, .pinned], laidTests := true, laidLooks := .later }
def FnExactAddDecCardSaid : Prop := Claim7.holds Tryd.pinned (.plain (OpenSpec.ofChange fnExactAddDecSpec)) fnExactAddDecCard

/-- THE SECOND FORM's CARD OF 'laws.FnExactAddDec'. -/
def fnExactAddDecUptoCard : Claim7 := { stood := { row := fnExactAddDecUptoRow, standIns := [], harness := (true, "b4453fe5aa963d9890b4d1988611a4b6c785d9312380d2f7d1e2817efa1a0bf0"), looks := false }, kinds := [], alts := [], laidByText := true, laidKinds := [.data, .pinned], laidTests := true, laidLooks := .later }
def FnExactAddDecUptoCardSaid : Prop := Claim7.holds Tryd.pinned (.plain (OpenSpec.upto fnExactAddDecSpec)) fnExactAddDecUptoCard
end Rows
end Go.Proofs.YtdecdbkbaepkmadDoor
