/-
  DERIVED. GIVEN WITH THE SEED: THE CARDS: each row of YtgmddgmcchaagaaDoorRows.lean that lists a variable, with what it lists TIED to the program's text (the seventh form; the later family's looks); each row that meets fmt, with fmt's text TOLD by the authors' own Lean function (tested against real Go, not proved from fmt's source: count such statements apart). THE CARD IS WHAT COUNTS. Prove the row's statement (the work); the ties are given (YtgmddgmcchaagaaDoorTie.lean); close each card by the builder's one call (the guide's Derived/Test/ToyasCard.lean, 'card_holds'). Laid BY PROGRAM, IN A SANDBOX (cutbox-door.mjs). By AI agents, Wed Nov 11 2026. No macro, syntax, notation, axiom, sorry.
-/
import Derived.Test.YtgmddgmcchaagaaDoorRows
import GoSem.ClaimSeven
namespace Go.Proofs.YtgmddgmcchaagaaDoor
namespace Rows

/-- THE TIED CARD OF 'laws.FnExactDocOk'. -/
def fnExactDocOkCard : Claim7 := { stood := { row := fnExactDocOkRow, standIns := [], harness := (true, "72203072c82d19f1b2a2d59656f4706d23e941bf7ba8555fecb6e28a264a83ab"), looks := false }, kinds := [], alts := [], laidByText := true, laidKinds := [.data, .pinned], laidTests := true, laidLooks := .later }
def FnExactDocOkCardSaid : Prop := Claim7.holds Tryd.pinned (.plain (OpenSpec.ofChange fnExactDocOkSpec)) fnExactDocOkCard

/-- THE SECOND FORM's CARD OF 'laws.FnExactDocOk'. -/
def fnExactDocOkUptoCard : Claim7 := { stood := { row := fnExactDocOkUptoRow, standIns := [], harness := (true, "72203072c82d19f1b2a2d59656f4706d23e941bf7ba8555fecb6e28a264a83ab"), looks := false }, kinds := [], alts := [], laidByText := true, laidKinds := [.data, .pinned], laidTests := true, laidLooks := .later }
def FnExactDocOkUptoCardSaid : Prop := Claim7.holds Tryd.pinned (.plain (OpenSpec.upto fnExactDocOkSpec)) fnExactDocOkUptoCard
end Rows
end Go.Proofs.YtgmddgmcchaagaaDoor
