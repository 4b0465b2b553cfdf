/-
  DERIVED. GIVEN WITH THE SEED: THE CARDS: each row of YtgefgkaofknfdaaDoorRows.lean that lists a variable, with what it lists TIED to the program's text (the seventh form; the later family's looks); each row that meets fmt, with fmt's text TOLD by the authors' own Lean function (tested against real Go, not proved from fmt's source: count such statements apart). THE CARD IS WHAT COUNTS. Prove the row's statement (the work); the ties are given (YtgefgkaofknfdaaDoorTie.lean); close each card by the builder's one call (the guide's Derived/Test/ToyasCard.lean, 'card_holds'). Laid BY PROGRAM, IN A SANDBOX (cutbox-door.mjs). By AI agents, Wed Nov 11 2026. No macro, syntax, notation, axiom, sorry.
-/
import Derived.Test.YtgefgkaofknfdaaDoorRows
import GoSem.ClaimSeven
namespace Go.Proofs.YtgefgkaofknfdaaDoor
namespace Rows

/-- THE TIED CARD OF 'laws.FnDateOrder'. -/
def fnDateOrderCard : Claim7 := { stood := { row := fnDateOrderRow, standIns := [], harness := (true, "5ce2ee12e63d86bb9f08e28d398cf3f72a5f9c302471f56e410dd301984e373d"), looks := false }, kinds := [], alts := [], laidByText := true, laidKinds := [.data], laidTests := true, laidLooks := .later }
def FnDateOrderCardSaid : Prop := Claim7.holds Tryd.pinned (.plain (OpenSpec.ofChange fnDateOrderSpec)) fnDateOrderCard

/-- THE SECOND FORM's CARD OF 'laws.FnDateOrder'. -/
def fnDateOrderUptoCard : Claim7 := { stood := { row := fnDateOrderUptoRow, standIns := [], harness := (true, "5ce2ee12e63d86bb9f08e28d398cf3f72a5f9c302471f56e410dd301984e373d"), looks := false }, kinds := [], alts := [], laidByText := true, laidKinds := [.data], laidTests := true, laidLooks := .later }
def FnDateOrderUptoCardSaid : Prop := Claim7.holds Tryd.pinned (.plain (OpenSpec.upto fnDateOrderSpec)) fnDateOrderUptoCard
end Rows
end Go.Proofs.YtgefgkaofknfdaaDoor
