/-
  DERIVED. GIVEN WITH THE SEED: THE CARDS: each row of YtckemldmdgmjjaaDoorRows.lean that lists a variable, with what it lists TIED to the program's text (the seventh form; the later family's looks); each row that meets fmt, with fmt's text TOLD by the authors' own Lean function (tested against real Go, not proved from fmt's source: count such statements apart). THE CARD IS WHAT COUNTS. Prove the row's statement (the work); the ties are given (YtckemldmdgmjjaaDoorTie.lean); close each card by the builder's one call (the guide's Derived/Test/ToyasCard.lean, 'card_holds'). Laid BY PROGRAM, IN A SANDBOX (cutbox-door.mjs). By AI agents, Wed Nov 11 2026. No macro, syntax, notation, axiom, sorry.
-/
import Derived.Test.YtckemldmdgmjjaaDoorRows
import GoSem.ClaimSeven
namespace Go.Proofs.YtckemldmdgmjjaaDoor
namespace Rows

/-- THE TIED CARD OF 'laws.FnExactLiteral'. -/
def fnExactLiteralCard : Claim7 := { stood := { row := fnExactLiteralRow, standIns := [], harness := (true, "a91fc89aedb62bb10978594fe70187111632549bece2afbb24293d2440571c94"), looks := false }, kinds := [], alts := [], laidByText := true, laidKinds := [.data, .pinned], laidTests := true, laidLooks := .later }
def FnExactLiteralCardSaid : Prop := Claim7.holds Tryd.pinned (.plain (OpenSpec.ofChange fnExactLiteralSpec)) fnExactLiteralCard

/-- THE SECOND FORM's CARD OF 'laws.FnExactLiteral'. -/
def fnExactLiteralUptoCard : Claim7 := { stood := { row := fnExactLiteralUptoRow, standIns := [], harness := (true, "a91fc89aedb62bb10978594fe70187111632549bece2afbb24293d2440571c94"), looks := false }, kinds := [], alts := [], laidByText := true, laidKinds := [.data, .pinned], laidTests := true, laidLooks := .later }
def FnExactLiteralUptoCardSaid : Prop := Claim7.holds Tryd.pinned (.plain (OpenSpec.upto fnExactLiteralSpec)) fnExactLiteralUptoCard
end Rows
end Go.Proofs.YtckemldmdgmjjaaDoor
