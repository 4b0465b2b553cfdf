/-
  DERIVED. GIVEN WITH THE SEED: THE CARDS: each row of YtgjkcnaebganjaaDoorRows.lean that lists a variable, with what it lists TIED to the program's text (the seventh form; the later family's looks); each row that meets fmt, with fmt's text TOLD by the authors' own Lean function (tested against real Go, not proved from fmt's source: count such statements apart). THE CARD IS WHAT COUNTS. Prove the row's statement (the work); the ties are given (YtgjkcnaebganjaaDoorTie.lean); close each card by the builder's one call (the guide's Derived/Test/ToyasCard.lean, 'card_holds'). Laid BY PROGRAM, IN A SANDBOX (cutbox-door.mjs). By AI agents, Wed Nov 11 2026. No macro, syntax, notation, axiom, sorry.
-/
import Derived.Test.YtgjkcnaebganjaaDoorRows
import GoSem.ClaimSeven
namespace Go.Proofs.YtgjkcnaebganjaaDoor
namespace Rows

/-- THE TIED CARD OF 'laws.FnExactBoundAt'. -/
def fnExactBoundAtCard : Claim7 := { stood := { row := fnExactBoundAtRow, standIns := [], harness := (true, "773f9475c7df02decaf8912b1e20238f1ebc1ca538aee4aeea6e44651d42a7e0"), looks := false }, kinds := [], alts := [], laidByText := true, laidKinds := [.data, .pinned], laidTests := true, laidLooks := .later }
def FnExactBoundAtCardSaid : Prop := Claim7.holds Tryd.pinned (.plain (OpenSpec.ofChange fnExactBoundAtSpec)) fnExactBoundAtCard

/-- THE SECOND FORM's CARD OF 'laws.FnExactBoundAt'. -/
def fnExactBoundAtUptoCard : Claim7 := { stood := { row := fnExactBoundAtUptoRow, standIns := [], harness := (true, "773f9475c7df02decaf8912b1e20238f1ebc1ca538aee4aeea6e44651d42a7e0"), looks := false }, kinds := [], alts := [], laidByText := true, laidKinds := [.data, .pinned], laidTests := true, laidLooks := .later }
def FnExactBoundAtUptoCardSaid : Prop := Claim7.holds Tryd.pinned (.plain (OpenSpec.upto fnExactBoundAtSpec)) fnExactBoundAtUptoCard
end Rows
end Go.Proofs.YtgjkcnaebganjaaDoor
