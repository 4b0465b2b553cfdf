/-
  DERIVED. GIVEN WITH THE SEED: THE CARDS: each row of YtkfhhgfmjkjldaaDoorRows.lean that lists a variable, with what it lists TIED to the program's text (the seventh form; the later family's looks); each row that meets fmt, with fmt's text TOLD by the authors' own Lean function (tested against real Go, not proved from fmt's source: count such statements apart). THE CARD IS WHAT COUNTS. Prove the row's statement (the work); the ties are given (YtkfhhgfmjkjldaaDoorTie.lean); close each card by the builder's one call (the guide's Derived/Test/ToyasCard.lean, 'card_holds'). Laid BY PROGRAM, IN A SANDBOX (cutbox-door.mjs). By AI agents, Wed Nov 11 2026. No macro, syntax, notation, axiom, sorry.
-/
import Derived.Test.YtkfhhgfmjkjldaaDoorRows
import GoSem.ClaimSeven
namespace Go.Proofs.YtkfhhgfmjkjldaaDoor
namespace Rows

/-- THE TIED CARD OF 'laws.FnExactKeysOk'. -/
def fnExactKeysOkCard : Claim7 := { stood := { row := fnExactKeysOkRow, standIns := [], harness := (true, "19b414e5ccc06ab97b09f0166c5cb35c4e567b752d66bf0ab3a04f4cf89cf445"), looks := false }, kinds := [], alts := [], laidByText := true, laidKinds := [.data, .pinned], laidTests := true, laidLooks := .later }
def FnExactKeysOkCardSaid : Prop := Claim7.holds Tryd.pinned (.plain (OpenSpec.ofChange fnExactKeysOkSpec)) fnExactKeysOkCard

/-- THE SECOND FORM's CARD OF 'laws.FnExactKeysOk'. -/
def fnExactKeysOkUptoCard : Claim7 := { stood := { row := fnExactKeysOkUptoRow, standIns := [], harness := (true, "19b414e5ccc06ab97b09f0166c5cb35c4e567b752d66bf0ab3a04f4cf89cf445"), looks := false }, kinds := [], alts := [], laidByText := true, laidKinds := [.data, .pinned], laidTests := true, laidLooks := .later }
def FnExactKeysOkUptoCardSaid : Prop := Claim7.holds Tryd.pinned (.plain (OpenSpec.upto fnExactKeysOkSpec)) fnExactKeysOkUptoCard
end Rows
end Go.Proofs.YtkfhhgfmjkjldaaDoor
