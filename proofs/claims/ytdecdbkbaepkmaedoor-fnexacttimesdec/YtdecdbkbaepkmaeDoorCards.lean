/-
  DERIVED. GIVEN WITH THE SEED: THE CARDS: each row of YtdecdbkbaepkmaeDoorRows.lean that lists a variable, with what it lists TIED to the program's text (the seventh form; the later family's looks); each row that meets fmt, with fmt's text TOLD by the authors' own Lean function (tested against real Go, not proved from fmt's source: count such statements apart). THE CARD IS WHAT COUNTS. Prove the row's statement (the work); the ties are given (YtdecdbkbaepkmaeDoorTie.lean); close each card by the builder's one call (the guide's Derived/Test/ToyasCard.lean, 'card_holds'). Laid BY PROGRAM, IN A SANDBOX (cutbox-door.mjs). By AI agents, Wed Nov 11 2026. No macro, syntax, notation, axiom, sorry.
-/
import Derived.Test.YtdecdbkbaepkmaeDoorRows
import GoSem.ClaimSeven
namespace Go.Proofs.YtdecdbkbaepkmaeDoor
namespace Rows

/-- THE TIED CARD OF 'laws.FnExactTimesDec'. -/
def fnExactTimesDecCard : Claim7 := { stood := { row := fnExactTimesDecRow, standIns := [], harness := (true, "7f23c49f946be488158ef90b7dc7ced2ea5362054c526797fe903bd5a4efa0cb"), looks := false }, kinds := [], alts := [], laidByText := true, laidKinds := [.data, .pinned], laidTests := true, laidLooks := .later }
def FnExactTimesDecCardSaid : Prop := Claim7.holds Tryd.pinned (.plain (OpenSpec.ofChange fnExactTimesDecSpec)) fnExactTimesDecCard

/-- THE SECOND FORM's CARD OF 'laws.FnExactTimesDec'. -/
def fnExactTimesDecUptoCard : Claim7 := { stood := { row := fnExactTimesDecUptoRow, standIns := [], harness := (true, "7f23c49f946be488158ef90b7dc7ced2ea5362054c526797fe903bd5a4efa0cb"), looks := false }, kinds := [], alts := [], laidByText := true, laidKinds := [.data, .pinned], laidTests := true, laidLooks := .later }
def FnExactTimesDecUptoCardSaid : Prop := Claim7.holds Tryd.pinned (.plain (OpenSpec.upto fnExactTimesDecSpec)) fnExactTimesDecUptoCard
end Rows
end Go.Proofs.YtdecdbkbaepkmaeDoor
