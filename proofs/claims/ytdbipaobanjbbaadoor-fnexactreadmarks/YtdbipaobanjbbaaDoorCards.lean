/-
  DERIVED. GIVEN WITH THE SEED: THE CARDS: each row of YtdbipaobanjbbaaDoorRows.lean that lists a variable, with what it lists TIED to the program's text (the seventh form; the later family's looks); each row that meets fmt, with fmt's text TOLD by the authors' own Lean function (tested against real Go, not proved from fmt's source: count such statements apart). THE CARD IS WHAT COUNTS. Prove the row's statement (the work); the ties are given (YtdbipaobanjbbaaDoorTie.lean); close each card by the builder's one call (the guide's Derived/Test/ToyasCard.lean, 'card_holds'). Laid BY PROGRAM, IN A SANDBOX (cutbox-door.mjs). By AI agents, Wed Nov 11 2026. No macro, syntax, notation, axiom, sorry.
-/
import Derived.Test.YtdbipaobanjbbaaDoorRows
import GoSem.ClaimSeven
namespace Go.Proofs.YtdbipaobanjbbaaDoor
namespace Rows

/-- THE TIED CARD OF 'laws.FnExactReadMarks'. -/
def fnExactReadMarksCard : Claim7 := { stood := { row := fnExactReadMarksRow, standIns := [], harness := (true, "f62d51e756b18e94b9d0dc99a31ce1428613690a83b4801bf93efdbb4c45d917"), looks := true }, kinds := [], alts := [], laidByText := true, laidKinds := [.data, .data, .data, .data, .sentinel, .sentinel, .pinned], laidTests := true, laidLooks := .later }
def FnExactReadMarksCardSaid : Prop := Claim7.holds Tryd.pinned (.plain (OpenSpec.ofChange fnExactReadMarksSpec)) fnExactReadMarksCard

/-- THE SECOND FORM's CARD OF 'laws.FnExactReadMarks'. -/
def fnExactReadMarksUptoCard : Claim7 := { stood := { row := fnExactReadMarksUptoRow, standIns := [], harness := (true, "f62d51e756b18e94b9d0dc99a31ce1428613690a83b4801bf93efdbb4c45d917"), looks := true }, kinds := [], alts := [], laidByText := true, laidKinds := [.data, .data, .data, .data, .sentinel, .sentinel, .pinned], laidTests := true, laidLooks := .later }
def FnExactReadMarksUptoCardSaid : Prop := Claim7.holds Tryd.pinned (.plain (OpenSpec.upto fnExactReadMarksSpec)) fnExactReadMarksUptoCard
end Rows
end Go.Proofs.YtdbipaobanjbbaaDoor
