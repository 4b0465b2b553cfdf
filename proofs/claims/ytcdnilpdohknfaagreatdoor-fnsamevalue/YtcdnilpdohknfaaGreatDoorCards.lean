/-
  DERIVED. GIVEN WITH THE SEED: THE CARDS: each row of YtcdnilpdohknfaaGreatDoorRows.lean that lists a variable, with what it lists TIED to the program's text (the seventh form; the later family's looks); each row that meets fmt, with fmt's text TOLD by the authors' own Lean function (tested against real Go, not proved from fmt's source: count such statements apart). THE CARD IS WHAT COUNTS. Prove the row's statement (the work); the ties are given (YtcdnilpdohknfaaGreatDoorTie.lean); close each card by the builder's one call (the guide's Derived/Test/ToyasCard.lean, 'card_holds'). Laid BY PROGRAM, IN A SANDBOX (cutbox-door.mjs). By AI agents, Wed Nov 11 2026. No macro, syntax, notation, axiom, sorry.
-/
import Derived.Test.YtcdnilpdohknfaaGreatDoorRows
import GoSem.ClaimSeven
namespace Go.Proofs.YtcdnilpdohknfaaGreatDoor
namespace Rows

/-- THE TIED CARD OF 'laws.FnValues'. -/
def fnValuesCard : Claim7 := { stood := { row := fnValuesRow, standIns := [], harness := (true, "be01b302c12ce7c68b0763cc71d8ec3d01dcc8a6f35973d53139b3f70f8e1985"), looks := true }, kinds := [], alts := [], laidByText := true, laidKinds := [.data, .data, .data, .data, .data, .pinned], laidTests := true, laidLooks := .later }
def FnValuesCardSaid : Prop := Claim7.holds Tryz.pinned (.plain (OpenSpec.ofChange fnValuesSpec)) fnValuesCard

/-- THE TIED CARD OF 'laws.FnBased'. -/
def fnBasedCard : Claim7 := { stood := { row := fnBasedRow, standIns := [], harness := (true, "be01b302c12ce7c68b0763cc71d8ec3d01dcc8a6f35973d53139b3f70f8e1985"), looks := true }, kinds := [], alts := [], laidByText := true, laidKinds := [.data, .data, .data, .data, .data, .pinned], laidTests := true, laidLooks := .later }
def FnBasedCardSaid : Prop := Claim7.holds Tryz.pinned (.plain (OpenSpec.ofChange fnBasedSpec)) fnBasedCard

/-- THE TIED CARD OF 'laws.FnMembers'. -/
def fnMembersCard : Claim7 := { stood := { row := fnMembersRow, standIns := [], harness := (true, "be01b302c12ce7c68b0763cc71d8ec3d01dcc8a6f35973d53139b3f70f8e1985"), looks := true }, kinds := [], alts := [], laidByText := true, laidKinds := [.data, .data, .data, .data, .data, .pinned], laidTests := true, laidLooks := .later }
def FnMembersCardSaid : Prop := Claim7.holds Tryz.pinned (.plain (OpenSpec.ofChange fnMembersSpec)) fnMembersCard

/-- THE TIED CARD OF 'laws.FnSameValue'. -/
def fnSameValueCard : Claim7 := { stood := { row := fnSameValueRow, standIns := [], harness := (true, "be01b302c12ce7c68b0763cc71d8ec3d01dcc8a6f35973d53139b3f70f8e1985"), looks := true }, kinds := [], alts := [], laidByText := true, laidKinds := [.data, .data, .data, .data, .data, .pinned], laidTests := true, laidLooks := .later }
def FnSameValueCardSaid : Prop := Claim7.holds Tryz.pinned (.plain (OpenSpec.ofChange fnSameValueSpec)) fnSameValueCard

/-- THE SECOND FORM's CARD OF 'laws.FnValues'. -/
def fnValuesUptoCard : Claim7 := { stood := { row := fnValuesUptoRow, standIns := [], harness := (true, "be01b302c12ce7c68b0763cc71d8ec3d01dcc8a6f35973d53139b3f70f8e1985"), looks := true }, kinds := [], alts := [], laidByText := true, laidKinds := [.data, .data, .data, .data, .data, .pinned], laidTests := true, laidLooks := .later }
def FnValuesUptoCardSaid : Prop := Claim7.holds Tryz.pinned (.plain (OpenSpec.upto fnValuesSpec)) fnValuesUptoCard

/-- THE SECOND FORM's CARD OF 'laws.FnBased'. -/
def fnBasedUptoCard : Claim7 := { stood := { row := fnBasedUptoRow, standIns := [], harness := (true, "be01b302c12ce7c68b0763cc71d8ec3d01dcc8a6f35973d53139b3f70f8e1985"), looks := true }, kinds := [], alts := [], laidByText := true, laidKinds := [.data, .data, .data, .data, .data, .pinned], laidTests := true, laidLooks := .later }
def FnBasedUptoCardSaid : Prop := Claim7.holds Tryz.pinned (.plain (OpenSpec.upto fnBasedSpec)) fnBasedUptoCard

/-- THE SECOND FORM's CARD OF 'laws.FnMembers'. -/
def fnMembersUptoCard : Claim7 := { stood := { row := fnMembersUptoRow, standIns := [], harness := (true, "be01b302c12ce7c68b0763cc71d8ec3d01dcc8a6f35973d53139b3f70f8e1985"), looks := true }, kinds := [], alts := [], laidByText := true, laidKinds := [.data, .data, .data, .data, .data, .pinned], laidTests := true, laidLooks := .later }
def FnMembersUptoCardSaid : Prop := Claim7.holds Tryz.pinned (.plain (OpenSpec.upto fnMembersSpec)) fnMembersUptoCard

/-- THE SECOND FORM's CARD OF 'laws.FnSameValue'. -/
def fnSameValueUptoCard : Claim7 := { stood := { row := fnSameValueUptoRow, standIns := [], harness := (true, "be01b302c12ce7c68b0763cc71d8ec3d01dcc8a6f35973d53139b3f70f8e1985"), looks := true }, kinds := [], alts := [], laidByText := true, laidKinds := [.data, .data, .data, .data, .data, .pinned], laidTests := true, laidLooks := .later }
def FnSameValueUptoCardSaid : Prop := Claim7.holds Tryz.pinned (.plain (OpenSpec.upto fnSameValueSpec)) fnSameValueUptoCard
end Rows
end Go.Proofs.YtcdnilpdohknfaaGreatDoor
