/-
  DERIVED. GIVEN WITH THE SEED: THE CARDS: each row of YtibagghpimadfaaGreatDoorRows.lean that lists a variable, with what it lists TIED to the program's text (the seventh form; the later family's looks); each row that meets fmt, with fmt's text TOLD by the authors' own Lean function (tested against real Go, not proved from fmt's source: count such statements apart). THE CARD IS WHAT COUNTS. Prove the row's statement (the work); the ties are given (YtibagghpimadfaaGreatDoorTie.lean); close each card by the builder's one call (the guide's Derived/Test/ToyasCard.lean, 'card_holds'). Laid BY PROGRAM, IN A SANDBOX (cutbox-door.mjs). By AI agents, Wed Nov 11 2026. No macro, syntax, notation, axiom, sorry.
-/
import Derived.Test.YtibagghpimadfaaGreatDoorRows
import GoSem.ClaimSeven
namespace Go.Proofs.YtibagghpimadfaaGreatDoor
namespace Rows

/-- THE TIED CARD OF 'laws.FnRegexTexts'. -/
def fnRegexTextsCard : Claim7 := { stood := { row := fnRegexTextsRow, standIns := [], harness := (true, "df8e9e60afca296cd00891c41bfd400dbaec6d2db1c7760ce93832234da6918b"), looks := false }, kinds := [], alts := [], laidByText := true, laidKinds := [.data, .data, .data, .data, .pinned], laidTests := true, laidLooks := .later }
def FnRegexTextsCardSaid : Prop := Claim7.holds Tryz.pinned (.plain (OpenSpec.ofChange fnRegexTextsSpec)) fnRegexTextsCard

/-- THE SECOND FORM's CARD OF 'laws.FnRegexTexts'. -/
def fnRegexTextsUptoCard : Claim7 := { stood := { row := fnRegexTextsUptoRow, standIns := [], harness := (true, "df8e9e60afca296cd00891c41bfd400dbaec6d2db1c7760ce93832234da6918b"), looks := false }, kinds := [], alts := [], laidByText := true, laidKinds := [.data, .data, .data, .data, .pinned], laidTests := true, laidLooks := .later }
def FnRegexTextsUptoCardSaid : Prop := Claim7.holds Tryz.pinned (.plain (OpenSpec.upto fnRegexTextsSpec)) fnRegexTextsUptoCard
end Rows
end Go.Proofs.YtibagghpimadfaaGreatDoor
