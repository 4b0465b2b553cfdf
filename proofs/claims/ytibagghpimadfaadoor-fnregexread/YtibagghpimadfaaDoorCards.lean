/-
  DERIVED. GIVEN WITH THE SEED: THE CARDS: each row of YtibagghpimadfaaDoorRows.lean that lists a variable, with what it lists TIED to the program's text (the seventh form; the later family's looks); each row that meets fmt, with fmt's text TOLD by the authors' own Lean function (tested against real Go, not proved from fmt's source: count such statements apart). THE CARD IS WHAT COUNTS. Prove the row's statement (the work); the ties are given (YtibagghpimadfaaDoorTie.lean); close each card by the builder's one call (the guide's Derived/Test/ToyasCard.lean, 'card_holds'). Laid BY PROGRAM, IN A SANDBOX (cutbox-door.mjs). By AI agents, Wed Nov 11 2026. No macro, syntax, notation, axiom, sorry.
-/
import Derived.Test.YtibagghpimadfaaDoorRows
import GoSem.ClaimSeven
namespace Go.Proofs.YtibagghpimadfaaDoor
namespace Rows

/-- THE TIED CARD OF 'laws.FnRegexRead'. -/
def fnRegexReadCard : Claim7 := { stood := { row := fnRegexReadRow, standIns := [], harness := (true, "116587b8b1a51d82a9cbd9e8fa893be4a5b53332e9b228fe8d4031b005f11e67"), looks := false }, kinds := [], alts := [], laidByText := true, laidKinds := [.data, .data, .data, .data, .pinned], laidTests := true, laidLooks := .later }
def FnRegexReadCardSaid : Prop := Claim7.holds Tryd.pinned (.plain (OpenSpec.ofChange fnRegexReadSpec)) fnRegexReadCard

/-- THE TIED CARD OF 'laws.FnExactReadRegex'. -/
def fnExactReadRegexCard : Claim7 := { stood := { row := fnExactReadRegexRow, standIns := [], harness := (true, "116587b8b1a51d82a9cbd9e8fa893be4a5b53332e9b228fe8d4031b005f11e67"), looks := false }, kinds := [], alts := [], laidByText := true, laidKinds := [.data, .pinned], laidTests := true, laidLooks := .later }
def FnExactReadRegexCardSaid : Prop := Claim7.holds Tryd.pinned (.plain (OpenSpec.ofChange fnExactReadRegexSpec)) fnExactReadRegexCard

/-- THE TIED CARD OF 'laws.FnExactRegexText'. -/
def fnExactRegexTextCard : Claim7 := { stood := { row := fnExactRegexTextRow, standIns := [], harness := (true, "116587b8b1a51d82a9cbd9e8fa893be4a5b53332e9b228fe8d4031b005f11e67"), looks := false }, kinds := [], alts := [], laidByText := true, laidKinds := [.data, .data, .data], laidTests := true, laidLooks := .later }
def FnExactRegexTextCardSaid : Prop := Claim7.holds Tryd.pinned (.plain (OpenSpec.ofChange fnExactRegexTextSpec)) fnExactRegexTextCard

/-- THE SECOND FORM's CARD OF 'laws.FnRegexRead'. -/
def fnRegexReadUptoCard : Claim7 := { stood := { row := fnRegexReadUptoRow, standIns := [], harness := (true, "116587b8b1a51d82a9cbd9e8fa893be4a5b53332e9b228fe8d4031b005f11e67"), looks := false }, kinds := [], alts := [], laidByText := true, laidKinds := [.data, .data, .data, .data, .pinned], laidTests := true, laidLooks := .later }
def FnRegexReadUptoCardSaid : Prop := Claim7.holds Tryd.pinned (.plain (OpenSpec.upto fnRegexReadSpec)) fnRegexReadUptoCard

/-- THE SECOND FORM's CARD OF 'laws.FnExactReadRegex'. -/
def fnExactReadRegexUptoCard : Claim7 := { stood := { row := fnExactReadRegexUptoRow, standIns := [], harness := (true, "116587b8b1a51d82a9cbd9e8fa893be4a5b53332e9b228fe8d4031b005f11e67"), looks := false }, kinds := [], alts := [], laidByText := true, laidKinds := [.data, .pinned], laidTests := true, laidLooks := .later }
def FnExactReadRegexUptoCardSaid : Prop := Claim7.holds Tryd.pinned (.plain (OpenSpec.upto fnExactReadRegexSpec)) fnExactReadRegexUptoCard

/-- THE SECOND FORM's CARD OF 'laws.FnExactRegexText'. -/
def fnExactRegexTextUptoCard : Claim7 := { stood := { row := fnExactRegexTextUptoRow, standIns := [], harness := (true, "116587b8b1a51d82a9cbd9e8fa893be4a5b53332e9b228fe8d4031b005f11e67"), looks := false }, kinds := [], alts := [], laidByText := true, laidKinds := [.data, .data, .data], laidTests := true, laidLooks := .later }
def FnExactRegexTextUptoCardSaid : Prop := Claim7.holds Tryd.pinned (.plain (OpenSpec.upto fnExactRegexTextSpec)) fnExactRegexTextUptoCard
end Rows
end Go.Proofs.YtibagghpimadfaaDoor
