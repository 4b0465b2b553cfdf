/-
  DERIVED. GIVEN WITH THE SEED: THE CARDS: each row of YtdkldcobgjagkaaDoorRows.lean that lists a variable, with what it lists TIED to the program's text (the seventh form; the later family's looks); each row that meets fmt, with fmt's text TOLD by the authors' own Lean function (tested against real Go, not proved from fmt's source: count such statements apart). THE CARD IS WHAT COUNTS. Prove the row's statement (the work); the ties are given (YtdkldcobgjagkaaDoorTie.lean); close each card by the builder's one call (the guide's Derived/Test/ToyasCard.lean, 'card_holds'). Laid BY PROGRAM, IN A SANDBOX (cutbox-door.mjs). By AI agents, Wed Nov 11 2026. No macro, syntax, notation, axiom, sorry.
-/
import Derived.Test.YtdkldcobgjagkaaDoorRows
import GoSem.ClaimSeven
namespace Go.Proofs.YtdkldcobgjagkaaDoor
namespace Rows

/-- THE TIED CARD OF 'laws.FnExactReadRegex'. -/
def fnExactReadRegexCard : Claim7 := { stood := { row := fnExactReadRegexRow, standIns := [], harness := (true, "cfc098eccb4376ad2dbb5ae92ecb224a595340199b6fb94507116380b4544f72"), looks := false }, kinds := [], alts := [], laidByText := true, laidKinds := [.data, .pinned], laidTests := true, laidLooks := .later }
def FnExactReadRegexCardSaid : Prop := Claim7.holds Tryd.pinned (.plain (OpenSpec.ofChange fnExactReadRegexSpec)) fnExactReadRegexCard

/-- THE TIED CARD OF 'laws.FnExactRegexText'. -/
def fnExactRegexTextCard : Claim7 := { stood := { row := fnExactRegexTextRow, standIns := [], harness := (true, "cfc098eccb4376ad2dbb5ae92ecb224a595340199b6fb94507116380b4544f72"), looks := false }, kinds := [], alts := [], laidByText := true, laidKinds := [.data, .data, .data], laidTests := true, laidLooks := .later }
def FnExactRegexTextCardSaid : Prop := Claim7.holds Tryd.pinned (.plain (OpenSpec.ofChange fnExactRegexTextSpec)) fnExactRegexTextCard

/-- THE SECOND FORM's CARD OF 'laws.FnExactReadRegex'. -/
def fnExactReadRegexUptoCard : Claim7 := { stood := { row := fnExactReadRegexUptoRow, standIns := [], harness := (true, "cfc098eccb4376ad2dbb5ae92ecb224a595340199b6fb94507116380b4544f72"), looks := false }, kinds := [], alts := [], laidByText := true, laidKinds := [.data, .pinned], laidTests := true, laidLooks := .later }
def FnExactReadRegexUptoCardSaid : Prop := Claim7.holds Tryd.pinned (.plain (OpenSpec.upto fnExactReadRegexSpec)) fnExactReadRegexUptoCard

/-- THE SECOND FORM's CARD OF 'laws.FnExactRegexText'. -/
def fnExactRegexTextUptoCard : Claim7 := { stood := { row := fnExactRegexTextUptoRow, standIns := [], harness := (true, "cfc098eccb4376ad2dbb5ae92ecb224a595340199b6fb94507116380b4544f72"), looks := false }, kinds := [], alts := [], laidByText := true, laidKinds := [.data, .data, .data], laidTests := true, laidLooks := .later }
def FnExactRegexTextUptoCardSaid : Prop := Claim7.holds Tryd.pinned (.plain (OpenSpec.upto fnExactRegexTextSpec)) fnExactRegexTextUptoCard
end Rows
end Go.Proofs.YtdkldcobgjagkaaDoor
