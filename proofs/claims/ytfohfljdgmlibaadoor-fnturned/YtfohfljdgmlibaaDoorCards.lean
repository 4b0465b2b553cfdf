/-
  DERIVED. GIVEN WITH THE SEED: THE CARDS: each row of YtfohfljdgmlibaaDoorRows.lean that lists a variable, with what it lists TIED to the program's text (the seventh form; the later family's looks); each row that meets fmt, with fmt's text TOLD by the authors' own Lean function (tested against real Go, not proved from fmt's source: count such statements apart). THE CARD IS WHAT COUNTS. Prove the row's statement (the work); the ties are given (YtfohfljdgmlibaaDoorTie.lean); close each card by the builder's one call (the guide's Derived/Test/ToyasCard.lean, 'card_holds'). Laid BY PROGRAM, IN A SANDBOX (cutbox-door.mjs). By AI agents, Wed Nov 11 2026. No macro, syntax, notation, axiom, sorry.
-/
import Derived.Test.YtfohfljdgmlibaaDoorRows
import GoSem.ClaimSeven
namespace Go.Proofs.YtfohfljdgmlibaaDoor
namespace Rows

/-- THE TIED CARD OF 'laws.FnPositions'. -/
def fnPositionsCard : Claim7 := { stood := { row := fnPositionsRow, standIns := [], harness := (true, "cdfab07835a1af01c782ccaa2977d9ee2321ec4234de555e42b41343cd9f5157"), looks := false }, kinds := [], alts := [], laidByText := true, laidKinds := [.data], laidTests := true, laidLooks := .later }
def FnPositionsCardSaid : Prop := Claim7.holds Tryd.pinned (.plain (OpenSpec.ofChange fnPositionsSpec)) fnPositionsCard

/-- THE TIED CARD OF 'laws.FnAttributed'. -/
def fnAttributedCard : Claim7 := { stood := { row := fnAttributedRow, standIns := [], harness := (true, "cdfab07835a1af01c782ccaa2977d9ee2321ec4234de555e42b41343cd9f5157"), looks := false }, kinds := [], alts := [], laidByText := true, laidKinds := [.data], laidTests := true, laidLooks := .later }
def FnAttributedCardSaid : Prop := Claim7.holds Tryd.pinned (.plain (OpenSpec.ofChange fnAttributedSpec)) fnAttributedCard

/-- THE TIED CARD OF 'laws.FnSample'. -/
def fnSampleCard : Claim7 := { stood := { row := fnSampleRow, standIns := [], harness := (true, "cdfab07835a1af01c782ccaa2977d9ee2321ec4234de555e42b41343cd9f5157"), looks := false }, kinds := [], alts := [], laidByText := true, laidKinds := [.data], laidTests := true, laidLooks := .later }
def FnSampleCardSaid : Prop := Claim7.holds Tryd.pinned (.plain (OpenSpec.ofChange fnSampleSpec)) fnSampleCard

/-- THE TIED CARD OF 'laws.FnTurned'. -/
def fnTurnedCard : Claim7 := { stood := { row := fnTurnedRow, standIns := [], harness := (true, "cdfab07835a1af01c782ccaa2977d9ee2321ec4234de555e42b41343cd9f5157"), looks := false }, kinds := [], alts := [], laidByText := true, laidKinds := [.data], laidTests := true, laidLooks := .later }
def FnTurnedCardSaid : Prop := Claim7.holds Tryd.pinned (.plain (OpenSpec.ofChange fnTurnedSpec)) fnTurnedCard

/-- THE SECOND FORM's CARD OF 'laws.FnPositions'. -/
def fnPositionsUptoCard : Claim7 := { stood := { row := fnPositionsUptoRow, standIns := [], harness := (true, "cdfab07835a1af01c782ccaa2977d9ee2321ec4234de555e42b41343cd9f5157"), looks := false }, kinds := [], alts := [], laidByText := true, laidKinds := [.data], laidTests := true, laidLooks := .later }
def FnPositionsUptoCardSaid : Prop := Claim7.holds Tryd.pinned (.plain (OpenSpec.upto fnPositionsSpec)) fnPositionsUptoCard

/-- THE SECOND FORM's CARD OF 'laws.FnAttributed'. -/
def fnAttributedUptoCard : Claim7 := { stood := { row := fnAttributedUptoRow, standIns := [], harness := (true, "cdfab07835a1af01c782ccaa2977d9ee2321ec4234de555e42b41343cd9f5157"), looks := false }, kinds := [], alts := [], laidByText := true, laidKinds := [.data], laidTests := true, laidLooks := .later }
def FnAttributedUptoCardSaid : Prop := Claim7.holds Tryd.pinned (.plain (OpenSpec.upto fnAttributedSpec)) fnAttributedUptoCard

/-- THE SECOND FORM's CARD OF 'laws.FnSample'. -/
def fnSampleUptoCard : Claim7 := { stood := { row := fnSampleUptoRow, standIns := [], harness := (true, "cdfab07835a1af01c782ccaa2977d9ee2321ec4234de555e42b41343cd9f5157"), looks := false }, kinds := [], alts := [], laidByText := true, laidKinds := [.data], laidTests := true, laidLooks := .later }
def FnSampleUptoCardSaid : Prop := Claim7.holds Tryd.pinned (.plain (OpenSpec.upto fnSampleSpec)) fnSampleUptoCard

/-- THE SECOND FORM's CARD OF 'laws.FnTurned'. -/
def fnTurnedUptoCard : Claim7 := { stood := { row := fnTurnedUptoRow, standIns := [], harness := (true, "cdfab07835a1af01c782ccaa2977d9ee2321ec4234de555e42b41343cd9f5157"), looks := false }, kinds := [], alts := [], laidByText := true, laidKinds := [.data], laidTests := true, laidLooks := .later }
def FnTurnedUptoCardSaid : Prop := Claim7.holds Tryd.pinned (.plain (OpenSpec.upto fnTurnedSpec)) fnTurnedUptoCard
end Rows
end Go.Proofs.YtfohfljdgmlibaaDoor
