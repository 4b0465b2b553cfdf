/-
  DERIVED. GIVEN WITH THE SEED: THE CARDS: each row of YtdepgkpfibmbgaaGreatDoorRows.lean that lists a variable, with what it lists TIED to the program's text (the seventh form; the later family's looks); each row that meets fmt, with fmt's text TOLD by the authors' own Lean function (tested against real Go, not proved from fmt's source: count such statements apart). THE CARD IS WHAT COUNTS. Prove the row's statement (the work); the ties are given (YtdepgkpfibmbgaaGreatDoorTie.lean); close each card by the builder's one call (the guide's Derived/Test/ToyasCard.lean, 'card_holds'). Laid BY PROGRAM, IN A SANDBOX (cutbox-door.mjs). By AI agents, Wed Nov 11 2026. No macro, syntax, notation, axiom, sorry.
-/
import Derived.Test.YtdepgkpfibmbgaaGreatDoorRows
import GoSem.ClaimSeven
namespace Go.Proofs.YtdepgkpfibmbgaaGreatDoor
namespace Rows

/-- THE TIED CARD OF 'laws.FnTables'. -/
def fnTablesCard : Claim7 := { stood := { row := fnTablesRow, standIns := [], harness := (true, "4af742487088e7ede9b5b5afb9bc4b902e8971b8dae919a4f89f39ee4432f914"), looks := true }, kinds := [], alts := [], laidByText := true, laidKinds := [.data, .pinned], laidTests := true, laidLooks := .later }
def FnTablesCardSaid : Prop := Claim7.holds Tryz.pinned (.plain (OpenSpec.ofChange fnTablesSpec)) fnTablesCard

/-- THE TIED CARD OF 'laws.FnBreached'. -/
def fnBreachedCard : Claim7 := { stood := { row := fnBreachedRow, standIns := [], harness := (true, "4af742487088e7ede9b5b5afb9bc4b902e8971b8dae919a4f89f39ee4432f914"), looks := true }, kinds := [], alts := [], laidByText := true, laidKinds := [.data, .pinned], laidTests := true, laidLooks := .later }
def FnBreachedCardSaid : Prop := Claim7.holds Tryz.pinned (.plain (OpenSpec.ofChange fnBreachedSpec)) fnBreachedCard

/-- THE SECOND FORM's CARD OF 'laws.FnTables'. -/
def fnTablesUptoCard : Claim7 := { stood := { row := fnTablesUptoRow, standIns := [], harness := (true, "4af742487088e7ede9b5b5afb9bc4b902e8971b8dae919a4f89f39ee4432f914"), looks := true }, kinds := [], alts := [], laidByText := true, laidKinds := [.data, .pinned], laidTests := true, laidLooks := .later }
def FnTablesUptoCardSaid : Prop := Claim7.holds Tryz.pinned (.plain (OpenSpec.upto fnTablesSpec)) fnTablesUptoCard

/-- THE SECOND FORM's CARD OF 'laws.FnBreached'. -/
def fnBreachedUptoCard : Claim7 := { stood := { row := fnBreachedUptoRow, standIns := [], harness := (true, "4af742487088e7ede9b5b5afb9bc4b902e8971b8dae919a4f89f39ee4432f914"), looks := true }, kinds := [], alts := [], laidByText := true, laidKinds := [.data, .pinned], laidTests := true, laidLooks := .later }
def FnBreachedUptoCardSaid : Prop := Claim7.holds Tryz.pinned (.plain (OpenSpec.upto fnBreachedSpec)) fnBreachedUptoCard
end Rows
end Go.Proofs.YtdepgkpfibmbgaaGreatDoor
