/-
  DERIVED. GIVEN WITH THE SEED: THE CARDS: each row of YtlmafkcdhphjcaaGreatDoorRows.lean that lists a variable, with what it lists TIED to the program's text (the seventh form; the later family's looks); each row that meets fmt, with fmt's text TOLD by the authors' own Lean function (tested against real Go, not proved from fmt's source: count such statements apart). THE CARD IS WHAT COUNTS. Prove the row's statement (the work); the ties are given (YtlmafkcdhphjcaaGreatDoorTie.lean); close each card by the builder's one call (the guide's Derived/Test/ToyasCard.lean, 'card_holds'). Laid BY PROGRAM, IN A SANDBOX (cutbox-door.mjs). By AI agents, Wed Nov 11 2026. No macro, syntax, notation, axiom, sorry.
-/
import Derived.Test.YtlmafkcdhphjcaaGreatDoorRows
import GoSem.ClaimSeven
namespace Go.Proofs.YtlmafkcdhphjcaaGreatDoor
namespace Rows

/-- THE TIED CARD OF 'laws.FnExactSelect'. -/
def fnExactSelectCard : Claim7 := { stood := { row := fnExactSelectRow, standIns := [], harness := (true, "e992e908c42efbe5deeca51896e8fb7d3d3a8e6f712674cd6cc870c1cdacd95b"), looks := false }, kinds := [], alts := [], laidByText := true, laidKinds := [.data, .pinned], laidTests := true, laidLooks := .later }
def FnExactSelectCardSaid : Prop := Claim7.holds Tryz.pinned (.plain (OpenSpec.ofChange fnExactSelectSpec)) fnExactSelectCard

/-- THE SECOND FORM's CARD OF 'laws.FnExactSelect'. -/
def fnExactSelectUptoCard : Claim7 := { stood := { row := fnExactSelectUptoRow, standIns := [], harness := (true, "e992e908c42efbe5deeca51896e8fb7d3d3a8e6f712674cd6cc870c1cdacd95b"), looks := false }, kinds := [], alts := [], laidByText := true, laidKinds := [.data, .pinned], laidTests := true, laidLooks := .later }
def FnExactSelectUptoCardSaid : Prop := Claim7.holds Tryz.pinned (.plain (OpenSpec.upto fnExactSelectSpec)) fnExactSelectUptoCard
end Rows
end Go.Proofs.YtlmafkcdhphjcaaGreatDoor
