/-
  DERIVED. GIVEN WITH THE SEED: THE CARDS: each row of YtmahfcaeimefmaeDoorRows.lean that lists a variable, with what it lists TIED to the program's text (the seventh form; the later family's looks); each row that meets fmt, with fmt's text TOLD by the authors' own Lean function (tested against real Go, not proved from fmt's source: count such statements apart). THE CARD IS WHAT COUNTS. Prove the row's statement (the work); the ties are given (YtmahfcaeimefmaeDoorTie.lean); close each card by the builder's one call (the guide's Derived/Test/ToyasCard.lean, 'card_holds'). Laid BY PROGRAM, IN A SANDBOX (cutbox-door.mjs). By AI agents, Wed Nov 11 2026. No macro, syntax, notation, axiom, sorry.
-/
import Derived.Test.YtmahfcaeimefmaeDoorRows
import GoSem.ClaimSeven
namespace Go.Proofs.YtmahfcaeimefmaeDoor
namespace Rows

/-- THE TIED CARD OF 'laws.FnExactSecondsOf'. -/
def fnExactSecondsOfCard : Claim7 := { stood := { row := fnExactSecondsOfRow, standIns := [], harness := (true, "dcbf6d65489d0f1e2978da32f9bfbeb379ab4ffbc751b461ae3b9fdf3a84a5bc"), looks := false }, kinds := [], alts := [], laidByText := true, laidKinds := [.data], laidTests := true, laidLooks := .later }
def FnExactSecondsOfCardSaid : Prop := Claim7.holds Tryd.pinned (.plain (OpenSpec.ofChange fnExactSecondsOfSpec)) fnExactSecondsOfCard

/-- THE SECOND FORM's CARD OF 'laws.FnExactSecondsOf'. -/
def fnExactSecondsOfUptoCard : Claim7 := { stood := { row := fnExactSecondsOfUptoRow, standIns := [], harness := (true, "dcbf6d65489d0f1e2978da32f9bfbeb379ab4ffbc751b461ae3b9fdf3a84a5bc"), looks := false }, kinds := [], alts := [], laidByText := true, laidKinds := [.data], laidTests := true, laidLooks := .later }
def FnExactSecondsOfUptoCardSaid : Prop := Claim7.holds Tryd.pinned (.plain (OpenSpec.upto fnExactSecondsOfSpec)) fnExactSecondsOfUptoCard
end Rows
end Go.Proofs.YtmahfcaeimefmaeDoor
