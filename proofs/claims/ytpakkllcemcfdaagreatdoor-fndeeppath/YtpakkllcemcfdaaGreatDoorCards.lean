/-
  DERIVED. GIVEN WITH THE SEED: THE CARDS: each row of YtpakkllcemcfdaaGreatDoorRows.lean that lists a variable, with what it lists TIED to the program's text (the seventh form; the later family's looks); each row that meets fmt, with fmt's text TOLD by the authors' own Lean function (tested against real Go, not proved from fmt's source: count such statements apart). THE CARD IS WHAT COUNTS. Prove the row's statement (the work); the ties are given (YtpakkllcemcfdaaGreatDoorTie.lean); close each card by the builder's one call (the guide's Derived/Test/ToyasCard.lean, 'card_holds'). Laid BY PROGRAM, IN A SANDBOX (cutbox-door.mjs). By AI agents, Wed Nov 11 2026. No macro, syntax, notation, axiom, sorry.
-/
import Derived.Test.YtpakkllcemcfdaaGreatDoorRows
import GoSem.ClaimSeven
namespace Go.Proofs.YtpakkllcemcfdaaGreatDoor
namespace Rows

/-- THE TIED CARD OF 'laws.FnSelected'. -/
def fnSelectedCard : Claim7 := { stood := { row := fnSelectedRow, standIns := [], harness := (true, "f3a43cc3cd3dd7a8f64b17cbd8e74ba0234e9676e30dba291831d06f41fdf6b6"), looks := true }, kinds := [], alts := [], laidByText := true, laidKinds := [.data, .pinned], laidTests := true, laidLooks := .later }
def FnSelectedCardSaid : Prop := Claim7.holds Tryz.pinned (.plain (OpenSpec.ofChange fnSelectedSpec)) fnSelectedCard

/-- THE TIED CARD OF 'laws.FnDeepPath'. -/
def fnDeepPathCard : Claim7 := { stood := { row := fnDeepPathRow, standIns := [], harness := (true, "f3a43cc3cd3dd7a8f64b17cbd8e74ba0234e9676e30dba291831d06f41fdf6b6"), looks := true }, kinds := [], alts := [], laidByText := true, laidKinds := [.data, .pinned], laidTests := true, laidLooks := .later }
def FnDeepPathCardSaid : Prop := Claim7.holds Tryz.pinned (.plain (OpenSpec.ofChange fnDeepPathSpec)) fnDeepPathCard

/-- THE TIED CARD OF 'laws.FnFields'. -/
def fnFieldsCard : Claim7 := { stood := { row := fnFieldsRow, standIns := [], harness := (true, "f3a43cc3cd3dd7a8f64b17cbd8e74ba0234e9676e30dba291831d06f41fdf6b6"), looks := true }, kinds := [], alts := [], laidByText := true, laidKinds := [.data, .pinned], laidTests := true, laidLooks := .later }
def FnFieldsCardSaid : Prop := Claim7.holds Tryz.pinned (.plain (OpenSpec.ofChange fnFieldsSpec)) fnFieldsCard

/-- THE SECOND FORM's CARD OF 'laws.FnSelected'. -/
def fnSelectedUptoCard : Claim7 := { stood := { row := fnSelectedUptoRow, standIns := [], harness := (true, "f3a43cc3cd3dd7a8f64b17cbd8e74ba0234e9676e30dba291831d06f41fdf6b6"), looks := true }, kinds := [], alts := [], laidByText := true, laidKinds := [.data, .pinned], laidTests := true, laidLooks := .later }
def FnSelectedUptoCardSaid : Prop := Claim7.holds Tryz.pinned (.plain (OpenSpec.upto fnSelectedSpec)) fnSelectedUptoCard

/-- THE SECOND FORM's CARD OF 'laws.FnDeepPath'. -/
def fnDeepPathUptoCard : Claim7 := { stood := { row := fnDeepPathUptoRow, standIns := [], harness := (true, "f3a43cc3cd3dd7a8f64b17cbd8e74ba0234e9676e30dba291831d06f41fdf6b6"), looks := true }, kinds := [], alts := [], laidByText := true, laidKinds := [.data, .pinned], laidTests := true, laidLooks := .later }
def FnDeepPathUptoCardSaid : Prop := Claim7.holds Tryz.pinned (.plain (OpenSpec.upto fnDeepPathSpec)) fnDeepPathUptoCard

/-- THE SECOND FORM's CARD OF 'laws.FnFields'. -/
def fnFieldsUptoCard : Claim7 := { stood := { row := fnFieldsUptoRow, standIns := [], harness := (true, "f3a43cc3cd3dd7a8f64b17cbd8e74ba0234e9676e30dba291831d06f41fdf6b6"), looks := true }, kinds := [], alts := [], laidByText := true, laidKinds := [.data, .pinned], laidTests := true, laidLooks := .later }
def FnFieldsUptoCardSaid : Prop := Claim7.holds Tryz.pinned (.plain (OpenSpec.upto fnFieldsSpec)) fnFieldsUptoCard
end Rows
end Go.Proofs.YtpakkllcemcfdaaGreatDoor
