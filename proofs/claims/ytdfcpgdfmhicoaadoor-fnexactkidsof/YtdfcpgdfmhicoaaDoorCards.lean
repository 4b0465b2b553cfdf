/-
  DERIVED. GIVEN WITH THE SEED: THE CARDS: each row of YtdfcpgdfmhicoaaDoorRows.lean that lists a variable, with what it lists TIED to the program's text (the seventh form; the later family's looks); each row that meets fmt, with fmt's text TOLD by the authors' own Lean function (tested against real Go, not proved from fmt's source: count such statements apart). THE CARD IS WHAT COUNTS. Prove the row's statement (the work); the ties are given (YtdfcpgdfmhicoaaDoorTie.lean); close each card by the builder's one call (the guide's Derived/Test/ToyasCard.lean, 'card_holds'). Laid BY PROGRAM, IN A SANDBOX (cutbox-door.mjs). By AI agents, Wed Nov 11 2026. No macro, syntax, notation, axiom, sorry.
-/
import Derived.Test.YtdfcpgdfmhicoaaDoorRows
import GoSem.ClaimSeven
namespace Go.Proofs.YtdfcpgdfmhicoaaDoor
namespace Rows

/-- THE TIED CARD OF 'laws.FnExactDocOk'. -/
def fnExactDocOkCard : Claim7 := { stood := { row := fnExactDocOkRow, standIns := [], harness := (true, "8c57ea994e8deb1be4056f6f6e58620f522219835cbad3d8d60417a5e7a64434"), looks := false }, kinds := [], alts := [], laidByText := true, laidKinds := [.data, .pinned], laidTests := true, laidLooks := .later }
def FnExactDocOkCardSaid : Prop := Claim7.holds Tryd.pinned (.plain (OpenSpec.ofChange fnExactDocOkSpec)) fnExactDocOkCard

/-- THE TIED CARD OF 'laws.FnExactKidsOf'. -/
def fnExactKidsOfCard : Claim7 := { stood := { row := fnExactKidsOfRow, standIns := [], harness := (true, "8c57ea994e8deb1be4056f6f6e58620f522219835cbad3d8d60417a5e7a64434"), looks := false }, kinds := [], alts := [], laidByText := true, laidKinds := [.data, .pinned], laidTests := true, laidLooks := .later }
def FnExactKidsOfCardSaid : Prop := Claim7.holds Tryd.pinned (.plain (OpenSpec.ofChange fnExactKidsOfSpec)) fnExactKidsOfCard

/-- THE TIED CARD OF 'laws.FnExactTextOf'. -/
def fnExactTextOfCard : Claim7 := { stood := { row := fnExactTextOfRow, standIns := [], harness := (true, "8c57ea994e8deb1be4056f6f6e58620f522219835cbad3d8d60417a5e7a64434"), looks := false }, kinds := [], alts := [], laidByText := true, laidKinds := [.data, .pinned], laidTests := true, laidLooks := .later }
def FnExactTextOfCardSaid : Prop := Claim7.holds Tryd.pinned (.plain (OpenSpec.ofChange fnExactTextOfSpec)) fnExactTextOfCard

/-- THE TIED CARD OF 'laws.FnExactBoundAt'. -/
def fnExactBoundAtCard : Claim7 := { stood := { row := fnExactBoundAtRow, standIns := [], harness := (true, "8c57ea994e8deb1be4056f6f6e58620f522219835cbad3d8d60417a5e7a64434"), looks := false }, kinds := [], alts := [], laidByText := true, laidKinds := [.data, .pinned], laidTests := true, laidLooks := .later }
def FnExactBoundAtCardSaid : Prop := Claim7.holds Tryd.pinned (.plain (OpenSpec.ofChange fnExactBoundAtSpec)) fnExactBoundAtCard

/-- THE TIED CARD OF 'laws.FnExactNamesOf'. -/
def fnExactNamesOfCard : Claim7 := { stood := { row := fnExactNamesOfRow, standIns := [], harness := (true, "8c57ea994e8deb1be4056f6f6e58620f522219835cbad3d8d60417a5e7a64434"), looks := false }, kinds := [], alts := [], laidByText := true, laidKinds := [.data, .pinned], laidTests := true, laidLooks := .later }
def FnExactNamesOfCardSaid : Prop := Claim7.holds Tryd.pinned (.plain (OpenSpec.ofChange fnExactNamesOfSpec)) fnExactNamesOfCard

/-- THE TIED CARD OF 'laws.FnExactAttrNames'. -/
def fnExactAttrNamesCard : Claim7 := { stood := { row := fnExactAttrNamesRow, standIns := [], harness := (true, "8c57ea994e8deb1be4056f6f6e58620f522219835cbad3d8d60417a5e7a64434"), looks := false }, kinds := [], alts := [], laidByText := true, laidKinds := [.data, .pinned], laidTests := true, laidLooks := .later }
def FnExactAttrNamesCardSaid : Prop := Claim7.holds Tryd.pinned (.plain (OpenSpec.ofChange fnExactAttrNamesSpec)) fnExactAttrNamesCard

/-- THE SECOND FORM's CARD OF 'laws.FnExactDocOk'. -/
def fnExactDocOkUptoCard : Claim7 := { stood := { row := fnExactDocOkUptoRow, standIns := [], harness := (true, "8c57ea994e8deb1be4056f6f6e58620f522219835cbad3d8d60417a5e7a64434"), looks := false }, kinds := [], alts := [], laidByText := true, laidKinds := [.data, .pinned], laidTests := true, laidLooks := .later }
def FnExactDocOkUptoCardSaid : Prop := Claim7.holds Tryd.pinned (.plain (OpenSpec.upto fnExactDocOkSpec)) fnExactDocOkUptoCard

/-- THE SECOND FORM's CARD OF 'laws.FnExactKidsOf'. -/
def fnExactKidsOfUptoCard : Claim7 := { stood := { row := fnExactKidsOfUptoRow, standIns := [], harness := (true, "8c57ea994e8deb1be4056f6f6e58620f522219835cbad3d8d60417a5e7a64434"), looks := false }, kinds := [], alts := [], laidByText := true, laidKinds := [.data, .pinned], laidTests := true, laidLooks := .later }
def FnExactKidsOfUptoCardSaid : Prop := Claim7.holds Tryd.pinned (.plain (OpenSpec.upto fnExactKidsOfSpec)) fnExactKidsOfUptoCard

/-- THE SECOND FORM's CARD OF 'laws.FnExactTextOf'. -/
def fnExactTextOfUptoCard : Claim7 := { stood := { row := fnExactTextOfUptoRow, standIns := [], harness := (true, "8c57ea994e8deb1be4056f6f6e58620f522219835cbad3d8d60417a5e7a64434"), looks := false }, kinds := [], alts := [], laidByText := true, laidKinds := [.data, .pinned], laidTests := true, laidLooks := .later }
def FnExactTextOfUptoCardSaid : Prop := Claim7.holds Tryd.pinned (.plain (OpenSpec.upto fnExactTextOfSpec)) fnExactTextOfUptoCard

/-- THE SECOND FORM's CARD OF 'laws.FnExactBoundAt'. -/
def fnExactBoundAtUptoCard : Claim7 := { stood := { row := fnExactBoundAtUptoRow, standIns := [], harness := (true, "8c57ea994e8deb1be4056f6f6e58620f522219835cbad3d8d60417a5e7a64434"), looks := false }, kinds := [], alts := [], laidByText := true, laidKinds := [.data, .pinned], laidTests := true, laidLooks := .later }
def FnExactBoundAtUptoCardSaid : Prop := Claim7.holds Tryd.pinned (.plain (OpenSpec.upto fnExactBoundAtSpec)) fnExactBoundAtUptoCard

/-- THE SECOND FORM's CARD OF 'laws.FnExactNamesOf'. -/
def fnExactNamesOfUptoCard : Claim7 := { stood := { row := fnExactNamesOfUptoRow, standIns := [], harness := (true, "8c57ea994e8deb1be4056f6f6e58620f522219835cbad3d8d60417a5e7a64434"), looks := false }, kinds := [], alts := [], laidByText := true, laidKinds := [.data, .pinned], laidTests := true, laidLooks := .later }
def FnExactNamesOfUptoCardSaid : Prop := Claim7.holds Tryd.pinned (.plain (OpenSpec.upto fnExactNamesOfSpec)) fnExactNamesOfUptoCard

/-- THE SECOND FORM's CARD OF 'laws.FnExactAttrNames'. -/
def fnExactAttrNamesUptoCard : Claim7 := { stood := { row := fnExactAttrNamesUptoRow, standIns := [], harness := (true, "8c57ea994e8deb1be4056f6f6e58620f522219835cbad3d8d60417a5e7a64434"), looks := false }, kinds := [], alts := [], laidByText := true, laidKinds := [.data, .pinned], laidTests := true, laidLooks := .later }
def FnExactAttrNamesUptoCardSaid : Prop := Claim7.holds Tryd.pinned (.plain (OpenSpec.upto fnExactAttrNamesSpec)) fnExactAttrNamesUptoCard
end Rows
end Go.Proofs.YtdfcpgdfmhicoaaDoor
