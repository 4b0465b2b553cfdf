/-
  DERIVED. GIVEN WITH THE SEED: THE CARDS: each row of YteeglkkgkjmjpaaDoorRows.lean that lists a variable, with what it lists TIED to the program's text (the seventh form; the later family's looks); each row that meets fmt, with fmt's text TOLD by the authors' own Lean function (tested against real Go, not proved from fmt's source: count such statements apart). THE CARD IS WHAT COUNTS. Prove the row's statement (the work); the ties are given (YteeglkkgkjmjpaaDoorTie.lean); close each card by the builder's one call (the guide's Derived/Test/ToyasCard.lean, 'card_holds'). Laid BY PROGRAM, IN A SANDBOX (cutbox-door.mjs). By AI agents, Wed Nov 11 2026. No macro, syntax, notation, axiom, sorry.
-/
import Derived.Test.YteeglkkgkjmjpaaDoorRows
import GoSem.ClaimSeven
namespace Go.Proofs.YteeglkkgkjmjpaaDoor
namespace Rows

/-- THE TIED CARD OF 'laws.FnExactNullable'. -/
def fnExactNullableCard : Claim7 := { stood := { row := fnExactNullableRow, standIns := [], harness := (true, "c6c658a2fbc01c929b904c1cdcf0fa094feee5ad7f66f6ed92f2ca7f0ea7653a"), looks := false }, kinds := [], alts := [], laidByText := true, laidKinds := [.data], laidTests := true, laidLooks := .later }
def FnExactNullableCardSaid : Prop := Claim7.holds Tryd.pinned (.plain (OpenSpec.ofChange fnExactNullableSpec)) fnExactNullableCard

/-- THE TIED CARD OF 'laws.FnExactFirstOf'. -/
def fnExactFirstOfCard : Claim7 := { stood := { row := fnExactFirstOfRow, standIns := [], harness := (true, "c6c658a2fbc01c929b904c1cdcf0fa094feee5ad7f66f6ed92f2ca7f0ea7653a"), looks := false }, kinds := [], alts := [], laidByText := true, laidKinds := [.data], laidTests := true, laidLooks := .later }
def FnExactFirstOfCardSaid : Prop := Claim7.holds Tryd.pinned (.plain (OpenSpec.ofChange fnExactFirstOfSpec)) fnExactFirstOfCard

/-- THE TIED CARD OF 'laws.FnExactLastOf'. -/
def fnExactLastOfCard : Claim7 := { stood := { row := fnExactLastOfRow, standIns := [], harness := (true, "c6c658a2fbc01c929b904c1cdcf0fa094feee5ad7f66f6ed92f2ca7f0ea7653a"), looks := false }, kinds := [], alts := [], laidByText := true, laidKinds := [.data], laidTests := true, laidLooks := .later }
def FnExactLastOfCardSaid : Prop := Claim7.holds Tryd.pinned (.plain (OpenSpec.ofChange fnExactLastOfSpec)) fnExactLastOfCard

/-- THE TIED CARD OF 'laws.FnExactFollowOf'. -/
def fnExactFollowOfCard : Claim7 := { stood := { row := fnExactFollowOfRow, standIns := [], harness := (true, "c6c658a2fbc01c929b904c1cdcf0fa094feee5ad7f66f6ed92f2ca7f0ea7653a"), looks := false }, kinds := [], alts := [], laidByText := true, laidKinds := [.data], laidTests := true, laidLooks := .later }
def FnExactFollowOfCardSaid : Prop := Claim7.holds Tryd.pinned (.plain (OpenSpec.ofChange fnExactFollowOfSpec)) fnExactFollowOfCard

/-- THE TIED CARD OF 'laws.FnExactClear'. -/
def fnExactClearCard : Claim7 := { stood := { row := fnExactClearRow, standIns := [], harness := (true, "c6c658a2fbc01c929b904c1cdcf0fa094feee5ad7f66f6ed92f2ca7f0ea7653a"), looks := false }, kinds := [], alts := [], laidByText := true, laidKinds := [.data], laidTests := true, laidLooks := .later }
def FnExactClearCardSaid : Prop := Claim7.holds Tryd.pinned (.plain (OpenSpec.ofChange fnExactClearSpec)) fnExactClearCard

/-- THE TIED CARD OF 'laws.FnExactAccepts'. -/
def fnExactAcceptsCard : Claim7 := { stood := { row := fnExactAcceptsRow, standIns := [], harness := (true, "c6c658a2fbc01c929b904c1cdcf0fa094feee5ad7f66f6ed92f2ca7f0ea7653a"), looks := false }, kinds := [], alts := [], laidByText := true, laidKinds := [.data], laidTests := true, laidLooks := .later }
def FnExactAcceptsCardSaid : Prop := Claim7.holds Tryd.pinned (.plain (OpenSpec.ofChange fnExactAcceptsSpec)) fnExactAcceptsCard

/-- THE TIED CARD OF 'laws.FnExactAttribute'. -/
def fnExactAttributeCard : Claim7 := { stood := { row := fnExactAttributeRow, standIns := [], harness := (true, "c6c658a2fbc01c929b904c1cdcf0fa094feee5ad7f66f6ed92f2ca7f0ea7653a"), looks := false }, kinds := [], alts := [], laidByText := true, laidKinds := [.data], laidTests := true, laidLooks := .later }
def FnExactAttributeCardSaid : Prop := Claim7.holds Tryd.pinned (.plain (OpenSpec.ofChange fnExactAttributeSpec)) fnExactAttributeCard

/-- THE SECOND FORM's CARD OF 'laws.FnExactNullable'. -/
def fnExactNullableUptoCard : Claim7 := { stood := { row := fnExactNullableUptoRow, standIns := [], harness := (true, "c6c658a2fbc01c929b904c1cdcf0fa094feee5ad7f66f6ed92f2ca7f0ea7653a"), looks := false }, kinds := [], alts := [], laidByText := true, laidKinds := [.data], laidTests := true, laidLooks := .later }
def FnExactNullableUptoCardSaid : Prop := Claim7.holds Tryd.pinned (.plain (OpenSpec.upto fnExactNullableSpec)) fnExactNullableUptoCard

/-- THE SECOND FORM's CARD OF 'laws.FnExactFirstOf'. -/
def fnExactFirstOfUptoCard : Claim7 := { stood := { row := fnExactFirstOfUptoRow, standIns := [], harness := (true, "c6c658a2fbc01c929b904c1cdcf0fa094feee5ad7f66f6ed92f2ca7f0ea7653a"), looks := false }, kinds := [], alts := [], laidByText := true, laidKinds := [.data], laidTests := true, laidLooks := .later }
def FnExactFirstOfUptoCardSaid : Prop := Claim7.holds Tryd.pinned (.plain (OpenSpec.upto fnExactFirstOfSpec)) fnExactFirstOfUptoCard

/-- THE SECOND FORM's CARD OF 'laws.FnExactLastOf'. -/
def fnExactLastOfUptoCard : Claim7 := { stood := { row := fnExactLastOfUptoRow, standIns := [], harness := (true, "c6c658a2fbc01c929b904c1cdcf0fa094feee5ad7f66f6ed92f2ca7f0ea7653a"), looks := false }, kinds := [], alts := [], laidByText := true, laidKinds := [.data], laidTests := true, laidLooks := .later }
def FnExactLastOfUptoCardSaid : Prop := Claim7.holds Tryd.pinned (.plain (OpenSpec.upto fnExactLastOfSpec)) fnExactLastOfUptoCard

/-- THE SECOND FORM's CARD OF 'laws.FnExactFollowOf'. -/
def fnExactFollowOfUptoCard : Claim7 := { stood := { row := fnExactFollowOfUptoRow, standIns := [], harness := (true, "c6c658a2fbc01c929b904c1cdcf0fa094feee5ad7f66f6ed92f2ca7f0ea7653a"), looks := false }, kinds := [], alts := [], laidByText := true, laidKinds := [.data], laidTests := true, laidLooks := .later }
def FnExactFollowOfUptoCardSaid : Prop := Claim7.holds Tryd.pinned (.plain (OpenSpec.upto fnExactFollowOfSpec)) fnExactFollowOfUptoCard

/-- THE SECOND FORM's CARD OF 'laws.FnExactClear'. -/
def fnExactClearUptoCard : Claim7 := { stood := { row := fnExactClearUptoRow, standIns := [], harness := (true, "c6c658a2fbc01c929b904c1cdcf0fa094feee5ad7f66f6ed92f2ca7f0ea7653a"), looks := false }, kinds := [], alts := [], laidByText := true, laidKinds := [.data], laidTests := true, laidLooks := .later }
def FnExactClearUptoCardSaid : Prop := Claim7.holds Tryd.pinned (.plain (OpenSpec.upto fnExactClearSpec)) fnExactClearUptoCard

/-- THE SECOND FORM's CARD OF 'laws.FnExactAccepts'. -/
def fnExactAcceptsUptoCard : Claim7 := { stood := { row := fnExactAcceptsUptoRow, standIns := [], harness := (true, "c6c658a2fbc01c929b904c1cdcf0fa094feee5ad7f66f6ed92f2ca7f0ea7653a"), looks := false }, kinds := [], alts := [], laidByText := true, laidKinds := [.data], laidTests := true, laidLooks := .later }
def FnExactAcceptsUptoCardSaid : Prop := Claim7.holds Tryd.pinned (.plain (OpenSpec.upto fnExactAcceptsSpec)) fnExactAcceptsUptoCard

/-- THE SECOND FORM's CARD OF 'laws.FnExactAttribute'. -/
def fnExactAttributeUptoCard : Claim7 := { stood := { row := fnExactAttributeUptoRow, standIns := [], harness := (true, "c6c658a2fbc01c929b904c1cdcf0fa094feee5ad7f66f6ed92f2ca7f0ea7653a"), looks := false }, kinds := [], alts := [], laidByText := true, laidKinds := [.data], laidTests := true, laidLooks := .later }
def FnExactAttributeUptoCardSaid : Prop := Claim7.holds Tryd.pinned (.plain (OpenSpec.upto fnExactAttributeSpec)) fnExactAttributeUptoCard
end Rows
end Go.Proofs.YteeglkkgkjmjpaaDoor
