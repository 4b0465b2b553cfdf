/-
  NARROWER THAN 'FOR EVERY INPUT', by the rows' own cells (each row's printed sentence says how): FnExactNullable: laid · FnExactFirstOf: laid · FnExactLastOf: laid · FnExactFollowOf: laid · FnExactClear: laid · FnExactAccepts: laid · FnExactAttribute: laid.
  DERIVED. THE GIVEN ROWS OF THIS SEAT. 7 by the template 'for every input the law returns true; each argument reads behind the call as it read before'; 0 by the template 'total and deterministic' (their statements: YteeglkkgkjmjpaaDoorTotals.lean).
  GIVEN WITH THE SEED: the statements are not yours to turn. If you find one false, say at which input.
  Laid BY PROGRAM, IN A SANDBOX (cutbox-rows.mjs): the forced cells as the released guide's own fill.sh prints them over the translation f734e2775b61cd8c… (all of the seat's roots in one cut). By AI agents, Wed Nov 11 2026. No macro, syntax, notation, axiom, sorry.
-/
import Derived.Test.YteeglkkgkjmjpaaDoorChecked
import GoSem.Claim
import GoSem.ClaimJoined
import GoSem.ClaimMapViews
import Derived.JoinedTies
import Derived.KernelRfl
namespace Go.Proofs.YteeglkkgkjmjpaaDoor
/- THE CELL 'sum', in the pinned program and in every row, IS THE sha256 OF THE DUMP (.gsa) THAT YteeglkkgkjmjpaaDoorProg.lean LOADS. Nothing in Lean hashes anything: it is a label: what it is worth is what the hold of that sum in a sandbox is worth. -/
noncomputable def Tryd.pinned : Pinned := { name := "yteeglkkgkjmjpaadoor", sum := "f734e2775b61cd8c4d0445919eecad519abc05457830357d8e09de24369f5749", checked := Tryd.checked }
namespace Rows
def none {H : Type} : Left H := { results := [], args := [] }

/- WHAT THE LISTED PACKAGE-LEVEL VARIABLES READ AS WHEN THE CALL BEGINS. Each datum BY PROGRAM (the guide's laid-datum.mjs) off the statement by which the dump's own 'gosem.cut.vars' lays the variable. In a bare row this is a premise. The card (YteeglkkgkjmjpaaDoorCards.lean) ties it to the program's text. -/
def laid_math_bits_deBruijn64tab {H : Type} : DataW H := .agg [.lit (.int .u8 0), .lit (.int .u8 1), .lit (.int .u8 56), .lit (.int .u8 2), .lit (.int .u8 57), .lit (.int .u8 49), .lit (.int .u8 28), .lit (.int .u8 3), .lit (.int .u8 61), .lit (.int .u8 58), .lit (.int .u8 42), .lit (.int .u8 50), .lit (.int .u8 38), .lit (.int .u8 29), .lit (.int .u8 17), .lit (.int .u8 4), .lit (.int .u8 62), .lit (.int .u8 47), .lit (.int .u8 59), .lit (.int .u8 36), .lit (.int .u8 45), .lit (.int .u8 43), .lit (.int .u8 51), .lit (.int .u8 22), .lit (.int .u8 53), .lit (.int .u8 39), .lit (.int .u8 33), .lit (.int .u8 30), .lit (.int .u8 24), .lit (.int .u8 18), .lit (.int .u8 12), .lit (.int .u8 5), .lit (.int .u8 63), .lit (.int .u8 55), .lit (.int .u8 48), .lit (.int .u8 27), .lit (.int .u8 60), .lit (.int .u8 41), .lit (.int .u8 37), .lit (.int .u8 16), .lit (.int .u8 46), .lit (.int .u8 35), .lit (.int .u8 44), .lit (.int .u8 21), .lit (.int .u8 52), .lit (.int .u8 32), .lit (.int .u8 23), .lit (.int .u8 11), .lit (.int .u8 54), .lit (.int .u8 26), .lit (.int .u8 40), .lit (.int .u8 15), .lit (.int .u8 34), .lit (.int .u8 20), .lit (.int .u8 31), .lit (.int .u8 10), .lit (.int .u8 25), .lit (.int .u8 14), .lit (.int .u8 19), .lit (.int .u8 9), .lit (.int .u8 13), .lit (.int .u8 8), .lit (.int .u8 7), .lit (.int .u8 6)]

/-- 'laws.FnExactNullable': WHATEVER THE INPUT: true; the input reads as it did. -/
def fnExactNullableSpec : ChangeSpec := { name := "fnExactNullable", fn := fun _ => fun
  | [d] => { results := [.lit (.bool true)], args := [d] }
  | _ => none }
def fnExactNullableRow : OpenClaim := { program := "yteeglkkgkjmjpaadoor", sum := "f734e2775b61cd8c4d0445919eecad519abc05457830357d8e09de24369f5749", func := "loop.example/g00262/laws.FnExactNullable", spec := "fnExactNullable", unfollowed := true, recurses := true, named := ["math/bits.deBruijn64tab"], apart := false, laid := [("math/bits.deBruijn64tab", laid_math_bits_deBruijn64tab)] }
def FnExactNullableSaid : Prop := fnExactNullableRow.holds Tryd.pinned (OpenSpec.ofChange fnExactNullableSpec)

/-- ITS FALSE NEIGHBOUR: 'it returns false'. Refute it at one input. -/
def fnExactNullableWrong : ChangeSpec := { name := "fnExactNullable", fn := fun _ => fun
  | [d] => { results := [.lit (.bool false)], args := [d] }
  | _ => none }
def FnExactNullableWrongFalsely : Prop := fnExactNullableRow.holds Tryd.pinned (OpenSpec.ofChange fnExactNullableWrong)

/-- 'laws.FnExactFirstOf': WHATEVER THE INPUT: true; the input reads as it did. -/
def fnExactFirstOfSpec : ChangeSpec := { name := "fnExactFirstOf", fn := fun _ => fun
  | [d] => { results := [.lit (.bool true)], args := [d] }
  | _ => none }
def fnExactFirstOfRow : OpenClaim := { program := "yteeglkkgkjmjpaadoor", sum := "f734e2775b61cd8c4d0445919eecad519abc05457830357d8e09de24369f5749", func := "loop.example/g00262/laws.FnExactFirstOf", spec := "fnExactFirstOf", unfollowed := true, recurses := true, named := ["math/bits.deBruijn64tab"], apart := false, laid := [("math/bits.deBruijn64tab", laid_math_bits_deBruijn64tab)] }
def FnExactFirstOfSaid : Prop := fnExactFirstOfRow.holds Tryd.pinned (OpenSpec.ofChange fnExactFirstOfSpec)

/-- ITS FALSE NEIGHBOUR: 'it returns false'. Refute it at one input. -/
def fnExactFirstOfWrong : ChangeSpec := { name := "fnExactFirstOf", fn := fun _ => fun
  | [d] => { results := [.lit (.bool false)], args := [d] }
  | _ => none }
def FnExactFirstOfWrongFalsely : Prop := fnExactFirstOfRow.holds Tryd.pinned (OpenSpec.ofChange fnExactFirstOfWrong)

/-- 'laws.FnExactLastOf': WHATEVER THE INPUT: true; the input reads as it did. -/
def fnExactLastOfSpec : ChangeSpec := { name := "fnExactLastOf", fn := fun _ => fun
  | [d] => { results := [.lit (.bool true)], args := [d] }
  | _ => none }
def fnExactLastOfRow : OpenClaim := { program := "yteeglkkgkjmjpaadoor", sum := "f734e2775b61cd8c4d0445919eecad519abc05457830357d8e09de24369f5749", func := "loop.example/g00262/laws.FnExactLastOf", spec := "fnExactLastOf", unfollowed := true, recurses := true, named := ["math/bits.deBruijn64tab"], apart := false, laid := [("math/bits.deBruijn64tab", laid_math_bits_deBruijn64tab)] }
def FnExactLastOfSaid : Prop := fnExactLastOfRow.holds Tryd.pinned (OpenSpec.ofChange fnExactLastOfSpec)

/-- ITS FALSE NEIGHBOUR: 'it returns false'. Refute it at one input. -/
def fnExactLastOfWrong : ChangeSpec := { name := "fnExactLastOf", fn := fun _ => fun
  | [d] => { results := [.lit (.bool false)], args := [d] }
  | _ => none }
def FnExactLastOfWrongFalsely : Prop := fnExactLastOfRow.holds Tryd.pinned (OpenSpec.ofChange fnExactLastOfWrong)

/-- 'laws.FnExactFollowOf': WHATEVER THE INPUT: true; the input reads as it did. -/
def fnExactFollowOfSpec : ChangeSpec := { name := "fnExactFollowOf", fn := fun _ => fun
  | [d1, d2] => { results := [.lit (.bool true)], args := [d1, d2] }
  | _ => none }
def fnExactFollowOfRow : OpenClaim := { program := "yteeglkkgkjmjpaadoor", sum := "f734e2775b61cd8c4d0445919eecad519abc05457830357d8e09de24369f5749", func := "loop.example/g00262/laws.FnExactFollowOf", spec := "fnExactFollowOf", unfollowed := true, recurses := true, named := ["math/bits.deBruijn64tab"], apart := false, laid := [("math/bits.deBruijn64tab", laid_math_bits_deBruijn64tab)] }
def FnExactFollowOfSaid : Prop := fnExactFollowOfRow.holds Tryd.pinned (OpenSpec.ofChange fnExactFollowOfSpec)

/-- ITS FALSE NEIGHBOUR: 'it returns false'. Refute it at one input. -/
def fnExactFollowOfWrong : ChangeSpec := { name := "fnExactFollowOf", fn := fun _ => fun
  | [d1, d2] => { results := [.lit (.bool false)], args := [d1, d2] }
  | _ => none }
def FnExactFollowOfWrongFalsely : Prop := fnExactFollowOfRow.holds Tryd.pinned (OpenSpec.ofChange fnExactFollowOfWrong)

/-- 'laws.FnExactClear': WHATEVER THE INPUT: true; the input reads as it did. -/
def fnExactClearSpec : ChangeSpec := { name := "fnExactClear", fn := fun _ => fun
  | [d] => { results := [.lit (.bool true)], args := [d] }
  | _ => none }
def fnExactClearRow : OpenClaim := { program := "yteeglkkgkjmjpaadoor", sum := "f734e2775b61cd8c4d0445919eecad519abc05457830357d8e09de24369f5749", func := "loop.example/g00262/laws.FnExactClear", spec := "fnExactClear", unfollowed := true, recurses := true, named := ["math/bits.deBruijn64tab"], apart := false, laid := [("math/bits.deBruijn64tab", laid_math_bits_deBruijn64tab)] }
def FnExactClearSaid : Prop := fnExactClearRow.holds Tryd.pinned (OpenSpec.ofChange fnExactClearSpec)

/-- ITS FALSE NEIGHBOUR: 'it returns false'. Refute it at one input. -/
def fnExactClearWrong : ChangeSpec := { name := "fnExactClear", fn := fun _ => fun
  | [d] => { results := [.lit (.bool false)], args := [d] }
  | _ => none }
def FnExactClearWrongFalsely : Prop := fnExactClearRow.holds Tryd.pinned (OpenSpec.ofChange fnExactClearWrong)

/-- 'laws.FnExactAccepts': WHATEVER THE INPUT: true; the input reads as it did. -/
def fnExactAcceptsSpec : ChangeSpec := { name := "fnExactAccepts", fn := fun _ => fun
  | [d1, d2] => { results := [.lit (.bool true)], args := [d1, d2] }
  | _ => none }
def fnExactAcceptsRow : OpenClaim := { program := "yteeglkkgkjmjpaadoor", sum := "f734e2775b61cd8c4d0445919eecad519abc05457830357d8e09de24369f5749", func := "loop.example/g00262/laws.FnExactAccepts", spec := "fnExactAccepts", unfollowed := true, recurses := true, named := ["math/bits.deBruijn64tab"], apart := false, laid := [("math/bits.deBruijn64tab", laid_math_bits_deBruijn64tab)] }
def FnExactAcceptsSaid : Prop := fnExactAcceptsRow.holds Tryd.pinned (OpenSpec.ofChange fnExactAcceptsSpec)

/-- ITS FALSE NEIGHBOUR: 'it returns false'. Refute it at one input. -/
def fnExactAcceptsWrong : ChangeSpec := { name := "fnExactAccepts", fn := fun _ => fun
  | [d1, d2] => { results := [.lit (.bool false)], args := [d1, d2] }
  | _ => none }
def FnExactAcceptsWrongFalsely : Prop := fnExactAcceptsRow.holds Tryd.pinned (OpenSpec.ofChange fnExactAcceptsWrong)

/-- 'laws.FnExactAttribute': WHATEVER THE INPUT: true; the input reads as it did. -/
def fnExactAttributeSpec : ChangeSpec := { name := "fnExactAttribute", fn := fun _ => fun
  | [d1, d2] => { results := [.lit (.bool true)], args := [d1, d2] }
  | _ => none }
def fnExactAttributeRow : OpenClaim := { program := "yteeglkkgkjmjpaadoor", sum := "f734e2775b61cd8c4d0445919eecad519abc05457830357d8e09de24369f5749", func := "loop.example/g00262/laws.FnExactAttribute", spec := "fnExactAttribute", unfollowed := true, recurses := true, named := ["math/bits.deBruijn64tab"], apart := false, laid := [("math/bits.deBruijn64tab", laid_math_bits_deBruijn64tab)] }
def FnExactAttributeSaid : Prop := fnExactAttributeRow.holds Tryd.pinned (OpenSpec.ofChange fnExactAttributeSpec)

/-- ITS FALSE NEIGHBOUR: 'it returns false'. Refute it at one input. -/
def fnExactAttributeWrong : ChangeSpec := { name := "fnExactAttribute", fn := fun _ => fun
  | [d1, d2] => { results := [.lit (.bool false)], args := [d1, d2] }
  | _ => none }
def FnExactAttributeWrongFalsely : Prop := fnExactAttributeRow.holds Tryd.pinned (OpenSpec.ofChange fnExactAttributeWrong)

/- THE SECOND FORM. 'bulk': how many values and letters a reading holds, each counted each time it is reached (what is shared counts as often as it is met; a slice's spare places count too). A statement '..UptoSaid' is the law's where the arguments, and the package variables that the reading takes, are together of bulk at most 1048576: NARROWER than '..Said'. Prove '..Said' where nothing that the law and all that it calls make is longer than what came in: it says more and counts as full. Else prove '..UptoSaid'. A law counts once. -/
mutual
def uptoBulk {H : Type} : DataW H → Nat
  | .lit (.string bytes) => bytes.length + 1
  | .lit _ => 1
  | .nil => 1
  | .ptr d => uptoBulk d + 1
  | .slice elems spare => uptoBulkAll elems + uptoBulkAll spare + 1
  | .agg parts => uptoBulkAll parts + 1
  | .iface _ d => uptoBulk d + 1
  | .map entries => uptoBulkEntries entries + 1
  | .held _ => 1
def uptoBulkAll {H : Type} : List (DataW H) → Nat
  | [] => 0
  | d :: r => uptoBulk d + uptoBulkAll r
def uptoBulkEntries {H : Type} : List (Lit × DataW H) → Nat
  | [] => 0
  | x :: r => uptoBulkEntry x + uptoBulkEntries r
def uptoBulkEntry {H : Type} : Lit × DataW H → Nat
  | (.string bytes, d) => bytes.length + uptoBulk d + 1
  | (_, d) => uptoBulk d + 1
 end
def uptoSmall : (H : Type) → List (DataW H) → Bool := fun _ ds => decide (uptoBulkAll ds ≤ 1048576)
def OpenSpec.upto (s : _root_.Go.ChangeSpec) : _root_.Go.OpenSpec := { _root_.Go.OpenSpec.ofChange s with cond := some uptoSmall }

/-- 'laws.FnExactNullable', WHERE WHAT IT READS IS OF BULK AT MOST 1048576: true; the input reads as it did. -/
def fnExactNullableUptoRow : OpenClaim := { program := "yteeglkkgkjmjpaadoor", sum := "f734e2775b61cd8c4d0445919eecad519abc05457830357d8e09de24369f5749", func := "loop.example/g00262/laws.FnExactNullable", spec := "fnExactNullable", unfollowed := true, recurses := true, named := ["math/bits.deBruijn64tab"], apart := false, laid := [("math/bits.deBruijn64tab", laid_math_bits_deBruijn64tab)], narrowed := true }
def FnExactNullableUptoSaid : Prop := fnExactNullableUptoRow.holds Tryd.pinned (OpenSpec.upto fnExactNullableSpec)

/-- 'laws.FnExactFirstOf', WHERE WHAT IT READS IS OF BULK AT MOST 1048576: true; the input reads as it did. -/
def fnExactFirstOfUptoRow : OpenClaim := { program := "yteeglkkgkjmjpaadoor", sum := "f734e2775b61cd8c4d0445919eecad519abc05457830357d8e09de24369f5749", func := "loop.example/g00262/laws.FnExactFirstOf", spec := "fnExactFirstOf", unfollowed := true, recurses := true, named := ["math/bits.deBruijn64tab"], apart := false, laid := [("math/bits.deBruijn64tab", laid_math_bits_deBruijn64tab)], narrowed := true }
def FnExactFirstOfUptoSaid : Prop := fnExactFirstOfUptoRow.holds Tryd.pinned (OpenSpec.upto fnExactFirstOfSpec)

/-- 'laws.FnExactLastOf', WHERE WHAT IT READS IS OF BULK AT MOST 1048576: true; the input reads as it did. -/
def fnExactLastOfUptoRow : OpenClaim := { program := "yteeglkkgkjmjpaadoor", sum := "f734e2775b61cd8c4d0445919eecad519abc05457830357d8e09de24369f5749", func := "loop.example/g00262/laws.FnExactLastOf", spec := "fnExactLastOf", unfollowed := true, recurses := true, named := ["math/bits.deBruijn64tab"], apart := false, laid := [("math/bits.deBruijn64tab", laid_math_bits_deBruijn64tab)], narrowed := true }
def FnExactLastOfUptoSaid : Prop := fnExactLastOfUptoRow.holds Tryd.pinned (OpenSpec.upto fnExactLastOfSpec)

/-- 'laws.FnExactFollowOf', WHERE WHAT IT READS IS OF BULK AT MOST 1048576: true; the input reads as it did. -/
def fnExactFollowOfUptoRow : OpenClaim := { program := "yteeglkkgkjmjpaadoor", sum := "f734e2775b61cd8c4d0445919eecad519abc05457830357d8e09de24369f5749", func := "loop.example/g00262/laws.FnExactFollowOf", spec := "fnExactFollowOf", unfollowed := true, recurses := true, named := ["math/bits.deBruijn64tab"], apart := false, laid := [("math/bits.deBruijn64tab", laid_math_bits_deBruijn64tab)], narrowed := true }
def FnExactFollowOfUptoSaid : Prop := fnExactFollowOfUptoRow.holds Tryd.pinned (OpenSpec.upto fnExactFollowOfSpec)

/-- 'laws.FnExactClear', WHERE WHAT IT READS IS OF BULK AT MOST 1048576: true; the input reads as it did. -/
def fnExactClearUptoRow : OpenClaim := { program := "yteeglkkgkjmjpaadoor", sum := "f734e2775b61cd8c4d0445919eecad519abc05457830357d8e09de24369f5749", func := "loop.example/g00262/laws.FnExactClear", spec := "fnExactClear", unfollowed := true, recurses := true, named := ["math/bits.deBruijn64tab"], apart := false, laid := [("math/bits.deBruijn64tab", laid_math_bits_deBruijn64tab)], narrowed := true }
def FnExactClearUptoSaid : Prop := fnExactClearUptoRow.holds Tryd.pinned (OpenSpec.upto fnExactClearSpec)

/-- 'laws.FnExactAccepts', WHERE WHAT IT READS IS OF BULK AT MOST 1048576: true; the input reads as it did. -/
def fnExactAcceptsUptoRow : OpenClaim := { program := "yteeglkkgkjmjpaadoor", sum := "f734e2775b61cd8c4d0445919eecad519abc05457830357d8e09de24369f5749", func := "loop.example/g00262/laws.FnExactAccepts", spec := "fnExactAccepts", unfollowed := true, recurses := true, named := ["math/bits.deBruijn64tab"], apart := false, laid := [("math/bits.deBruijn64tab", laid_math_bits_deBruijn64tab)], narrowed := true }
def FnExactAcceptsUptoSaid : Prop := fnExactAcceptsUptoRow.holds Tryd.pinned (OpenSpec.upto fnExactAcceptsSpec)

/-- 'laws.FnExactAttribute', WHERE WHAT IT READS IS OF BULK AT MOST 1048576: true; the input reads as it did. -/
def fnExactAttributeUptoRow : OpenClaim := { program := "yteeglkkgkjmjpaadoor", sum := "f734e2775b61cd8c4d0445919eecad519abc05457830357d8e09de24369f5749", func := "loop.example/g00262/laws.FnExactAttribute", spec := "fnExactAttribute", unfollowed := true, recurses := true, named := ["math/bits.deBruijn64tab"], apart := false, laid := [("math/bits.deBruijn64tab", laid_math_bits_deBruijn64tab)], narrowed := true }
def FnExactAttributeUptoSaid : Prop := fnExactAttributeUptoRow.holds Tryd.pinned (OpenSpec.upto fnExactAttributeSpec)

end Rows
end Go.Proofs.YteeglkkgkjmjpaaDoor
