/-
  Contract: the specification's comparison of numbers.
-/
import Derived.Test.YtdglamiifcagoabDoorSame
import Derived.Test.YtdglamiifcagoabDoorCmpMath
import Derived.Laws.Cover1
namespace Go.Proofs.YtdglamiifcagoabDoor
open Go.RowKit
set_option linter.unusedSimpArgs false
set_option linter.unusedVariables false
theorem ret_int {k : IntKind} {a b : Int} (h : a = b) : Ending.returned (.int k a) = .returned (.int k b) := by rw [h]
end Go.Proofs.YtdglamiifcagoabDoor
