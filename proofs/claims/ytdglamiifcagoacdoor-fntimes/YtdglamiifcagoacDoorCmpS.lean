/-
  Contract: the specification's comparison of numbers.
-/
import Derived.Test.YtdglamiifcagoacDoorSame
import Derived.Test.YtdglamiifcagoacDoorCmpMath
import Derived.Laws.Cover1
namespace Go.Proofs.YtdglamiifcagoacDoor
open Go.RowKit
set_option linter.unusedSimpArgs false
set_option linter.unusedVariables false
theorem ret_int {k : IntKind} {a b : Int} (h : a = b) : Ending.returned (.int k a) = .returned (.int k b) := by rw [h]
end Go.Proofs.YtdglamiifcagoacDoor
