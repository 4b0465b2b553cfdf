/-
  Contract: the program's digit, counted from the last one.
-/
import Derived.Test.YtdglamiifcagoacDoorDecTo
import Derived.Test.YtdglamiifcagoacDoorRowI
namespace Go.Proofs.YtdglamiifcagoacDoor
open Go.RowKit
set_option linter.unusedSimpArgs false
set_option linter.unusedVariables false
end Go.Proofs.YtdglamiifcagoacDoor
