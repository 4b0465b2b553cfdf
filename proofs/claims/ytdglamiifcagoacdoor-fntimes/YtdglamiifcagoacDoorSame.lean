/-
  Contract: two rows of digits brought to one scale and one length.
-/
import Derived.Test.YtdglamiifcagoacDoorDecTo
import Derived.Test.YtdglamiifcagoacDoorValMath
import Derived.OwnWalk
namespace Go.Proofs.YtdglamiifcagoacDoor
open Go.RowKit
set_option linter.unusedSimpArgs false
set_option linter.unusedVariables false
def strSz : Value → Nat | .string s => s.size | _ => 0
theorem one_size : (⟨#[48]⟩ : ByteArray).size = 1 := rfl
theorem add_k (k : Nat) (c : Int) : c + (k : Int) + 1 = c + ((k + 1 : Nat) : Int) := by omega
end Go.Proofs.YtdglamiifcagoacDoor
