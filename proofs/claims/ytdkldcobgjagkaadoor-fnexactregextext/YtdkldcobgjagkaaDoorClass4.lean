/-
  Contracts: ClassHas, the specification's and the program's; a node and its copy are told as alike.
-/
import Derived.Test.YtdkldcobgjagkaaDoorClass2
import Derived.Test.YtdkldcobgjagkaaDoorClass3
namespace Go.Proofs.YtdkldcobgjagkaaDoor
open Go.RowKit Go.Joins
set_option linter.unusedVariables false
set_option linter.unusedSimpArgs false
theorem box_node {w w2 : World} {kd : Int} {nt : Bool} {a : Option Addr} {n c : Nat} {A B mn mx : Int} {T : TypeId}
    (k : Below (w.alloc (.cells #[.int .i64 kd, .bool nt, .slice a n c, .int .i64 A, .int .i64 B, .int .i64 mn, .int .i64 mx] T)).heap.size (w.alloc (.cells #[.int .i64 kd, .bool nt, .slice a n c, .int .i64 A, .int .i64 B, .int .i64 mn, .int .i64 mx] T)) w2) :
    NodeAt w2 w.heap.size kd nt a n c A B mn mx ∧ Below w.heap.size w w2 := ⟨nodeAt_go (nodeAt_new _ _ _ _ _ _ _ _ _ _ _) k, box_below k⟩
end Go.Proofs.YtdkldcobgjagkaaDoor
