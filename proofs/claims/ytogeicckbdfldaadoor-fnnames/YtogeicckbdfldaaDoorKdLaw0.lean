/-
  What a law over rows of numbers wants besides: rows that stay, a mark on a row.
-/
import Derived.Test.YtogeicckbdfldaaDoorPlain
namespace Go.Proofs.YtogeicckbdfldaaDoor
open Go.RowKit
set_option linter.unusedVariables false
set_option linter.unusedSimpArgs false
theorem own_stays {w w' : World} {B X : Nat} {e : TypeId} {v : Value} {n : Nat} {xs : List Value} (h : w.ownsRow B e 1 v n xs) (hb : Below X w w') (hX : ∀ k, v.ownBlock = some k → k < X) : w'.ownsRow B e 1 v n xs := by
  refine ⟨h.1, ?_⟩
  rcases h.2 with hn | ⟨g, cap, cur, hv, hB, hg, rest⟩
  · exact .inl hn
  · refine .inr ⟨g, cap, cur, hv, hB, ?_, rest⟩
    rw [hb.block g (hX g (by rw [hv]; rfl))]; exact hg
theorem own_below' {w w' : World} {B : Nat} {e : TypeId} {v : Value} {n : Nat} {xs : List Value} (h : w.ownsRow B e 1 v n xs) (hb : Below w.heap.size w w') : w'.ownsRow B e 1 v n xs :=
  own_stays h hb (fun k hk => (h.lt k hk).2)
end Go.Proofs.YtogeicckbdfldaaDoor
