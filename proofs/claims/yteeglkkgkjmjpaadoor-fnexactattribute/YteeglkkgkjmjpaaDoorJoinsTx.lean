/-
  Plain laws on how a row of texts lies: of no program.
-/
import Derived.Test.YteeglkkgkjmjpaaDoorTxRow
import Derived.SliceStrings
import Derived.Lib.SmallJoins
import Derived.Deep.SlicePairs
import Derived.WalkKit
import Derived.ProofKit
import Derived.OpenShut
import Derived.Below
namespace Go.Proofs.YteeglkkgkjmjpaaDoor
open Go.ChangeShapes Go.WideShapes Go.RowKit Go.Deep Go.WideElems
set_option linter.unusedVariables false
section
variable {H : Type} {enc : TypeId × Value → H} {P : Program} {w : World} {base : Nat} {spare : Nat → Bool} {held : Bool}
theorem texts_of {t e : TypeId} {fuel : Nat} {v : Value} {x : DataW H × List MemPlace} (ht : P.underlying t = some (.slice e)) (he : P.underlying e = some .string) (ce : P.cellsOf e = 1)
    (h : DataW.trod enc P w 0 (fun _ => true) held fuel t [v] = some x) : ∃ a n c Q, v = .slice a n c ∧ Q.length = n ∧ TxSz Q ∧ TxAt w a Q w.heap.size := by
  rcases open_strings ht he ce h with ⟨hc, _⟩ | ⟨a, len, cap, zs, hc, _, hl, hm, hz, _, hcell, hwz⟩
  · simp only [List.cons.injEq, and_true] at hc
    exact ⟨none, 0, 0, [], hc, rfl, ⟨Nat.zero_le _, fun s hs => absurd hs (List.not_mem_nil)⟩, fun h0 => absurd rfl h0⟩
  · simp only [List.cons.injEq, and_true] at hc
    have hz' : zs.length = cap := by simpa using hz
    refine ⟨some a, len, cap, zs.take len, hc, by rw [List.length_take]; omega, ⟨by rw [List.length_take]; omega, fun s hs => hwz s (List.mem_of_mem_take hs)⟩, fun h0 => ?_⟩
    have hlen : 0 < len := by
      rcases Nat.eq_zero_or_pos len with h | h
      · subst h; exact absurd rfl h0
      · exact h
    obtain ⟨sb, so, spot⟩ := a
    have hspot : spot = none := by simpa [Addr.add] using World.cell?_spot (hcell 0 (by omega))
    subst hspot
    refine ⟨sb, so, rfl, World.block_lt_of_cell? w _ (hcell 0 (by omega)), fun j hj => ?_⟩
    have hj' : j < len := by rw [List.length_take] at hj; omega
    have := hcell j (by omega)
    rw [add_plain] at this
    rw [this, List.getElem?_take, if_pos hj', List.getD_eq_getElem?_getD, List.getElem?_eq_getElem (by omega)]
    rfl
end
end Go.Proofs.YteeglkkgkjmjpaaDoor
