/-
  Contracts of the laws' helpers on rows of texts that come in: how much they hold, a copy in new memory, that two rows that are alike are told so.
-/
import Derived.Test.YtfohfljdgmlibaaDoorPnRow
namespace Go.Proofs.YtfohfljdgmlibaaDoor
open Go.RowKit Go.Joins
set_option linter.unusedVariables false
set_option linter.unusedSimpArgs false
theorem infoStr9 : (Tryd.prog.info? 9).map (fun i => (i.zero, i.size, i.bytes)) = some (some (.string ByteArray.empty), 1, 16) := by kernel_rfl
theorem drewN_below9 (w : World) (q : Nat) : Below w.heap.size w (w.drewN q) := ⟨rfl, rfl, rfl, Nat.le_refl _, fun _ _ => rfl⟩
/-- A row of texts lies somewhere. -/
def TxAt (w : World) (a : Option Addr) (L : List ByteArray) (B : Nat) : Prop := L ≠ [] → ∃ b off, a = some ⟨b, off, none⟩ ∧ b < B ∧ ∀ j, j < L.length → w.cell? ⟨b, off + j, none⟩ = some (.string (L[j]?.getD ⟨#[]⟩))
theorem tx_go {w w' : World} {a : Option Addr} {L : List ByteArray} {B : Nat} (h : TxAt w a L B) (hb : Below B w w') : TxAt w' a L B := fun h0 => by
  obtain ⟨b, off, e, hl, hc⟩ := h h0
  exact ⟨b, off, e, hl, fun j hj => (hb.cell (p := ⟨b, off + j, none⟩) hl).trans (hc j hj)⟩
theorem tx_up {w : World} {a : Option Addr} {L : List ByteArray} {B B' : Nat} (h : TxAt w a L B) (hB : B ≤ B') : TxAt w a L B' := fun h0 => by
  obtain ⟨b, off, e, hl, hc⟩ := h h0
  exact ⟨b, off, e, Nat.lt_of_lt_of_le hl hB, hc⟩
theorem tx_cell {w : World} {a : Option Addr} {L : List ByteArray} {B : Nat} (h : TxAt w a L B) (j : Nat) (hj : j < L.length) : ∃ b off, a = some ⟨b, off, none⟩ ∧ b < B ∧ ∀ j, j < L.length → w.cell? ⟨b, off + j, none⟩ = some (.string (L[j]?.getD ⟨#[]⟩)) := h (fun e => by rw [e] at hj; simp at hj)
theorem tx_own {w : World} {B n c : Nat} {ad : Option Addr} {t : TypeId} {xs : List ByteArray} (h : w.ownsRow B t 1 (.slice ad n c) n (xs.map Value.string)) : TxAt w ad xs w.heap.size := fun h0 => by
  have hl := h.1
  rcases h.2 with ⟨-, hz⟩ | ⟨g, cap, cur, hv, hB, hh, -, -, -, hx⟩
  · exact absurd (List.length_eq_zero_iff.1 (by rw [hz] at hl; simpa using hl)) h0
  · simp only [Value.slice.injEq] at hv
    obtain ⟨rfl, -, rfl⟩ := hv
    refine ⟨g, 0, rfl, (Array.getElem?_eq_some_iff.1 hh).1, fun j hj => ?_⟩
    have hn : xs.length = n := by simpa using hl
    have := h.cellAt j (by omega)
    rw [Nat.zero_add, this, List.getElem?_map, List.getElem?_eq_getElem hj]
    rfl
/-- How much a row of texts holds. -/
def txS (L : List ByteArray) (k : Nat) : Nat := sumN (fun j => (L[j]?.getD ⟨#[]⟩).size) k
def txTot (L : List ByteArray) : Nat := L.length + txS L L.length
def TxSz (L : List ByteArray) : Prop := L.length ≤ maxLen ∧ ∀ s ∈ L, s.size ≤ maxLen
theorem set_stepT (xs : List ByteArray) (n k : Nat) (hn : xs.length = n) (hk : k < n) :
    ((xs.take k ++ List.replicate (n - k) ByteArray.empty).map Value.string).set k (.string (xs[k]?.getD ⟨#[]⟩)) = (xs.take (k + 1) ++ List.replicate (n - (k + 1)) ByteArray.empty).map Value.string := by
  apply List.ext_getElem
  · simp; omega
  · intro i h1 h2
    simp at h1 h2
    simp only [List.getElem_set, List.getElem_map, List.getElem_append, List.getElem_take, List.length_take, List.getElem_replicate]
    by_cases e : k = i
    · subst e
      simp [List.getElem?_eq_getElem (show k < xs.length by omega), show k < min (k + 1) xs.length by omega]
    · simp only [e, if_false]
      by_cases h : i < k
      · simp [show i < min k xs.length by omega, show i < min (k + 1) xs.length by omega]
      · simp [show ¬ i < min k xs.length by omega, show ¬ i < min (k + 1) xs.length by omega]

end Go.Proofs.YtfohfljdgmlibaaDoor
