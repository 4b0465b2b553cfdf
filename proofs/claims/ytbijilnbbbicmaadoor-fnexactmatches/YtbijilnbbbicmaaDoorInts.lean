/-
  Contracts of the laws' helpers on rows of int64: a copy in new memory, and whether two rows are alike; nothing that was there is written.
-/
import Derived.Test.YtbijilnbbbicmaaDoorBase
import Derived.Test.YtbijilnbbbicmaaDoorChecked
import Derived.WalkKit
import Derived.Below
import Derived.OwnWalk
import Derived.Laws.OwnMore
import Derived.RegionTactic
import Derived.Deep.QuietTactic
import Derived.BigQuiet
import Derived.Deep.Draws
import Derived.KernelRfl
namespace Go.Proofs.YtbijilnbbbicmaaDoor
open Go.RowKit
set_option linter.unusedVariables false
set_option linter.unusedSimpArgs false

theorem info64 : (Tryd.prog.info? 2).map (fun i => (i.zero, i.size, i.bytes)) = some (some (.int .i64 0), 1, 8) := by kernel_rfl

/-- What is laid of a row of int64: its first 'n' cells hold 'xs', in a block below 'B'. -/
def RowAt (k : IntKind) (w : World) (a : Option Addr) (xs : List Int) (B : Nat) : Prop :=
  xs ≠ [] → ∃ b off, a = some ⟨b, off, none⟩ ∧ b < B ∧ ∀ j, j < xs.length → w.cell? ⟨b, off + j, none⟩ = some (.int k (xs[j]?.getD 0))

theorem set_step (xs : List Int) (n k : Nat) (hn : xs.length = n) (hk : k < n) :
    ((xs.take k ++ List.replicate (n - k) 0).map (Value.int .i64)).set k (.int .i64 (xs[k]?.getD 0)) = (xs.take (k + 1) ++ List.replicate (n - (k + 1)) 0).map (Value.int .i64) := by
  apply List.ext_getElem
  · simp; omega
  · intro i h1 h2
    simp at h1 h2
    simp only [List.getElem_set, List.getElem_map, List.getElem_append, List.getElem_take, List.length_take, List.getElem_replicate]
    by_cases e : k = i
    · subst e
      simp [List.getElem?_eq_getElem (show k < xs.length by omega), show k < min (k + 1) xs.length by omega]
    · simp only [e, if_false]
      by_cases h : i < k
      · simp [show i < min k xs.length by omega, show i < min (k + 1) xs.length by omega]
      · simp [show ¬ i < min k xs.length by omega, show ¬ i < min (k + 1) xs.length by omega]


theorem get_ext (xs ys : List Int) (h : xs.length = ys.length) (hk : ∀ j, j < xs.length → xs[j]?.getD 0 = ys[j]?.getD 0) : xs = ys := by
  apply List.ext_getElem h
  intro i h1 h2
  have := hk i h1
  simpa [List.getElem?_eq_getElem h1, List.getElem?_eq_getElem h2] using this
theorem rowAt_cell {k : IntKind} {w : World} {a : Option Addr} {xs : List Int} {B : Nat} (h : RowAt k w a xs B) (j : Nat) (hj : j < xs.length) : ∃ b off, a = some ⟨b, off, none⟩ ∧ b < B ∧ ∀ j, j < xs.length → w.cell? ⟨b, off + j, none⟩ = some (.int k (xs[j]?.getD 0)) :=
  h (fun e => by rw [e] at hj; simp at hj)
theorem eqB_f (xs ys : List Int) (h : xs ≠ ys) : false = decide (xs = ys) := (decide_eq_false h).symm
theorem eqB_t (xs ys : List Int) (h : xs = ys) : true = decide (xs = ys) := (decide_eq_true h).symm


end Go.Proofs.YtbijilnbbbicmaaDoor
