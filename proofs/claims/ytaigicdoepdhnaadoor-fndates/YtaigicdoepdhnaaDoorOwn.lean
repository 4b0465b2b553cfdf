/-
  Rows of bytes that the call itself owns: what is made of them as a text, what stays as it was.
-/
import Derived.Test.YtaigicdoepdhnaaDoorBase
import Derived.Test.YtaigicdoepdhnaaDoorChecked
import Derived.WalkKit
import Derived.WalkLawsBesides
import Derived.Below
import Derived.OwnWalk
import Derived.Laws.OwnMore
import Derived.Laws.BytesArg
import Derived.Laws.IdiomStrings
import Derived.Deep.Draws
import Derived.KernelRfl
namespace Go.Proofs.YtaigicdoepdhnaaDoor
open Go.RowKit
set_option linter.unusedVariables false
set_option linter.unusedSimpArgs false

theorem info8 : (Tryd.prog.info? 5).map (fun i => (i.zero, i.size, i.bytes)) = some (some (.int .u8 0), 1, 1) := by kernel_rfl

/-- The bytes of the characters, if all are such and there are not too many. -/
theorem own_shape {w : World} {B : Nat} {e : TypeId} {v : Value} {n : Nat} {xs : List Value} (h : w.ownsRow B e 1 v n xs) : ∃ ad cap, v = .slice ad n cap := by
  rcases h.2 with ⟨rfl, rfl⟩ | ⟨g, cap, cur, rfl, _⟩
  · exact ⟨_, _, rfl⟩
  · exact ⟨_, _, rfl⟩
theorem grown_of_below {w w' : World} (h : Below w.heap.size w w') : w.grownBy w' none := ⟨h.os, h.tape, h.output, h.size, fun k hk _ => h.block k hk⟩
theorem own_below {w w' : World} {B : Nat} {e : TypeId} {v : Value} {n : Nat} {xs : List Value} (h : w.ownsRow B e 1 v n xs) (hb : Below w.heap.size w w') : w'.ownsRow B e 1 v n xs :=
  h.kept (grown_of_below hb) (by cases v.ownBlock <;> simp)

theorem conv_own {w : World} {B : Nat} {ad : Option Addr} {cap : Nat} {acc : List Int} (h : w.ownsRow B 5 1 (.slice ad acc.length cap) acc.length (acc.map (Value.int .u8))) :
    (convert 22 9 (.slice ad acc.length cap)).run Tryd.prog w = .ok (.string (strOfNums acc)) w := by
  rcases h.2 with ⟨h1, h2⟩ | ⟨g, cap', cur, h1, _⟩
  · simp only [Value.slice.injEq] at h1
    obtain ⟨rfl, h3, rfl⟩ := h1
    have : acc = [] := List.length_eq_zero_iff.1 h3
    subst this
    exact run_convert_bytes_nil w 22 5 Tryd.underlying22 Tryd.underlying5 _ _ 9 Tryd.underlying9
  · simp only [Value.slice.injEq] at h1
    obtain ⟨rfl, _, rfl⟩ := h1
    refine run_convert_bytes_arg w 22 5 Tryd.underlying22 Tryd.underlying5 g 0 acc.length cap acc rfl ?_ 9 Tryd.underlying9
    intro i hi
    rw [show (0 + i) = i by omega, h.cellAt i (by omega)]
    simp [List.getElem?_eq_getElem hi]

theorem below_step {w wr w1 w2 : World} {o : Obj} {e : TypeId} {ad : Option Addr} {n c : Nat} {xs : List Value} (hb : Below w.heap.size w wr) (hb1 : Below wr.heap.size wr w1) (hown : wr.ownsRow w.heap.size e 1 (.slice ad n c) n xs)
    (hg : (w1.alloc o).drew.grownBy w2 (Value.slice ad n c).ownBlock) : Below w.heap.size w w2 := by
  have h1 : Below w.heap.size w w1 := hb.trans (hb1.mono hb.size)
  have h2 : Below w.heap.size w (w1.alloc o).drew := (h1.alloc h1.size o).drew
  exact h2.grown hg h2.size (fun k hk => (hown.lt k hk).1)
theorem one_cells (xs : List Int) : ∀ u ∈ xs.map (Value.int .u8), u.oneCell' = true := by
  intro u hu
  obtain ⟨x, _, rfl⟩ := List.mem_map.1 hu
  rfl
theorem row_cells (w : World) (xs : List Int) (cap : Nat) (m : Nat × Nat) (hx : ∀ x ∈ xs, 0 ≤ x ∧ x ≤ 255) (j : Nat) (u : Value) (hj : (xs.map (Value.int .u8))[j]? = some u) :
    (w.alloc (.cells (bytesRow (strOfNums xs) cap) 5 m)).cell? ((⟨w.heap.size, 0, none⟩ : Addr).add j) = some u := by
  have hjl : j < xs.length := by
    rcases Nat.lt_or_ge j xs.length with h | h
    · exact h
    · rw [List.getElem?_eq_none (by simpa using h)] at hj; simp at hj
  have hplain : (⟨w.heap.size, 0, none⟩ : Addr).add j = ⟨w.heap.size, j, none⟩ := by unfold Addr.add; split <;> simp_all
  rw [hplain, cell_of_row _ w.heap.size j _ 5 m (heap_alloc_new w _)]
  rw [List.getElem?_map, List.getElem?_eq_getElem hjl] at hj
  simp only [Option.map_some, Option.some.injEq] at hj
  subst hj
  have hb := hx xs[j] (List.getElem_mem hjl)
  have e : ((UInt8.ofNat xs[j].toNat).toNat : Int) = xs[j] := by
    rw [UInt8.toNat_ofNat']; omega
  unfold bytesRow
  rw [Array.getElem?_append_left (by simp [strOfNums]; exact hjl)]
  simp [strOfNums, List.getElem?_eq_getElem hjl]
  omega

theorem below_step' {w wr w2 : World} {o : Obj} {e : TypeId} {ad : Option Addr} {n c : Nat} {xs : List Value} (hb : Below w.heap.size w wr) (hown : wr.ownsRow w.heap.size e 1 (.slice ad n c) n xs)
    (hg : (wr.alloc o).grownBy w2 (Value.slice ad n c).ownBlock) : Below w.heap.size w w2 := by
  have h2 : Below w.heap.size w (wr.alloc o) := hb.alloc hb.size o
  exact h2.grown hg h2.size (fun k hk => (hown.lt k hk).1)
theorem own_size {w : World} {B g n c : Nat} {e : TypeId} {xs : List Value} (h : w.ownsRow B e 1 (.slice (some ⟨g, 0, none⟩) n c) n xs) : g < w.heap.size := (h.lt g rfl).2
theorem own_cells {w : World} {B g n c : Nat} {e : TypeId} {xs : List Int} (hx : xs.length = n) (h : w.ownsRow B e 1 (.slice (some ⟨g, 0, none⟩) n c) n (xs.map (Value.int .i64))) : ∀ j, j < n → w.cell? ⟨g, 0 + j, none⟩ = some (.int .i64 (xs[j]?.getD 0)) := by
  intro j hj
  rw [Nat.zero_add, h.cellAt j (by omega)]
  simp [List.getElem?_eq_getElem (show j < xs.length by omega)]
theorem below_drewN' {B : Nat} {a w : World} (h : Below B a w) (n : Nat) : Below B a (w.drewN n) := h.trans ⟨rfl, rfl, rfl, Nat.le_refl _, fun _ _ => rfl⟩
end Go.Proofs.YtaigicdoepdhnaaDoor
