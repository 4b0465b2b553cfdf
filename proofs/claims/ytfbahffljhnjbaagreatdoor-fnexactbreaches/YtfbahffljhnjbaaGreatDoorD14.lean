/-
  Contracts of the laws' helpers on rows of int64: a copy in new memory, and whether two rows are alike; nothing that was there is written.
-/
import Derived.Test.YtfbahffljhnjbaaGreatDoorD1
import Derived.Test.YtfbahffljhnjbaaGreatDoorChecked
import Derived.WalkKit
import Derived.Below
import Derived.OwnWalk
import Derived.Laws.OwnMore
import Derived.RegionTactic
import Derived.Deep.QuietTactic
import Derived.BigQuiet
import Derived.Deep.Draws
import Derived.KernelRfl
namespace Go.Proofs.YtfbahffljhnjbaaGreatDoor
open Go.RowKit
set_option linter.unusedVariables false
set_option linter.unusedSimpArgs false

theorem info64 : (Tryz.prog.info? 2).map (fun i => (i.zero, i.size, i.bytes)) = some (some (.int .i64 0), 1, 8) := by kernel_rfl

/-- What is laid of a row of int64: its first 'n' cells hold 'xs', in a block below 'B'. -/
def RowAt (k : IntKind) (w : World) (a : Option Addr) (xs : List Int) (B : Nat) : Prop :=
  xs ≠ [] → ∃ b off, a = some ⟨b, off, none⟩ ∧ b < B ∧ ∀ j, j < xs.length → w.cell? ⟨b, off + j, none⟩ = some (.int k (xs[j]?.getD 0))

theorem set_step (xs : List Int) (n k : Nat) (hn : xs.length = n) (hk : k < n) :
    ((xs.take k ++ List.replicate (n - k) 0).map (Value.int .i64)).set k (.int .i64 (xs[k]?.getD 0)) = (xs.take (k + 1) ++ List.replicate (n - (k + 1)) 0).map (Value.int .i64) := by
  apply List.ext_getElem
  · simp; omega
  · intro i h1 h2
    simp at h1 h2
    simp only [List.getElem_set, List.getElem_map, List.getElem_append, List.getElem_take, List.length_take, List.getElem_replicate]
    by_cases e : k = i
    · subst e
      simp [List.getElem?_eq_getElem (show k < xs.length by omega), show k < min (k + 1) xs.length by omega]
    · simp only [e, if_false]
      by_cases h : i < k
      · simp [show i < min k xs.length by omega, show i < min (k + 1) xs.length by omega]
      · simp [show ¬ i < min k xs.length by omega, show ¬ i < min (k + 1) xs.length by omega]


theorem get_ext (xs ys : List Int) (h : xs.length = ys.length) (hk : ∀ j, j < xs.length → xs[j]?.getD 0 = ys[j]?.getD 0) : xs = ys := by
  apply List.ext_getElem h
  intro i h1 h2
  have := hk i h1
  simpa [List.getElem?_eq_getElem h1, List.getElem?_eq_getElem h2] using this
theorem rowAt_cell {k : IntKind} {w : World} {a : Option Addr} {xs : List Int} {B : Nat} (h : RowAt k w a xs B) (j : Nat) (hj : j < xs.length) : ∃ b off, a = some ⟨b, off, none⟩ ∧ b < B ∧ ∀ j, j < xs.length → w.cell? ⟨b, off + j, none⟩ = some (.int k (xs[j]?.getD 0)) :=
  h (fun e => by rw [e] at hj; simp at hj)
theorem eqB_f (xs ys : List Int) (h : xs ≠ ys) : false = decide (xs = ys) := (decide_eq_false h).symm
theorem eqB_t (xs ys : List Int) (h : xs = ys) : true = decide (xs = ys) := (decide_eq_true h).symm

set_option maxHeartbeats 1000000 in
theorem eq_ints (a1 a2 : Option Addr) (n m c1 c2 : Nat) (xs ys : List Int) (w : World) (hx : xs.length = n) (hy : ys.length = m) (hn : n ≤ 1048576) (hm : m ≤ 1048576) (h1 : RowAt .i64 w a1 xs w.heap.size) (h2 : RowAt .i64 w a2 ys w.heap.size) :
    Calls Tryz.prog 25 #[.slice a1 n c1, .slice a2 m c2] w fun e w' => e = .returned (.bool (decide (xs = ys))) ∧ ∃ q, w' = w.drewN q := by
  have HX : Hid (xs.length = n) := hx
  have HY : Hid (ys.length = m) := hy
  have H1 : Hid (RowAt .i64 w a1 xs w.heap.size) := h1
  have H2 : Hid (RowAt .i64 w a2 ys w.heap.size) := h2
  clear hx hy h1 h2
  by_cases hnm : n = m
  · subst hnm
    go_enter Tryz.func25, Tryz.ntmps25
    go_wp2
    go_loopw [5] (fun i wr => ∃ k : Nat, k ≤ n ∧ i = .int .i64 k ∧ (∃ q, wr = w.drewN q) ∧ ∀ j, j < k → xs[j]?.getD 0 = ys[j]?.getD 0) (fun i _ => n - (intOf i).toNat)
    case atStart => exact ⟨0, Nat.zero_le _, rfl, ⟨0, rfl⟩, fun j h => by omega⟩
    case round =>
      obtain ⟨k, hk, rfl, ⟨q, rfl⟩, hsame⟩ := hrel
      have HS := hide hsame
      clear hsame
      by_cases hlt : k < n
      · obtain ⟨b, off, rfl, hbs, hc⟩ := rowAt_cell H1.out k (by rw [HX.out]; exact hlt)
        obtain ⟨b', off', rfl, hbs', hc'⟩ := rowAt_cell H2.out k (by rw [HY.out]; exact hlt)
        have hc1 := hc k (by rw [HX.out]; exact hlt)
        have hc2 := hc' k (by rw [HY.out]; exact hlt)
        have hi : (k : Int) < (n : Int) := by omega
        have hi0 : (0 : Int) ≤ (k : Int) := by omega
        clear hc hc'
        cases hb : (xs[k]?.getD 0 != ys[k]?.getD 0)
        · go_wp2
          go_quiet (fail)
          go_wp2
          go_roundw
          case rel =>
            refine ⟨k + 1, by omega, by go_num, ⟨q + nq, by simp⟩, fun j hj => ?_⟩
            by_cases e : j = k
            · subst e; simpa using hb
            · exact HS.out j (by omega)
          case measure => simp [intOf]; omega
        · go_wp2
          go_quiet (fail)
          go_wp2
          go_ret
          exact ⟨ret_bool (eqB_f _ _ (fun e => by rw [e] at hb; simp at hb)), q + nq, by simp⟩
      · go_wp2
        go_ret
        exact ⟨ret_bool (eqB_t _ _ (get_ext xs ys (by rw [HX.out, HY.out]) (fun j hj => HS.out j (by have := HX.out; omega)))), _, rfl⟩
  · have hne : ((n : Int) != (m : Int)) = true := by simp; omega
    go_enter Tryz.func25, Tryz.ntmps25
    go_wp2
    go_ret
    exact ⟨ret_bool (eqB_f _ _ (fun e => by have := HX.out; have := HY.out; subst e; omega)), 0, rfl⟩

/-- Numbers from 'k' on, as many as 'n'. -/
def upFrom (k : Int) (n : Nat) : List Int := (List.range n).map fun (j : Nat) => k + (j : Int)
theorem upFrom_len (k : Int) (n : Nat) : (upFrom k n).length = n := by simp [upFrom]
theorem upFrom_at (k : Int) (n j : Nat) (h : j < n) : (upFrom k n)[j]?.getD 0 = k + j := by
  simp [upFrom, List.getElem?_map, List.getElem?_range h]
theorem mark_step (xs : List Int) (k : Int) (n j : Nat) (hn : xs.length = n) (hj : j < n) :
    ((upFrom k j ++ xs.drop j).map (Value.int .i64)).set j (.int .i64 (k + j)) = (upFrom k (j + 1) ++ xs.drop (j + 1)).map (Value.int .i64) := by
  apply List.ext_getElem
  · simp [upFrom]; omega
  · intro i h1 h2
    simp [upFrom] at h1 h2
    simp only [List.getElem_set, List.getElem_map, List.getElem_append, upFrom, List.length_map, List.length_range, List.getElem_range, List.getElem_drop]
    by_cases e : j = i
    · subst e
      simp
    · simp only [e, if_false]
      by_cases h : i < j
      · simp [h, show i < j + 1 by omega]
      · have h' : ¬ i < j + 1 := by omega
        simp only [h, h', dif_neg, not_false_eq_true]
        congr 2
        omega
set_option maxHeartbeats 1000000 in
theorem mark_ints (B g n c : Nat) (xs : List Int) (w : World) (hx : xs.length = n) (hn : n ≤ 1048576) (hBg : B ≤ g) (hown : w.ownsRow B 2 1 (.slice (some ⟨g, 0, none⟩) n c) n (xs.map (Value.int .i64))) :
    Calls Tryz.prog 28 #[.slice (some ⟨g, 0, none⟩) n c, .int .i64 1] w fun e w' => e = .returned (.int .i64 (1 + n)) ∧
      w'.ownsRow B 2 1 (.slice (some ⟨g, 0, none⟩) n c) n ((upFrom 1 n).map (Value.int .i64)) ∧ Below B w w' ∧ ∀ k, k ≠ g → w'.heap[k]? = w.heap[k]? := by
  have HX := hide hx
  have H0 : w.ownsRow B 2 1 (.slice (some ⟨g, 0, none⟩) n c) n ((upFrom 1 0 ++ xs.drop 0).map (Value.int .i64)) := by simpa [upFrom] using hown
  have HO := hide H0
  clear hown H0 hx
  go_enter Tryz.func28, Tryz.ntmps28
  go_wp2
  go_loopw [1, 5] (fun k i wr => ∃ j : Nat, j ≤ n ∧ i = .int .i64 j ∧ k = .int .i64 (1 + j) ∧ wr.ownsRow B 2 1 (.slice (some ⟨g, 0, none⟩) n c) n ((upFrom 1 j ++ xs.drop j).map (Value.int .i64)) ∧ Below B w wr ∧ ∀ k, k ≠ g → wr.heap[k]? = w.heap[k]?) (fun _ i _ => n - (intOf i).toNat)
  case atStart => exact ⟨0, Nat.zero_le _, rfl, rfl, HO.out, Below.refl _ _, fun _ _ => rfl⟩
  case round =>
    obtain ⟨j, hj, rfl, rfl, hown, hb, hoth⟩ := hrel
    by_cases hlt : j < n
    · have hst := hide (hown.stored j (.int .i64 (1 + j)))
      have hfr := hown.frozenAt j
      have hcc : ∃ v, wr.cell? ⟨g, j, none⟩ = some v := by
        rw [hown.cellAt j (by omega)]
        have hl : j < ((upFrom 1 j ++ xs.drop j).map (Value.int .i64)).length := by have := HX.out; simp [upFrom]; omega
        exact ⟨_, List.getElem?_eq_getElem hl⟩
      obtain ⟨v0, hcv⟩ := hcc
      have HB := hide hb
      have HT := hide hoth
      clear hown hb hoth
      go_wp2
      go_roundw
      case rel =>
        refine ⟨j + 1, by omega, by go_num, by go_num, ?_, HB.out.setCell hBg _, fun k hk => (Below.heap_setCell _ _ _ k hk).trans (HT.out k hk)⟩
        rw [← mark_step xs 1 n j HX.out hlt]
        exact hst.out.1
      case measure => simp [intOf]; omega
    · have hkn : j = n := by omega
      subst hkn
      have hfull : upFrom 1 j ++ xs.drop j = upFrom 1 j := by have := HX.out; subst this; simp
      rw [hfull] at hown
      have HO2 := hide hown
      have HB := hide hb
      have HT := hide hoth
      clear hown hb hoth
      go_wp2
      go_ret
      exact ⟨rfl, HO2.out, HB.out, HT.out⟩

set_option maxHeartbeats 1000000 in
theorem held_ints (a : Option Addr) (n c : Nat) (w : World) (hn : n ≤ 1048576) (hr : RowAt .i64 w a (upFrom 1 n) w.heap.size) :
    Calls Tryz.prog 29 #[.slice a n c, .int .i64 1] w fun e w' => e = .returned (.int .i64 (1 + n)) ∧ ∃ q, w' = w.drewN q := by
  have HR := hide hr
  clear hr
  go_enter Tryz.func29, Tryz.ntmps29
  go_wp2
  go_loopw [1, 5] (fun k i wr => ∃ j : Nat, j ≤ n ∧ i = .int .i64 j ∧ k = .int .i64 (1 + j) ∧ ∃ q, wr = w.drewN q) (fun _ i _ => n - (intOf i).toNat)
  case atStart => exact ⟨0, Nat.zero_le _, rfl, rfl, 0, rfl⟩
  case round =>
    obtain ⟨j, hj, rfl, rfl, q, rfl⟩ := hrel
    by_cases hlt : j < n
    · obtain ⟨b, off, rfl, hbs, hc⟩ := rowAt_cell HR.out j (by rw [upFrom_len]; exact hlt)
      have hc1 := hc j (by rw [upFrom_len]; exact hlt)
      rw [upFrom_at 1 n j hlt] at hc1
      have hi : (j : Int) < (n : Int) := by omega
      clear hc
      go_wp2
      go_roundw
      case rel => exact ⟨j + 1, by omega, by go_num, by go_num, q, rfl⟩
      case measure => simp [intOf]; omega
    · have hkn : j = n := by omega
      subst hkn
      go_wp2
      go_ret
      exact ⟨rfl, q, rfl⟩
end Go.Proofs.YtfbahffljhnjbaaGreatDoor
