/-
  Contract: the program's digits in an array.
-/
import Derived.Test.YtdglamiifcagoacDoorDecTo
import Derived.Test.YtdglamiifcagoacDoorRowMath
import Derived.Deep.WholeRow
import Derived.Laws.Tables
import Derived.Laws.CopyOwn
import Derived.OwnWalk
import Derived.Laws.Rows
import Derived.Laws.World
import Derived.KernelRfl
namespace Go.Proofs.YtdglamiifcagoacDoor
open Go.RowKit
set_option linter.unusedSimpArgs false
set_option linter.unusedVariables false
theorem ret_int8 {k : IntKind} {a b : Int} (h : a = b) : Ending.returned (.int k a) = .returned (.int k b) := by rw [h]
set_option maxHeartbeats 1000000 in
theorem i_digAt (n : Bool) (s : ByteArray) (c : Int) (j : Nat) (w : World) (hs : s.size ≤ 60) (hd : digsB s = true) (hj : j < s.size) :
    Calls Tryd.prog 26 #[.agg #[.bool n, .string s, .int .i64 c], .int .i64 j] w fun e w' => e = .returned (.int .u8 (at8 s (s.size - 1 - j) - 48)) ∧ Below w.heap.size w w' := by
  have hi : s.size - 1 - j < s.size := by omega
  have hv := digsB_at s hd _ hi
  simp only [digitB, decide_eq_true_eq] at hv
  obtain ⟨hv1, hv2⟩ := hv
  go_enter Tryd.func26, Tryd.ntmps26
  go_wp2
  go_ret
  exact ⟨ret_int8 (by rw [at8_eq s _ hi]), (Below.refl _ _).alloc (Nat.le_refl _) _⟩
theorem z_info : (Tryd.prog.info? 41).map (fun i => (i.zero, i.size)) = some (some (.agg (rowV (List.replicate 121 0))), 121) := by kernel_rfl
def Zs : Array Value := rowV (List.replicate 121 0)
theorem z_zero : ∀ w, (zeroValue 41).run Tryd.prog w = .ok (.agg Zs) w := (zero_of_info z_info).1
/-- The loop's memory: the number, the answer's place, the row. -/
def RowSt (w wr : World) (n : Bool) (s : ByteArray) (c : Int) (xs : List Int) : Prop :=
  Below w.heap.size w wr ∧ Boxed wr w.heap.size n s c ∧ wr.heap[w.heap.size + 1]? = some (.cells Zs 41 (0, 0)) ∧ wr.heap[w.heap.size + 1 + 1]? = some (.cells (rowV xs) 41 (0, 0))
theorem rowst_new (w : World) (n : Bool) (s : ByteArray) (c : Int) (T : TypeId) :
    RowSt w (((w.alloc (.cells #[.bool n, .string s, .int .i64 c] T)).alloc (.cells Zs 41)).alloc (.cells Zs 41)) n s c (List.replicate 121 0) := by
  have h1 := boxed_new w n s c T
  have b1 : Below (w.alloc (.cells #[.bool n, .string s, .int .i64 c] T)).heap.size (w.alloc (.cells #[.bool n, .string s, .int .i64 c] T)) (((w.alloc (.cells #[.bool n, .string s, .int .i64 c] T)).alloc (.cells Zs 41)).alloc (.cells Zs 41)) :=
    ((Below.refl _ _).alloc (Nat.le_refl _) _).alloc (by simp) _
  refine ⟨below_go ((Below.refl _ _).alloc (Nat.le_refl _) _) b1, boxed_go h1 b1, ?_, ?_⟩
  · have e1 : (w.alloc (.cells #[.bool n, .string s, .int .i64 c] T)).heap.size = w.heap.size + 1 := by simp
    have := heap_alloc_new (w.alloc (.cells #[.bool n, .string s, .int .i64 c] T)) (.cells Zs 41)
    rw [e1] at this
    have b2 : Below ((w.alloc (.cells #[.bool n, .string s, .int .i64 c] T)).alloc (.cells Zs 41)).heap.size ((w.alloc (.cells #[.bool n, .string s, .int .i64 c] T)).alloc (.cells Zs 41)) (((w.alloc (.cells #[.bool n, .string s, .int .i64 c] T)).alloc (.cells Zs 41)).alloc (.cells Zs 41)) := (Below.refl _ _).alloc (Nat.le_refl _) _
    rw [b2.block _ (by simp)]; exact this
  · have e1 : ((w.alloc (.cells #[.bool n, .string s, .int .i64 c] T)).alloc (.cells Zs 41)).heap.size = w.heap.size + 1 + 1 := by simp
    have := heap_alloc_new ((w.alloc (.cells #[.bool n, .string s, .int .i64 c] T)).alloc (.cells Zs 41)) (.cells Zs 41)
    rw [e1] at this
    exact this
theorem rowst_go {w wr w2 : World} {n : Bool} {s : ByteArray} {c : Int} {xs : List Int} (h : RowSt w wr n s c xs) (k : Below wr.heap.size wr w2) : RowSt w w2 n s c xs := by
  obtain ⟨h1, h2, h3, h4⟩ := h
  exact ⟨below_go h1 k, boxed_go h2 k, (k.block _ (Array.getElem?_eq_some_iff.1 h3).1).trans h3, (k.block _ (Array.getElem?_eq_some_iff.1 h4).1).trans h4⟩
theorem rowst_set {w wr : World} {n : Bool} {s : ByteArray} {c : Int} {xs : List Int} (h : RowSt w wr n s c xs) (i : Nat) (v : Int) : RowSt w (wr.setCell ⟨w.heap.size + 1 + 1, i, none⟩ (.int .u8 v)) n s c (xs.set i v) := by
  obtain ⟨h1, h2, h3, h4⟩ := h
  have hb : ∀ k, k ≠ w.heap.size + 1 + 1 → (wr.setCell ⟨w.heap.size + 1 + 1, i, none⟩ (.int .u8 v)).heap[k]? = wr.heap[k]? := fun k hk => Below.heap_setCell wr ⟨w.heap.size + 1 + 1, i, none⟩ _ k hk
  have hc : ∀ j, (wr.setCell ⟨w.heap.size + 1 + 1, i, none⟩ (.int .u8 v)).cell? ⟨w.heap.size, j, none⟩ = wr.cell? ⟨w.heap.size, j, none⟩ := fun j => World.cell?_of_block (hb _ (by show w.heap.size ≠ _; omega))
  refine ⟨h1.setCell (by show w.heap.size ≤ w.heap.size + 1 + 1; omega) _, ⟨by have := h2.1; simpa using this, (hc 0).trans h2.2.1, (hc 1).trans h2.2.2.1, (hc 2).trans h2.2.2.2⟩, (hb _ (by omega)).trans h3, ?_⟩
  rw [heap_setCell_same wr _ i _ _ _ h4, rowV_set]
theorem rowst_cell {w wr : World} {n : Bool} {s : ByteArray} {c : Int} {xs : List Int} (h : RowSt w wr n s c xs) (i : Nat) (hi : i < xs.length) : wr.cell? ⟨w.heap.size + 1 + 1, i, none⟩ = some (.int .u8 (xs[i]?.getD 0)) ∧ wr.frozen? ⟨w.heap.size + 1 + 1, i, none⟩ = false :=
  ⟨by rw [cell_of_row wr _ i _ _ (0, 0) h.2.2.2, rowV_get xs i hi], frozen_of_row wr _ i _ _ h.2.2.2⟩
set_option maxHeartbeats 1000000 in
theorem i_rowOf (n : Bool) (s : ByteArray) (c : Int) (w : World) (h : decB n s c = true) :
    Calls Tryd.prog 19 #[.agg #[.bool n, .string s, .int .i64 c]] w fun e w' => e = .returned (.agg (rowV (rowF 121 s (60 - c).toNat s.size))) ∧ Below w.heap.size w w' := by
  obtain ⟨hs, hc0, hc1⟩ := decB_bounds h
  have HD := hide (decB_digits h)
  clear h
  have hz := z_zero
  obtain ⟨R, hR⟩ : ∃ R, rowV (rowF 121 s (60 - c).toNat s.size) = R := ⟨_, rfl⟩
  rw [hR]
  have HR := hide hR
  clear hR
  go_enter Tryd.func19, Tryd.ntmps19
  go_wp2
  go_loopw [12] (fun vi wr => ∃ k : Nat, k ≤ s.size ∧ vi = .int .i64 k ∧ RowSt w wr n s c (rowF 121 s (60 - c).toNat k)) (fun vi _ => s.size - (intOf vi).toNat)
  case atStart => exact ⟨0, Nat.zero_le _, rfl, by rw [rowF_zero]; exact rowst_new w n s c _⟩
  case round =>
    obtain ⟨k, hk, rfl, hst⟩ := hrel
    have HST := hide hst
    clear hz
    by_cases hlt : k < s.size
    · obtain ⟨k0, k1, k2, k3⟩ := hst.2.1
      clear hst k0
      go_wp2_with fail
      refine (i_digAt n s c k _ hs HD.out hlt).mono ?_
      rintro e w2 ⟨rfl, hb2⟩
      have hst2 := rowst_go HST.out hb2
      have HST2 := hide hst2
      obtain ⟨hcell, hfz⟩ := rowst_cell hst2 ((60 - c).toNat + k) (by rw [rowF_len]; omega)
      obtain ⟨v, hv⟩ : ∃ v, at8 s (s.size - 1 - k) - 48 = v := ⟨_, rfl⟩
      have HV := hide hv
      rw [hv]
      have hidx : (60 - c + (k : Int)).toNat = (60 - c).toNat + k := by omega
      clear hst2 hb2 hv k1 k2 k3
      go_wp2
      go_roundw
      case rel => exact ⟨k + 1, by omega, by go_num, by rw [← rowF_step, HV.out]; exact rowst_set HST2.out _ _⟩
      case measure => simp [intOf]; omega
    · have hks : k = s.size := by omega
      subst hks
      have h3 := hst.2.2.1
      have h4 := hst.2.2.2
      have HB := hide hst.1
      have hR := HR.out
      rw [hR] at h4
      have hsz : (Tryd.prog.info? 41).map (·.size) = some R.size := by rw [← hR, rowV_size, rowF_len]; exact (zero_of_info z_info).2
      have hzz : Zs.size = R.size := by rw [← hR, rowV_size, rowF_len]; simp [Zs, rowV_size]
      have hall : R.all (·.oneCell') = true := by rw [← hR]; simp [rowV, Value.oneCell']
      clear hst hR
      go_wp2_with (first | (refine wpList_load_row rfl 41 _ rfl (w.heap.size + 1 + 1) rfl 41 _ (0, 0) _ h4 Tryd.underlying41 rfl hsz ?_) | (refine wpList_store_row rfl 41 _ _ rfl (w.heap.size + 1) _ rfl rfl 41 _ h3 hsz hzz hall ?_))
      exact bodyPost_ret (v := .agg R) (results_cell_row Tryd.results19 _ _ (w.heap.size + 1) 41 R (0, 0) _ rfl (setRow_heap wr _ _ R _ _ h3) Tryd.underlying41 rfl hsz) rfl ⟨rfl, below_setRow HB.out (by omega) R⟩
end Go.Proofs.YtdglamiifcagoacDoor
