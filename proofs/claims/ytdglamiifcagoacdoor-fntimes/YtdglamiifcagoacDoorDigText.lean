/-
  Contract: the program's text of a row of digits.
-/
import Derived.Test.YtdglamiifcagoacDoorDecTo
import Derived.Test.YtdglamiifcagoacDoorRowMath
import Derived.OwnWalk
import Derived.Laws.Rows
import Derived.Laws.World
import Derived.Laws.Tables
import Derived.KernelRfl
import Derived.Laws.BytesArg
import Derived.Laws.IdiomStrings
import Derived.Deep.OwnRows
import Derived.RegionTactic
import Derived.Deep.QuietTactic
import Derived.BigQuiet
import Derived.Deep.Draws
namespace Go.Proofs.YtdglamiifcagoacDoor
open Go.RowKit
set_option linter.unusedSimpArgs false
set_option linter.unusedVariables false
theorem info8 : (Tryd.prog.info? 5).map (fun i => (i.zero, i.size, i.bytes)) = some (some (.int .u8 0), 1, 1) := by kernel_rfl
theorem made_row (n : Nat) : madeCells #[.int .u8 0] n = rowV (List.replicate n 0) := by
  apply Array.ext_getElem?
  intro i
  by_cases h : i < n
  · rw [rowV_get _ i (by simpa using h)]
    simp [madeCells, h, Nat.mod_one]
  · rw [Array.getElem?_eq_none (by rw [size_madeCells]; omega), Array.getElem?_eq_none (by rw [rowV_size]; simp; omega)]
def outL (n : Nat) (xs : List Int) (k : Nat) : List Int := List.replicate (n - k) 0 ++ (xs.take k).reverse.map fun x => 48 + x
theorem outL_len (n : Nat) (xs : List Int) (k : Nat) (hk : k ≤ n) (hx : xs.length = n) : (outL n xs k).length = n := by
  simp [outL]; omega
theorem outL_step (n : Nat) (xs : List Int) (k : Nat) (hk : k < n) (hx : xs.length = n) : (outL n xs k).set (n - 1 - k) (48 + xs[k]?.getD 0) = outL n xs (k + 1) := by
  have e1 : xs.take (k + 1) = xs.take k ++ [xs[k]?.getD 0] := by
    rw [List.take_succ_eq_append_getElem (by omega), List.getElem?_eq_getElem (by omega)]; rfl
  unfold outL
  rw [e1, List.reverse_append, List.set_append_left _ _ (by simp; omega)]
  rw [show n - k = (n - 1 - k) + 1 by omega, show n - (k + 1) = n - 1 - k by omega, List.replicate_succ', List.set_append_right _ _ (by simp)]
  simp
theorem outL_all (n : Nat) (xs : List Int) (hx : xs.length = n) : outL n xs n = xs.reverse.map fun x => 48 + x := by
  unfold outL; rw [Nat.sub_self, List.take_of_length_le (by omega)]; simp
def TxtSt (w wr : World) (g n : Nat) (xs us : List Int) : Prop :=
  Below w.heap.size w wr ∧ (∀ i, i < n → wr.cell? ⟨g, i, none⟩ = some (.int .u8 (xs[i]?.getD 0))) ∧ wr.heap[w.heap.size]? = some (.cells (rowV us) 5 (0, 0))
theorem txt_set {w wr : World} {g n : Nat} {xs us : List Int} (h : TxtSt w wr g n xs us) (hg : g < w.heap.size) (i : Nat) (v : Int) : TxtSt w (wr.setCell ⟨w.heap.size, i, none⟩ (.int .u8 v)) g n xs (us.set i v) := by
  obtain ⟨h1, h2, h3⟩ := h
  refine ⟨h1.setCell (Nat.le_refl _) _, fun j hj => ?_, ?_⟩
  · exact (World.cell?_of_block (a := ⟨g, j, none⟩) (Below.heap_setCell wr ⟨w.heap.size, i, none⟩ _ g (by show g ≠ w.heap.size; omega))).trans (h2 j hj)
  · rw [heap_setCell_same wr _ i _ _ _ h3, rowV_set]
set_option maxHeartbeats 1000000 in
theorem i_digText (g n cap : Nat) (xs : List Int) (w : World) (hx : xs.length = n) (hn : n ≤ 200) (hn0 : 0 < n) (hg : g < w.heap.size) (hok : rowOK xs) (hc : ∀ i, i < n → w.cell? ⟨g, i, none⟩ = some (.int .u8 (xs[i]?.getD 0))) :
    Calls Tryd.prog 14 #[.slice (some ⟨g, 0, none⟩) n cap] w fun e w' => e = .returned (.string (strOfNums (xs.reverse.map fun x => 48 + x))) ∧ Below w.heap.size w w' := by
  have HX := hide hx
  have HOK := hide hok
  have HC := hide hc
  have hb0 : Below w.heap.size w (w.alloc (.cells (madeCells #[.int .u8 0] n) 5)) := (Below.refl _ _).alloc (Nat.le_refl _) _
  have HST : Hid (TxtSt w (w.alloc (.cells (madeCells #[.int .u8 0] n) 5)) g n xs (outL n xs 0)) := hide ⟨hb0, fun i hi => (hb0.cell (p := ⟨g, i, none⟩) hg).trans (hc i hi), by
    rw [heap_alloc_new, made_row]; simp [outL]⟩
  clear hx hok hc hb0
  have hmk := run_make_row' (P := Tryd.prog) 22 5 (.int .u8 0) 1 Tryd.underlying22 info8 rfl .i64 .i64 n (by omega) (by omega)
  go_enter Tryd.func14, Tryd.ntmps14
  go_wp2
  go_loopw [11] (fun vi wr => ∃ k : Nat, vi = .int .i64 k ∧ k ≤ n ∧ Hid (TxtSt w wr g n xs (outL n xs k))) (fun vi _ => n - (intOf vi).toNat)
  case atStart => exact ⟨0, rfl, Nat.zero_le _, HST⟩
  case round =>
    clear HST hmk
    obtain ⟨k, rfl, hk, HST⟩ := hrel
    by_cases hlt : k < n
    · have hc1 := HST.out.2.1 k hlt
      have hidx : n - 1 - k < (outL n xs k).length := by rw [outL_len n xs k hk HX.out]; omega
      have hc2 : wr.cell? ⟨w.heap.size, n - 1 - k, none⟩ = some (.int .u8 ((outL n xs k)[n - 1 - k]?.getD 0)) := by rw [cell_of_row wr _ _ _ _ (0, 0) HST.out.2.2, rowV_get _ _ hidx]
      have hf2 : wr.frozen? ⟨w.heap.size, n - 1 - k, none⟩ = false := frozen_of_row wr _ _ _ _ HST.out.2.2
      have hd := HOK.out (xs[k]?.getD 0) (by rw [List.getElem?_eq_getElem (by rw [HX.out]; exact hlt)]; exact List.getElem_mem _)
      obtain ⟨x, hxx⟩ : ∃ x, xs[k]?.getD 0 = x := ⟨_, rfl⟩
      rw [hxx] at hc1 hd
      obtain ⟨hd0, hd9⟩ := hd
      have HSTEP := hide (outL_step n xs k hlt HX.out)
      rw [hxx] at HSTEP
      have hti : ((n : Int) - 1 - (k : Int)).toNat = n - 1 - k := by omega
      clear hidx hxx
      go_wp2
      go_roundw
      case rel => exact ⟨k + 1, by go_num, by omega, hide (by rw [← HSTEP.out]; exact txt_set HST.out hg _ _)⟩
      case measure => simp [intOf]; omega
    · have hkk : k = n := by omega
      subst hkk
      have hst := HST.out
      rw [outL_all k xs HX.out] at hst
      obtain ⟨us, hus⟩ : ∃ us, (xs.reverse.map fun x => 48 + x) = us := ⟨_, rfl⟩
      rw [hus] at hst
      have hul : us.length = k := by rw [← hus]; simp [HX.out]
      have hcv := run_convert_bytes_arg (P := Tryd.prog) wr 22 5 Tryd.underlying22 Tryd.underlying5 w.heap.size 0 k k us hul (fun i hi => by
        rw [Nat.zero_add, cell_of_row wr _ i _ _ (0, 0) hst.2.2, rowV_get us i (by omega)]; simp [List.getD]) 9 Tryd.underlying9
      have HB := hide hst.1
      have HUS := hide hus
      clear hst hus HST
      go_wp2
      go_ret
      exact ⟨by rw [HUS.out]; rfl, HB.out⟩
theorem txt_val (xs : List Int) (h : rowOK xs) : valL (strOfNums (xs.reverse.map fun x => 48 + x)).data.toList = rval xs ∧ dgL (strOfNums (xs.reverse.map fun x => 48 + x)).data.toList := by
  induction xs with
  | nil => exact ⟨rfl, fun c hc => by simp [strOfNums] at hc⟩
  | cons x l ih =>
    have hx := h x List.mem_cons_self
    obtain ⟨h1, h2⟩ := ih (fun d hd => h d (List.mem_cons_of_mem _ hd))
    have e : (strOfNums ((x :: l).reverse.map fun x => 48 + x)).data.toList = (strOfNums (l.reverse.map fun x => 48 + x)).data.toList ++ [UInt8.ofNat (48 + x).toNat] := by
      rw [strOfNums_data, strOfNums_data]; simp
    have hn : (UInt8.ofNat (48 + x).toNat).toNat = (48 + x).toNat := by rw [UInt8.toNat_ofNat']; omega
    rw [e]
    constructor
    · rw [valL_app]
      have e2 : valL [UInt8.ofNat (48 + x).toNat] = (48 + x).toNat - 48 := by simp [valL, dgt, hn]
      rw [e2, rval]
      simp only [List.length_singleton, Nat.pow_one]
      push_cast
      rw [h1]; omega
    · refine dgL_app h2 (fun c hc => ?_)
      have : c = UInt8.ofNat (48 + x).toNat := by simpa using hc
      rw [this, hn]; omega
end Go.Proofs.YtdglamiifcagoacDoor
