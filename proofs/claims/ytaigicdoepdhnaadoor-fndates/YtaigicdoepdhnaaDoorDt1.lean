/-
  Contracts: numbers in two and in four digits, the specification's and the program's.
-/
import Derived.Test.YtaigicdoepdhnaaDoorDtMath
import Derived.Test.YtaigicdoepdhnaaDoorDateTo
import Derived.Test.YtaigicdoepdhnaaDoorShelf
import Derived.Laws.BytesArg
import Derived.OwnWalk
import Derived.Lib.SmallJoins
import Derived.Lib.AppendIntMem
import Derived.Deep.RegionHeld3
namespace Go.Proofs.YtaigicdoepdhnaaDoor
open Go.RowKit Go.Joins
set_option linter.unusedVariables false
set_option linter.unusedSimpArgs false
theorem ret_st {a b : ByteArray} (h : a = b) : Ending.returned (.string a) = .returned (.string b) := by rw [h]
theorem conv_new (w : World) (xs : List Int) :
    (convert 22 9 (.slice (some ⟨w.heap.size, 0, none⟩) xs.length xs.length)).run Tryd.prog (w.alloc (.cells (xs.map (Value.int .u8)).toArray 5)) = .ok (.string (strOfNums xs)) (w.alloc (.cells (xs.map (Value.int .u8)).toArray 5)) := by
  refine run_convert_bytes_arg _ 22 5 Tryd.underlying22 Tryd.underlying5 w.heap.size 0 xs.length xs.length xs rfl ?_ 9 Tryd.underlying9
  intro i hi
  rw [show (0 + i) = i by omega, cell_of_row _ w.heap.size i _ 5 (0, 0) (heap_alloc_new w _)]
  simp [List.getElem?_eq_getElem hi]
theorem two_nums (n : Int) (h : 0 ≤ n) : strOfNums [48 + n / 10 % 10, 48 + n % 10] = twoB n := by
  obtain ⟨k, rfl⟩ : ∃ k : Nat, n = (k : Int) := ⟨n.toNat, by omega⟩
  unfold strOfNums twoB twoL
  simp only [List.map_cons, List.map_nil]
  rw [show ((48 : Int) + (k : Int) / 10 % 10).toNat = 48 + (k : Int).toNat / 10 % 10 by omega, show ((48 : Int) + (k : Int) % 10).toNat = 48 + (k : Int).toNat % 10 by omega]
set_option maxHeartbeats 1000000 in
theorem s_two (n : Int) (w : World) (h0 : 0 ≤ n) (h1 : n ≤ 10000) : Calls Tryd.prog 21 #[.int .i64 n] w fun e w' => e = .returned (.string (twoB n)) ∧ Below w.heap.size w w' := by
  have hcv := conv_new w [48 + n / 10 % 10, 48 + n % 10]
  simp only [List.map_cons, List.map_nil, List.length_cons, List.length_nil, Nat.zero_add] at hcv
  go_enter Tryd.func21, Tryd.ntmps21
  go_wp2
  go_ret
  exact ⟨ret_st (two_nums n h0), (Below.refl _ _).alloc (Nat.le_refl _) _⟩
def zerosL (k : Nat) : ByteArray := ⟨(List.replicate k 48).toArray⟩
theorem zerosL_size (k : Nat) : (zerosL k).size = k := by
  show (List.replicate k (48 : UInt8)).toArray.size = k
  rw [List.size_toArray, List.length_replicate]
theorem repeat_zeros (k : Nat) : (⟨(Lib.repeatL (⟨#[48]⟩ : ByteArray).data.toList k).toArray⟩ : ByteArray) = zerosL k := by
  have h := Lib.repeatL_replicate 48 1 k
  rw [Nat.mul_one] at h
  show (⟨(Lib.repeatL [48] k).toArray⟩ : ByteArray) = zerosL k
  rw [show ([48] : List UInt8) = List.replicate 1 48 from rfl, h]; rfl
theorem pad_join (k n : Nat) (h : (Lib.decDigits n).length ≤ k) : zerosL (k - (Lib.decDigits n).length) ++ (⟨(Lib.decDigits n).toArray⟩ : ByteArray) = ⟨(padL k n).toArray⟩ := by
  apply ByteArray.ext
  simp [zerosL, padL]
theorem dd_len2 {n : Nat} (h : n < 100) : (Lib.decDigits n).length ≤ 2 := by
  by_cases h1 : n < 10
  · rw [dd_one h1]; simp
  · rw [dd_more h1, dd_one (show n / 10 < 10 by omega)]; simp
theorem dd_len4 {n : Nat} (h : n < 10000) : (Lib.decDigits n).length ≤ 4 := by
  by_cases h1 : n < 100
  · have := dd_len2 h1; omega
  · rw [dd_more (by omega), dd_more (show ¬ n / 10 < 10 by omega)]
    have := dd_len2 (show n / 10 / 10 < 100 by omega)
    simp; omega
theorem tab_go {w w1 : World} (h : Lib.TabIs Tryd.prog w "internal/strconv.uint64pow10" .u64 Lib.pow10Tab) (k : Below w.heap.size w w1) : Lib.TabIs Tryd.prog w1 "internal/strconv.uint64pow10" .u64 Lib.pow10Tab := tab_stays (g := 1) (by kernel_rfl) h k (Nat.le_refl _)
set_option maxHeartbeats 1000000 in
theorem i_pad (n k : Nat) (w : World) (hk : k ≤ 4) (hn : n < 10000) (hl : (Lib.decDigits n).length ≤ k) (htab : Lib.TabIs Tryd.prog w "internal/strconv.uint64pow10" .u64 Lib.pow10Tab) : Calls Tryd.prog 14 #[.int .i64 n, .int .i64 k] w fun e w' => e = .returned (.string ⟨(padL k n).toArray⟩) ∧ Below w.heap.size w w' := by
  have HT := hide htab
  clear htab
  go_enter Tryd.func14, Tryd.ntmps14
  go_wp2_with fail
  refine (Tryd.strconv_FormatInt_10 (n : Int) (by omega) (by omega) _ HT.out).mono ?_
  rintro e w1 ⟨rfl, q, os, hw1⟩
  have HB1 : Hid (Below w.heap.size w w1) := by rw [hw1]; exact hide (Lib.below_grow _ _ (Nat.le_refl _) _ _)
  clear hw1
  rw [Lib.itoa_nonneg]
  obtain ⟨t, ht⟩ : ∃ t : ByteArray, (⟨(Lib.decDigits n).toArray⟩ : ByteArray) = t := ⟨_, rfl⟩
  have hts : t.size = (Lib.decDigits n).length := by rw [← ht]; simp [ByteArray.size]
  rw [ht]
  have HTT := hide ht
  have hlt : t.size ≤ k := by omega
  have HTS := hide hts
  have HLL := hide hl
  clear ht hts hl
  go_wp2_with fail
  rw [show ((k : Int) - (t.size : Int)) = ((k - t.size : Nat) : Int) by omega]
  refine (Tryd.strings_Repeat ⟨#[48]⟩ (k - t.size) w1 (by omega) (by show 1 * (k - t.size) ≤ _; omega)).mono ?_
  rintro e w2 ⟨rfl, hb2⟩
  rw [repeat_zeros]
  have HB2 := hide (HB1.out.trans (hb2.mono HB1.out.size))
  clear hb2
  have hz : (zerosL (k - t.size)).size = k - t.size := zerosL_size _
  obtain ⟨zz, hzz⟩ : ∃ zz, zerosL (k - t.size) = zz := ⟨_, rfl⟩
  rw [hzz] at hz ⊢
  have HZZ := hide hzz
  have hz4 : zz.size ≤ 4 := by omega
  have ht4 : t.size ≤ 4 := by omega
  clear hzz hz hlt
  go_wp2
  go_ret
  refine ⟨ret_st ?_, HB2.out⟩
  rw [← HZZ.out, HTS.out, ← HTT.out]
  exact pad_join k n HLL.out
theorem i_pad2 (n : Int) (w : World) (h0 : 0 ≤ n) (h1 : n < 100) (htab : Lib.TabIs Tryd.prog w "internal/strconv.uint64pow10" .u64 Lib.pow10Tab) : Calls Tryd.prog 14 #[.int .i64 n, .int .i64 2] w fun e w' => e = .returned (.string (twoB n)) ∧ Below w.heap.size w w' := by
  obtain ⟨k, rfl⟩ : ∃ k : Nat, n = (k : Int) := ⟨n.toNat, by omega⟩
  have h := i_pad k 2 w (by omega) (by omega) (dd_len2 (by omega)) htab
  rw [pad2L k (by omega)] at h
  exact h
theorem i_pad4 (n : Int) (w : World) (h0 : 0 ≤ n) (h1 : n < 10000) (htab : Lib.TabIs Tryd.prog w "internal/strconv.uint64pow10" .u64 Lib.pow10Tab) : Calls Tryd.prog 14 #[.int .i64 n, .int .i64 4] w fun e w' => e = .returned (.string (yearB n)) ∧ Below w.heap.size w w' := by
  obtain ⟨k, rfl⟩ : ∃ k : Nat, n = (k : Int) := ⟨n.toNat, by omega⟩
  have h := i_pad k 4 w (by omega) (by omega) (dd_len4 (by omega)) htab
  rw [pad4L k (by omega)] at h
  have e : (⟨(twoL (k / 100) ++ twoL (k % 100)).toArray⟩ : ByteArray) = yearB (k : Int) := by
    unfold yearB twoB
    rw [show ((k : Int) / 100).toNat = k / 100 by omega, show ((k : Int) % 100).toNat = k % 100 by omega]
    apply ByteArray.ext
    simp
  rw [e] at h
  exact h
theorem two_size (n : Int) : (twoB n).size = 2 := rfl
theorem year_size (n : Int) : (yearB n).size = 4 := by simp [yearB, two_size]
theorem clock_size (a b : Int) : (clockB a b).size = 5 := by simp [clockB, two_size, chB1]; rfl
set_option maxHeartbeats 1000000 in
theorem i_clock (a b : Int) (w : World) (h0 : 0 ≤ a) (h1 : a < 100) (h2 : 0 ≤ b) (h3 : b < 100) (htab : Lib.TabIs Tryd.prog w "internal/strconv.uint64pow10" .u64 Lib.pow10Tab) : Calls Tryd.prog 15 #[.int .i64 a, .int .i64 b] w fun e w' => e = .returned (.string (clockB a b)) ∧ Below w.heap.size w w' := by
  have HT := hide htab
  clear htab
  obtain ⟨x, hx⟩ : ∃ x, twoB a = x := ⟨_, rfl⟩
  obtain ⟨y, hy⟩ : ∃ y, twoB b = y := ⟨_, rfl⟩
  have sx : x.size ≤ 2 := by rw [← hx, two_size]; omega
  have sy : y.size ≤ 2 := by rw [← hy, two_size]; omega
  have HX := hide hx
  have HY := hide hy
  clear hx hy
  go_enter Tryd.func15, Tryd.ntmps15
  go_wp2_with fail
  refine (i_pad2 a _ h0 h1 HT.out).mono ?_
  rintro e w1 ⟨rfl, hb1⟩
  rw [HX.out]
  have HB1 := hide hb1
  clear hb1
  go_wp2_with fail
  refine (i_pad2 b _ h2 h3 (tab_go HT.out HB1.out)).mono ?_
  rintro e w2 ⟨rfl, hb2⟩
  rw [HY.out]
  have HB2 := hide (HB1.out.trans (hb2.mono HB1.out.size))
  clear hb2
  go_wp2
  go_ret
  exact ⟨ret_st (by rw [clockB, HX.out, HY.out, ← ByteArray.append_assoc]; rfl), HB2.out⟩
end Go.Proofs.YtaigicdoepdhnaaDoor
