/-
  Contracts: the program's sums and differences of rows of digits.
-/
import Derived.Test.YtdglamiifcagoacDoorRowI
import Derived.Test.YtdglamiifcagoacDoorAddMath
import Derived.RegionTactic
import Derived.Deep.QuietTactic
import Derived.BigQuiet
import Derived.Deep.Draws
import Derived.BigRegion
namespace Go.Proofs.YtdglamiifcagoacDoor
open Go.RowKit
set_option linter.unusedSimpArgs false
set_option linter.unusedVariables false
/-- The loop's memory: the two rows, the answer's place, the row that grows. -/
def AddSt (w wr : World) (xs ys zs : List Int) : Prop :=
  Below w.heap.size w wr ∧ wr.heap[w.heap.size]? = some (.cells (rowV xs) 41 (0, 0)) ∧ wr.heap[w.heap.size + 1]? = some (.cells (rowV ys) 41 (0, 0)) ∧ wr.heap[w.heap.size + 1 + 1]? = some (.cells Zs 41 (0, 0)) ∧ wr.heap[w.heap.size + 1 + 1 + 1]? = some (.cells (rowV zs) 41 (0, 0))
theorem addst_new (w : World) (xs ys : List Int) : AddSt w ((((w.alloc (.cells (rowV xs) 41)).alloc (.cells (rowV ys) 41)).alloc (.cells Zs 41)).alloc (.cells Zs 41)) xs ys (List.replicate 121 0) := by
  obtain ⟨w1, h1⟩ : ∃ w1, w.alloc (.cells (rowV xs) 41) = w1 := ⟨_, rfl⟩
  obtain ⟨w2, h2⟩ : ∃ w2, w1.alloc (.cells (rowV ys) 41) = w2 := ⟨_, rfl⟩
  obtain ⟨w3, h3⟩ : ∃ w3, w2.alloc (.cells Zs 41) = w3 := ⟨_, rfl⟩
  have s1 : w1.heap.size = w.heap.size + 1 := by rw [← h1]; simp
  have s2 : w2.heap.size = w.heap.size + 1 + 1 := by rw [← h2]; simp [s1]
  have s3 : w3.heap.size = w.heap.size + 1 + 1 + 1 := by rw [← h3]; simp [s2]
  have b1 : Below w.heap.size w w1 := by rw [← h1]; exact (Below.refl _ _).alloc (Nat.le_refl _) _
  have b2 : Below w1.heap.size w1 w2 := by rw [← h2]; exact (Below.refl _ _).alloc (Nat.le_refl _) _
  have b3 : Below w2.heap.size w2 w3 := by rw [← h3]; exact (Below.refl _ _).alloc (Nat.le_refl _) _
  have b4 : Below w3.heap.size w3 (w3.alloc (.cells Zs 41)) := (Below.refl _ _).alloc (Nat.le_refl _) _
  have n1 : w1.heap[w.heap.size]? = some (.cells (rowV xs) 41 (0, 0)) := by rw [← h1]; exact heap_alloc_new w _
  have n2 : w2.heap[w.heap.size + 1]? = some (.cells (rowV ys) 41 (0, 0)) := by rw [← h2, ← s1]; exact heap_alloc_new w1 _
  have n3 : w3.heap[w.heap.size + 1 + 1]? = some (.cells Zs 41 (0, 0)) := by rw [← h3, ← s2]; exact heap_alloc_new w2 _
  have n4 : (w3.alloc (.cells Zs 41)).heap[w.heap.size + 1 + 1 + 1]? = some (.cells Zs 41 (0, 0)) := by rw [← s3]; exact heap_alloc_new w3 _
  rw [h1, h2, h3]
  refine ⟨below_go (below_go (below_go b1 b2) b3) b4, ?_, ?_, ?_, n4⟩
  · rw [b4.block _ (by omega), b3.block _ (by omega), b2.block _ (by omega)]; exact n1
  · rw [b4.block _ (by omega), b3.block _ (by omega)]; exact n2
  · rw [b4.block _ (by omega)]; exact n3
theorem addst_drewN {w wr : World} {xs ys zs : List Int} (h : AddSt w wr xs ys zs) (q : Nat) : AddSt w (wr.drewN q) xs ys zs :=
  ⟨h.1.trans ⟨rfl, rfl, rfl, Nat.le_refl _, fun _ _ => rfl⟩, h.2⟩
theorem addst_set {w wr : World} {xs ys zs : List Int} (h : AddSt w wr xs ys zs) (i : Nat) (v : Int) : AddSt w (wr.setCell ⟨w.heap.size + 1 + 1 + 1, i, none⟩ (.int .u8 v)) xs ys (zs.set i v) := by
  obtain ⟨h1, h2, h3, h4, h5⟩ := h
  have hb : ∀ k, k ≠ w.heap.size + 1 + 1 + 1 → (wr.setCell ⟨w.heap.size + 1 + 1 + 1, i, none⟩ (.int .u8 v)).heap[k]? = wr.heap[k]? := fun k hk => Below.heap_setCell wr ⟨w.heap.size + 1 + 1 + 1, i, none⟩ _ k hk
  refine ⟨h1.setCell (by show w.heap.size ≤ w.heap.size + 1 + 1 + 1; omega) _, (hb _ (by omega)).trans h2, (hb _ (by omega)).trans h3, (hb _ (by omega)).trans h4, ?_⟩
  rw [heap_setCell_same wr _ i _ _ _ h5, rowV_set]
theorem addst_cells {w wr : World} {xs ys zs : List Int} (h : AddSt w wr xs ys zs) (i : Nat) (h1 : i < xs.length) (h2 : i < ys.length) (h3 : i < zs.length) :
    wr.cell? ⟨w.heap.size, i, none⟩ = some (.int .u8 (xs[i]?.getD 0)) ∧ wr.cell? ⟨w.heap.size + 1, i, none⟩ = some (.int .u8 (ys[i]?.getD 0)) ∧ wr.cell? ⟨w.heap.size + 1 + 1 + 1, i, none⟩ = some (.int .u8 (zs[i]?.getD 0)) ∧ wr.frozen? ⟨w.heap.size + 1 + 1 + 1, i, none⟩ = false :=
  ⟨by rw [cell_of_row wr _ i _ _ (0, 0) h.2.1, rowV_get xs i h1], by rw [cell_of_row wr _ i _ _ (0, 0) h.2.2.1, rowV_get ys i h2], by rw [cell_of_row wr _ i _ _ (0, 0) h.2.2.2.2, rowV_get zs i h3], frozen_of_row wr _ i _ _ h.2.2.2.2⟩
set_option maxRecDepth 100000 in
set_option maxHeartbeats 1000000 in
theorem i_addRows (xs ys : List Int) (w : World) (hx : xs.length = 121) (hy : ys.length = 121) (ox : rowOK xs) (oy : rowOK ys) (hsum : rval xs + rval ys < 10 ^ 121) :
    Calls Tryd.prog 20 #[.agg (rowV xs), .agg (rowV ys)] w fun e w' => ∃ zs : List Int, zs.length = 121 ∧ rowOK zs ∧ rval zs = rval xs + rval ys ∧ e = .returned (.agg (rowV zs)) ∧ Below w.heap.size w w' := by
  have HX := hide hx
  have HY := hide hy
  have OX := hide ox
  have OY := hide oy
  have HSU := hide hsum
  have HST := hide (addst_new w xs ys)
  obtain ⟨X, hX⟩ : ∃ X, rowV xs = X := ⟨_, rfl⟩
  obtain ⟨Y, hY⟩ : ∃ Y, rowV ys = Y := ⟨_, rfl⟩
  rw [hX, hY]
  have EX := hide hX
  have EY := hide hY
  clear hx hy ox oy hX hY hsum
  have hz := z_zero
  go_enter Tryd.func20, Tryd.ntmps20
  go_wp2
  go_loopw [6, 9] (fun vc vi wr => ∃ (k : Nat) (c : Int) (d : List Int), vc = .int .u8 c ∧ vi = .int .i64 k ∧ k ≤ 121 ∧ 0 ≤ c ∧ c ≤ 1 ∧ Hid (d.length = k) ∧ Hid (rowOK d) ∧ Hid (rval d + 10 ^ k * c = rval (xs.take k) + rval (ys.take k)) ∧ Hid (AddSt w wr xs ys (d ++ List.replicate (121 - k) 0))) (fun _ vi _ => 121 - (intOf vi).toNat)
  case atStart => exact ⟨0, 0, [], rfl, rfl, by omega, by omega, by omega, hide rfl, hide (fun x hx => by cases hx), hide (by simp [rval]), hide (by have := HST.out; rw [EX.out, EY.out] at this; exact this)⟩
  case round =>
    clear HST hz
    obtain ⟨k, c, d, rfl, rfl, hk, hc0, hc1, HDL, HDO, HI, HST⟩ := hrel
    by_cases hlt : k < 121
    · have hxl : k < xs.length := by rw [HX.out]; exact hlt
      have hyl : k < ys.length := by rw [HY.out]; exact hlt
      have hdl : k < (d ++ List.replicate (121 - k) (0 : Int)).length := by rw [List.length_append, HDL.out, List.length_replicate]; omega
      obtain ⟨q1, q2, q3, q4⟩ := addst_cells HST.out k hxl hyl hdl
      obtain ⟨x0, x9⟩ := row_digit OX.out k hxl
      obtain ⟨y0, y9⟩ := row_digit OY.out k hyl
      obtain ⟨x, hxx⟩ : ∃ x, xs[k]?.getD 0 = x := ⟨_, rfl⟩
      obtain ⟨y, hyy⟩ : ∃ y, ys[k]?.getD 0 = y := ⟨_, rfl⟩
      rw [hxx] at q1 x0 x9
      rw [hyy] at q2 y0 y9
      have HS := hide (add_step xs ys d k c x y hxl hyl HDL.out hxx hyy HI.out)
      have EXX := hide hxx
      have EYY := hide hyy
      clear hxx hyy hxl hyl hdl
      go_wp2
      go_quiet (fail)
      go_wp2
      go_roundw
      case rel =>
        refine ⟨k + 1, _, d ++ [(x + y + c) % 10], rfl, by go_num, by omega, by omega, by omega, hide (by rw [List.length_append, HDL.out]; rfl), hide (ok_snoc HDO.out (by omega) (by omega)), HS, hide ?_⟩
        have e : (d ++ List.replicate (121 - k) (0 : Int)).set k ((x + y + c) % 10) = (d ++ [(x + y + c) % 10]) ++ List.replicate (121 - (k + 1)) 0 := by
          have h := set_next d (120 - k) ((x + y + c) % 10)
          rw [HDL.out, show 120 - k + 1 = 121 - k by omega] at h
          rw [h, show 121 - (k + 1) = 120 - k by omega]
        rw [← e]
        exact addst_set (addst_drewN HST.out _) k _
      case measure => simp [intOf]; omega
    · have hkk : k = 121 := by omega
      subst hkk
      have hc : c = 0 := by
        have h1 := HI.out
        have tx : xs.take 121 = xs := List.take_of_length_le (by rw [HX.out]; exact Nat.le_refl _)
        have ty : ys.take 121 = ys := List.take_of_length_le (by rw [HY.out]; exact Nat.le_refl _)
        rw [tx, ty] at h1
        have h2 := HSU.out
        exact pow_top (by rw [h1]; exact h2) (rval_bound d HDO.out).1 hc0
      subst hc
      have HVAL : Hid (rval d = rval xs + rval ys) := hide (by
        have h1 := HI.out
        have tx : xs.take 121 = xs := List.take_of_length_le (by rw [HX.out]; exact Nat.le_refl _)
        have ty : ys.take 121 = ys := List.take_of_length_le (by rw [HY.out]; exact Nat.le_refl _)
        rw [tx, ty, Int.mul_zero] at h1
        omega)
      have hst := HST.out
      rw [Nat.sub_self, List.replicate_zero, List.append_nil] at hst
      have h3 := hst.2.2.2.1
      have h4 := hst.2.2.2.2
      have HB := hide hst.1
      obtain ⟨R, hR⟩ : ∃ R, rowV d = R := ⟨_, rfl⟩
      rw [hR] at h4
      have hsz : (Tryd.prog.info? 41).map (·.size) = some R.size := by rw [← hR, rowV_size, HDL.out]; exact (zero_of_info z_info).2
      have hzz : Zs.size = R.size := by rw [← hR, rowV_size, HDL.out]; simp [Zs, rowV_size]
      have hall : R.all (·.oneCell') = true := by rw [← hR]; simp [rowV, Value.oneCell']
      have HR := hide hR
      clear hst hR HST HI
      go_wp2_with (first | (refine wpList_load_row rfl 41 _ rfl (w.heap.size + 1 + 1 + 1) rfl 41 _ (0, 0) _ h4 Tryd.underlying41 rfl hsz ?_) | (refine wpList_store_row rfl 41 _ _ rfl (w.heap.size + 1 + 1) _ rfl rfl 41 _ h3 hsz hzz hall ?_))
      exact bodyPost_ret (v := .agg R) (results_cell_row Tryd.results20 _ _ (w.heap.size + 1 + 1) 41 R (0, 0) _ rfl (setRow_heap wr _ _ R _ _ h3) Tryd.underlying41 rfl hsz) rfl ⟨d, HDL.out, HDO.out, HVAL.out, by rw [HR.out], below_setRow HB.out (by omega) R⟩
set_option maxRecDepth 100000 in
set_option maxHeartbeats 1000000 in
theorem i_lessRow (xs ys : List Int) (w : World) (hx : xs.length = 121) (hy : ys.length = 121) (ox : rowOK xs) (oy : rowOK ys) (hsum : rval ys ≤ rval xs) :
    Calls Tryd.prog 22 #[.agg (rowV xs), .agg (rowV ys)] w fun e w' => ∃ zs : List Int, zs.length = 121 ∧ rowOK zs ∧ rval zs = rval xs - rval ys ∧ e = .returned (.agg (rowV zs)) ∧ Below w.heap.size w w' := by
  have HX := hide hx
  have HY := hide hy
  have OX := hide ox
  have OY := hide oy
  have HSU := hide hsum
  have HST := hide (addst_new w xs ys)
  obtain ⟨X, hX⟩ : ∃ X, rowV xs = X := ⟨_, rfl⟩
  obtain ⟨Y, hY⟩ : ∃ Y, rowV ys = Y := ⟨_, rfl⟩
  rw [hX, hY]
  have EX := hide hX
  have EY := hide hY
  clear hx hy ox oy hX hY hsum
  have hz := z_zero
  go_enter Tryd.func22, Tryd.ntmps22
  go_wp2
  go_loopw [6, 9] (fun vc vi wr => ∃ (k : Nat) (c : Int) (d : List Int), vc = .int .u8 c ∧ vi = .int .i64 k ∧ k ≤ 121 ∧ 0 ≤ c ∧ c ≤ 1 ∧ Hid (d.length = k) ∧ Hid (rowOK d) ∧ Hid (rval d + rval (ys.take k) = rval (xs.take k) + 10 ^ k * c) ∧ Hid (AddSt w wr xs ys (d ++ List.replicate (121 - k) 0))) (fun _ vi _ => 121 - (intOf vi).toNat)
  case atStart => exact ⟨0, 0, [], rfl, rfl, by omega, by omega, by omega, hide rfl, hide (fun x hx => by cases hx), hide (by simp [rval]), hide (by have := HST.out; rw [EX.out, EY.out] at this; exact this)⟩
  case round =>
    clear HST hz
    obtain ⟨k, c, d, rfl, rfl, hk, hc0, hc1, HDL, HDO, HI, HST⟩ := hrel
    by_cases hlt : k < 121
    · have hxl : k < xs.length := by rw [HX.out]; exact hlt
      have hyl : k < ys.length := by rw [HY.out]; exact hlt
      have hdl : k < (d ++ List.replicate (121 - k) (0 : Int)).length := by rw [List.length_append, HDL.out, List.length_replicate]; omega
      obtain ⟨q1, q2, q3, q4⟩ := addst_cells HST.out k hxl hyl hdl
      obtain ⟨x0, x9⟩ := row_digit OX.out k hxl
      obtain ⟨y0, y9⟩ := row_digit OY.out k hyl
      obtain ⟨x, hxx⟩ : ∃ x, xs[k]?.getD 0 = x := ⟨_, rfl⟩
      obtain ⟨y, hyy⟩ : ∃ y, ys[k]?.getD 0 = y := ⟨_, rfl⟩
      rw [hxx] at q1 x0 x9
      rw [hyy] at q2 y0 y9
      have HS := hide (less_step xs ys d k c x y hxl hyl HDL.out hxx hyy HI.out)
      have EXX := hide hxx
      have EYY := hide hyy
      clear hxx hyy hxl hyl hdl
      go_wp2
      go_quiet (fail)
      go_wp2
      go_roundw
      case rel =>
        refine ⟨k + 1, _, d ++ [(10 + x - y - c) % 10], rfl, by go_num, by omega, by omega, by omega, hide (by rw [List.length_append, HDL.out]; rfl), hide (ok_snoc HDO.out (by omega) (by omega)), HS, hide ?_⟩
        have e : (d ++ List.replicate (121 - k) (0 : Int)).set k ((10 + x - y - c) % 10) = (d ++ [(10 + x - y - c) % 10]) ++ List.replicate (121 - (k + 1)) 0 := by
          have h := set_next d (120 - k) ((10 + x - y - c) % 10)
          rw [HDL.out, show 120 - k + 1 = 121 - k by omega] at h
          rw [h, show 121 - (k + 1) = 120 - k by omega]
        rw [← e]
        exact addst_set (addst_drewN HST.out _) k _
      case measure => simp [intOf]; omega
    · have hkk : k = 121 := by omega
      subst hkk
      have hc : c = 0 := by
        have h1 := HI.out
        have tx : xs.take 121 = xs := List.take_of_length_le (by rw [HX.out]; exact Nat.le_refl _)
        have ty : ys.take 121 = ys := List.take_of_length_le (by rw [HY.out]; exact Nat.le_refl _)
        rw [tx, ty] at h1
        have h2 := HSU.out
        have h3 := (rval_bound d HDO.out).2
        rw [HDL.out] at h3
        exact pow_top (v := rval xs - rval ys) (k := 121) (by rw [show rval xs - rval ys + 10 ^ 121 * c = rval d by omega]; exact h3) (by omega) hc0
      subst hc
      have HVAL : Hid (rval d = rval xs - rval ys) := hide (by
        have h1 := HI.out
        have tx : xs.take 121 = xs := List.take_of_length_le (by rw [HX.out]; exact Nat.le_refl _)
        have ty : ys.take 121 = ys := List.take_of_length_le (by rw [HY.out]; exact Nat.le_refl _)
        rw [tx, ty, Int.mul_zero] at h1
        omega)
      have hst := HST.out
      rw [Nat.sub_self, List.replicate_zero, List.append_nil] at hst
      have h3 := hst.2.2.2.1
      have h4 := hst.2.2.2.2
      have HB := hide hst.1
      obtain ⟨R, hR⟩ : ∃ R, rowV d = R := ⟨_, rfl⟩
      rw [hR] at h4
      have hsz : (Tryd.prog.info? 41).map (·.size) = some R.size := by rw [← hR, rowV_size, HDL.out]; exact (zero_of_info z_info).2
      have hzz : Zs.size = R.size := by rw [← hR, rowV_size, HDL.out]; simp [Zs, rowV_size]
      have hall : R.all (·.oneCell') = true := by rw [← hR]; simp [rowV, Value.oneCell']
      have HR := hide hR
      clear hst hR HST HI
      go_wp2_with (first | (refine wpList_load_row rfl 41 _ rfl (w.heap.size + 1 + 1 + 1) rfl 41 _ (0, 0) _ h4 Tryd.underlying41 rfl hsz ?_) | (refine wpList_store_row rfl 41 _ _ rfl (w.heap.size + 1 + 1) _ rfl rfl 41 _ h3 hsz hzz hall ?_))
      exact bodyPost_ret (v := .agg R) (results_cell_row Tryd.results22 _ _ (w.heap.size + 1 + 1) 41 R (0, 0) _ rfl (setRow_heap wr _ _ R _ _ h3) Tryd.underlying41 rfl hsz) rfl ⟨d, HDL.out, HDO.out, HVAL.out, by rw [HR.out], below_setRow HB.out (by omega) R⟩
end Go.Proofs.YtdglamiifcagoacDoor
