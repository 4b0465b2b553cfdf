/-
  Contract: the program's comparison of numbers.
-/
import Derived.Test.YtdglamiifcagoacDoorRowI
import Derived.Test.YtdglamiifcagoacDoorCmpS
import Derived.RegionTactic
import Derived.Deep.QuietTactic
import Derived.BigQuiet
import Derived.Deep.Draws
namespace Go.Proofs.YtdglamiifcagoacDoor
open Go.RowKit
set_option linter.unusedSimpArgs false
set_option linter.unusedVariables false
theorem below_drewN {B : Nat} {a w : World} (h : Below B a w) (n : Nat) : Below B a (w.drewN n) := h.trans ⟨rfl, rfl, rfl, Nat.le_refl _, fun _ _ => rfl⟩
theorem new_cells (w : World) (xs : List Int) (T : TypeId) (i : Nat) (hi : i < xs.length) : (w.alloc (.cells (rowV xs) T)).cell? ⟨w.heap.size, i, none⟩ = some (.int .u8 (xs[i]?.getD 0)) := by
  rw [cell_of_row _ w.heap.size i _ T (0, 0) (heap_alloc_new w _), rowV_get xs i hi]
set_option maxHeartbeats 1000000 in
theorem i_cmpRows (xs ys : List Int) (w : World) (hx : xs.length = 121) (hy : ys.length = 121) (ox : rowOK xs) (oy : rowOK ys) :
    Calls Tryd.prog 21 #[.agg (rowV xs), .agg (rowV ys)] w fun e w' => e = .returned (.int .i64 (cmpI (rval xs) (rval ys))) ∧ Below w.heap.size w w' := by
  have HX := hide hx
  have HY := hide hy
  have OX := hide ox
  have OY := hide oy
  obtain ⟨X, hX⟩ : ∃ X, rowV xs = X := ⟨_, rfl⟩
  obtain ⟨Y, hY⟩ : ∃ Y, rowV ys = Y := ⟨_, rfl⟩
  rw [hX, hY]
  have hcx : Hid (∀ i, i < 121 → ((w.alloc (.cells X 41)).alloc (.cells Y 41)).cell? ⟨w.heap.size, i, none⟩ = some (.int .u8 (xs[i]?.getD 0))) := hide (fun i hi => by
    rw [((Below.refl (w.alloc (.cells X 41)).heap.size (w.alloc (.cells X 41))).alloc (Nat.le_refl _) (.cells Y 41)).cell (p := ⟨w.heap.size, i, none⟩) (by simp), ← hX]
    exact new_cells w xs _ i (by omega))
  have hcy : Hid (∀ i, i < 121 → ((w.alloc (.cells X 41)).alloc (.cells Y 41)).cell? ⟨w.heap.size + 1, i, none⟩ = some (.int .u8 (ys[i]?.getD 0))) := hide (fun i hi => by
    have := new_cells (w.alloc (.cells X 41)) ys 41 i (by omega)
    rw [hY] at this
    simpa using this)
  clear hx hy ox oy hX hY
  go_enter Tryd.func21, Tryd.ntmps21
  go_wp2
  go_loopw [5] (fun vi wr => ∃ k : Nat, k ≤ 121 ∧ vi = .int .i64 ((k : Int) - 1) ∧ Hid (Below w.heap.size w wr) ∧ Hid (∀ i, i < 121 → wr.cell? ⟨w.heap.size, i, none⟩ = some (.int .u8 (xs[i]?.getD 0))) ∧ Hid (∀ i, i < 121 → wr.cell? ⟨w.heap.size + 1, i, none⟩ = some (.int .u8 (ys[i]?.getD 0))) ∧ Hid (∀ j, k ≤ j → j < 121 → xs[j]?.getD 0 = ys[j]?.getD 0)) (fun vi _ => (intOf vi + 1).toNat)
  case atStart => exact ⟨121, Nat.le_refl _, rfl, hide (((Below.refl _ _).alloc (Nat.le_refl _) _).alloc (by simp) _), hcx, hcy, hide (fun j h1 h2 => by omega)⟩
  case round =>
    obtain ⟨k, hk, rfl, HB, HCX, HCY, HE⟩ := hrel
    clear hcx hcy
    by_cases hlt : 1 ≤ k
    · obtain ⟨i, rfl⟩ : ∃ i, k = i + 1 := ⟨k - 1, by omega⟩
      have hc1 := HCX.out i (by omega)
      have hc2 := HCY.out i (by omega)
      obtain ⟨x, hx⟩ : ∃ x, xs[i]?.getD 0 = x := ⟨_, rfl⟩
      obtain ⟨y, hy⟩ : ∃ y, ys[i]?.getD 0 = y := ⟨_, rfl⟩
      rw [hx] at hc1
      rw [hy] at hc2
      have EX := hide hx
      have EY := hide hy
      clear hx hy
      have hii : ((i + 1 : Nat) : Int) - 1 = (i : Int) := by omega
      have HK := hide hlt
      clear hlt
      rcases Int.lt_trichotomy x y with hxy | hxy | hxy
      · have HL := hide (rval_lt xs ys i (by rw [HX.out, HY.out]) OX.out OY.out (by rw [HX.out]; omega) (by rw [EX.out, EY.out]; exact hxy) (fun j h1 h2 => HE.out j (by omega) (by rw [HX.out] at h2; exact h2)))
        go_wp2
        go_quiet (fail)
        go_wp2
        go_ret
        exact ⟨ret_int (cmpI_lt HL.out).symm, below_drewN HB.out _⟩
      · subst hxy
        go_wp2
        go_quiet (fail)
        go_wp2
        go_quiet (fail)
        go_wp2
        go_roundw
        case rel => exact ⟨i, by omega, by go_num, below_drewN HB.out _, HCX, HCY, hide (fun j h1 h2 => by
          by_cases e : j = i
          · subst e; rw [EX.out, EY.out]
          · exact HE.out j (by omega) h2)⟩
        case measure => simp [intOf]
      · have HL := hide (rval_lt ys xs i (by rw [HX.out, HY.out]) OY.out OX.out (by rw [HY.out]; omega) (by rw [EX.out, EY.out]; exact hxy) (fun j h1 h2 => (HE.out j (by omega) (by rw [HY.out] at h2; exact h2)).symm))
        go_wp2
        go_quiet (fail)
        go_wp2
        go_quiet (fail)
        go_wp2
        go_ret
        exact ⟨ret_int (cmpI_gt HL.out).symm, below_drewN (below_drewN HB.out _) _⟩
    · have hk0 : k = 0 := by omega
      subst hk0
      have HL := hide (rval_eq xs ys (by rw [HX.out, HY.out]) (fun j h => HE.out j (Nat.zero_le _) (by rw [HX.out] at h; exact h)))
      go_wp2
      go_ret
      exact ⟨ret_int (cmpI_eq HL.out).symm, HB.out⟩
end Go.Proofs.YtdglamiifcagoacDoor
