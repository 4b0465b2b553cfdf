/-
  Contract: two rows of digits brought to one scale and one length.
-/
import Derived.Test.YtdglamiifcagoabDoorDecTo
import Derived.Test.YtdglamiifcagoabDoorValMath
import Derived.OwnWalk
namespace Go.Proofs.YtdglamiifcagoabDoor
open Go.RowKit
set_option linter.unusedSimpArgs false
set_option linter.unusedVariables false
def strSz : Value → Nat | .string s => s.size | _ => 0
theorem one_size : (⟨#[48]⟩ : ByteArray).size = 1 := rfl
theorem add_k (k : Nat) (c : Int) : c + (k : Int) + 1 = c + ((k + 1 : Nat) : Int) := by omega
set_option maxHeartbeats 1000000 in
theorem s_same_d (n m : Bool) (s t : ByteArray) (c d : Int) (w : World) (hs : s.size ≤ 60) (ht : t.size ≤ 60) (hc0 : 0 ≤ c) (hc1 : c ≤ 60) (hd0 : 0 ≤ d) (hd1 : d ≤ 60) (hcd : c < d) :
    Calls Tryd.prog 18 #[.agg #[.bool n, .string s, .int .i64 c], .agg #[.bool m, .string t, .int .i64 d]] w fun e w' =>
      ∃ x y : ByteArray, x.size = y.size ∧ x.size ≤ 200 ∧ Padded x s (d - c).toNat ∧ Padded y t (d - d).toNat ∧ e = .returned (.tuple #[.string x, .string y, .int .i64 d]) ∧ Below w.heap.size w w' := by
  go_enter Tryd.func18, Tryd.ntmps18
  go_wp2
  go_loop [7, 10] (fun vx vi => ∃ (k : Nat) (x : ByteArray), vx = .string x ∧ vi = .int .i64 (c + k) ∧ c + k ≤ d ∧ x.size ≤ 130 ∧ Hid (x.size = s.size + k) ∧ Hid (x = s ++ zerosB k)) (fun _ vi => (d - intOf vi).toNat)
  case atStart => exact ⟨0, s, rfl, by simp, by omega, by omega, hide (by omega), hide (by rw [zerosB_0]; simp)⟩
  case round =>
    obtain ⟨k, x, rfl, rfl, hk, hx, HX, HXE⟩ := hrel
    by_cases hlt : c + k < d
    · have hz := snoc_zero s k
      rw [← HXE.out] at hz
      have HZ := hide hz
      clear hz
      go_wp2
      go_round
      case rel => exact ⟨k + 1, _, rfl, by rw [add_k], by omega, by rw [ByteArray.size_append, one_size, HX.out]; omega, hide (by rw [ByteArray.size_append, one_size, HX.out]; omega), HZ⟩
      case measure => simp [intOf]; omega
    · have hkk : k = (d - c).toNat := by omega
      have HP : Hid (Padded x s (d - c).toNat) := hide (by rw [HXE.out, hkk]; exact padded_start s _)
      clear hkk
      go_wp2
      go_loop [8, 11] (fun vx vi => ∃ (j : Nat) (y : ByteArray), vx = .string y ∧ vi = .int .i64 (d + j) ∧ d + j ≤ d ∧ y.size ≤ 130 ∧ Hid (y.size = t.size + j) ∧ Hid (y = t ++ zerosB j)) (fun _ vi => (d - intOf vi).toNat)
      case atStart => exact ⟨0, t, rfl, by simp, by omega, by omega, hide (by omega), hide (by rw [zerosB_0]; simp)⟩
      case round =>
        obtain ⟨j, y, rfl, rfl, hj, hy, HY, HYE⟩ := hrel
        by_cases hlt2 : d + j < d
        · omega
        · have hjj : j = (d - d).toNat := by omega
          have HQ : Hid (Padded y t (d - d).toNat) := hide (by rw [HYE.out, hjj]; exact padded_start t _)
          clear hjj
          go_wp2
          go_loop [7] (fun vx => ∃ x : ByteArray, vx = .string x ∧ x.size ≤ 130 ∧ Hid (Padded x s (d - c).toNat)) (fun vx => y.size - strSz vx)
          case atStart => exact ⟨x, rfl, hx, HP⟩
          case round =>
            clear HP
            obtain ⟨z, rfl, hz, HP⟩ := hrel
            by_cases hl3 : z.size < y.size
            · go_wp2
              go_round
              case rel => exact ⟨_, rfl, by rw [ByteArray.size_append, one_size]; omega, hide (padded_cons HP.out)⟩
              case measure => simp [strSz, ByteArray.size_append]; rw [one_size]; omega
            · go_wp2
              go_loop [8] (fun vy => ∃ y : ByteArray, vy = .string y ∧ y.size ≤ z.size ∧ Hid (Padded y t (d - d).toNat)) (fun vy => z.size - strSz vy)
              case atStart => exact ⟨y, rfl, by omega, HQ⟩
              case round =>
                clear HQ
                obtain ⟨u, rfl, hu, HQ⟩ := hrel
                by_cases hl4 : u.size < z.size
                · go_wp2
                  go_round
                  case rel => exact ⟨_, rfl, by rw [ByteArray.size_append, one_size]; omega, hide (padded_cons HQ.out)⟩
                  case measure => simp [strSz, ByteArray.size_append]; rw [one_size]; omega
                · go_wp2
                  go_ret3
                  exact ⟨z, u, by omega, by omega, by simpa using HP.out, by simpa using HQ.out, rfl, ((Below.refl _ _).alloc (Nat.le_refl _) _).alloc (by simp) _⟩
set_option maxHeartbeats 1000000 in
theorem s_same_c (n m : Bool) (s t : ByteArray) (c d : Int) (w : World) (hs : s.size ≤ 60) (ht : t.size ≤ 60) (hc0 : 0 ≤ c) (hc1 : c ≤ 60) (hd0 : 0 ≤ d) (hd1 : d ≤ 60) (hcd : d ≤ c) :
    Calls Tryd.prog 18 #[.agg #[.bool n, .string s, .int .i64 c], .agg #[.bool m, .string t, .int .i64 d]] w fun e w' =>
      ∃ x y : ByteArray, x.size = y.size ∧ x.size ≤ 200 ∧ Padded x s (c - c).toNat ∧ Padded y t (c - d).toNat ∧ e = .returned (.tuple #[.string x, .string y, .int .i64 c]) ∧ Below w.heap.size w w' := by
  go_enter Tryd.func18, Tryd.ntmps18
  go_wp2
  go_loop [7, 10] (fun vx vi => ∃ (k : Nat) (x : ByteArray), vx = .string x ∧ vi = .int .i64 (c + k) ∧ c + k ≤ c ∧ x.size ≤ 130 ∧ Hid (x.size = s.size + k) ∧ Hid (x = s ++ zerosB k)) (fun _ vi => (c - intOf vi).toNat)
  case atStart => exact ⟨0, s, rfl, by simp, by omega, by omega, hide (by omega), hide (by rw [zerosB_0]; simp)⟩
  case round =>
    obtain ⟨k, x, rfl, rfl, hk, hx, HX, HXE⟩ := hrel
    by_cases hlt : c + k < c
    · omega
    · have hkk : k = (c - c).toNat := by omega
      have HP : Hid (Padded x s (c - c).toNat) := hide (by rw [HXE.out, hkk]; exact padded_start s _)
      clear hkk
      go_wp2
      go_loop [8, 11] (fun vx vi => ∃ (j : Nat) (y : ByteArray), vx = .string y ∧ vi = .int .i64 (d + j) ∧ d + j ≤ c ∧ y.size ≤ 130 ∧ Hid (y.size = t.size + j) ∧ Hid (y = t ++ zerosB j)) (fun _ vi => (c - intOf vi).toNat)
      case atStart => exact ⟨0, t, rfl, by simp, by omega, by omega, hide (by omega), hide (by rw [zerosB_0]; simp)⟩
      case round =>
        obtain ⟨j, y, rfl, rfl, hj, hy, HY, HYE⟩ := hrel
        by_cases hlt2 : d + j < c
        · have hz := snoc_zero t j
          rw [← HYE.out] at hz
          have HZ := hide hz
          clear hz
          go_wp2
          go_round
          case rel => exact ⟨j + 1, _, rfl, by rw [add_k], by omega, by rw [ByteArray.size_append, one_size, HY.out]; omega, hide (by rw [ByteArray.size_append, one_size, HY.out]; omega), HZ⟩
          case measure => simp [intOf]; omega
        · have hjj : j = (c - d).toNat := by omega
          have HQ : Hid (Padded y t (c - d).toNat) := hide (by rw [HYE.out, hjj]; exact padded_start t _)
          clear hjj
          go_wp2
          go_loop [7] (fun vx => ∃ x : ByteArray, vx = .string x ∧ x.size ≤ 130 ∧ Hid (Padded x s (c - c).toNat)) (fun vx => y.size - strSz vx)
          case atStart => exact ⟨x, rfl, hx, HP⟩
          case round =>
            clear HP
            obtain ⟨z, rfl, hz, HP⟩ := hrel
            by_cases hl3 : z.size < y.size
            · go_wp2
              go_round
              case rel => exact ⟨_, rfl, by rw [ByteArray.size_append, one_size]; omega, hide (padded_cons HP.out)⟩
              case measure => simp [strSz, ByteArray.size_append]; rw [one_size]; omega
            · go_wp2
              go_loop [8] (fun vy => ∃ y : ByteArray, vy = .string y ∧ y.size ≤ z.size ∧ Hid (Padded y t (c - d).toNat)) (fun vy => z.size - strSz vy)
              case atStart => exact ⟨y, rfl, by omega, HQ⟩
              case round =>
                clear HQ
                obtain ⟨u, rfl, hu, HQ⟩ := hrel
                by_cases hl4 : u.size < z.size
                · go_wp2
                  go_round
                  case rel => exact ⟨_, rfl, by rw [ByteArray.size_append, one_size]; omega, hide (padded_cons HQ.out)⟩
                  case measure => simp [strSz, ByteArray.size_append]; rw [one_size]; omega
                · go_wp2
                  go_ret3
                  exact ⟨z, u, by omega, by omega, by simpa using HP.out, by simpa using HQ.out, rfl, ((Below.refl _ _).alloc (Nat.le_refl _) _).alloc (by simp) _⟩
theorem s_same (n m : Bool) (s t : ByteArray) (c d : Int) (w : World) (hs : s.size ≤ 60) (ht : t.size ≤ 60) (hc0 : 0 ≤ c) (hc1 : c ≤ 60) (hd0 : 0 ≤ d) (hd1 : d ≤ 60) :
    Calls Tryd.prog 18 #[.agg #[.bool n, .string s, .int .i64 c], .agg #[.bool m, .string t, .int .i64 d]] w fun e w' =>
      ∃ x y : ByteArray, x.size = y.size ∧ x.size ≤ 200 ∧ Padded x s (max c d - c).toNat ∧ Padded y t (max c d - d).toNat ∧ e = .returned (.tuple #[.string x, .string y, .int .i64 (max c d)]) ∧ Below w.heap.size w w' := by
  by_cases h : c < d
  · rw [show max c d = d by omega]; exact s_same_d n m s t c d w hs ht hc0 hc1 hd0 hd1 h
  · rw [show max c d = c by omega]; exact s_same_c n m s t c d w hs ht hc0 hc1 hd0 hd1 (by omega)
end Go.Proofs.YtdglamiifcagoabDoor
