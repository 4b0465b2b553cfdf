/-
  Contract: whether a number is in a row, by the specification.
-/
import Derived.Test.YtfohfljdgmlibaaDoorEdS
namespace Go.Proofs.YtfohfljdgmlibaaDoor
open Go.RowKit Go.Joins
set_option linter.unusedVariables false
set_option linter.unusedSimpArgs false
set_option maxHeartbeats 2000000 in
theorem s_has (ad : Option Addr) (n c : Nat) (L : List Int) (z : Int) (w : World) (hn : L.length = n) (hx : n ≤ 1048576) (hr : RowAt .i64 w ad L w.heap.size) :
    Calls Tryd.prog 49 #[.slice ad n c, .int .i64 z] w fun r w' => r = .returned (.bool (decide (z ∈ L))) ∧ w' = w := by
  have HN := hide hn
  have HR := hide hr
  clear hr hn
  go_enter Tryd.func49, Tryd.ntmps49
  go_wp2
  go_loopw [5] (fun mv wr => ∃ (m : Nat), m ≤ n ∧ mv = .int .i64 m ∧ Hid (wr = w) ∧ Hid (∀ j, j < m → L[j]?.getD 0 ≠ z)) (fun mv _ => n - (intOf mv).toNat)
  case atStart => exact ⟨0, Nat.zero_le _, rfl, hide rfl, hide (fun j hj => by omega)⟩
  case round =>
    obtain ⟨m, hm, rfl, HW, HA⟩ := hrel
    by_cases hlt : m < n
    · obtain ⟨b, off, rfl, hb, hc⟩ := rowAt_cell HR.out m (by rw [HN.out]; exact hlt)
      have k0 : wr.cell? ⟨b, off + m, none⟩ = some (.int .i64 (L[m]?.getD 0)) := by rw [HW.out]; exact hc m (by rw [HN.out]; exact hlt)
      have hmL : m < L.length := by rw [HN.out]; exact hlt
      have HMM : Hid (L[m]?.getD 0 ∈ L) := hide (by rw [List.getElem?_eq_getElem hmL]; exact List.getElem_mem hmL)
      obtain ⟨v, hv⟩ : ∃ v, L[m]?.getD 0 = v := ⟨_, rfl⟩
      have HV := hide hv
      rw [hv] at k0 HMM
      have hmi : (m : Int) < (n : Int) := by omega
      have hm0 : (0 : Int) ≤ (m : Int) := by omega
      clear hc hv hmL
      by_cases he : v = z
      · have HD : Hid (decide (z ∈ L) = true) := hide (decide_eq_true (he ▸ HMM.out))
        subst he
        go_wp2
        go_ret
        exact ⟨ret_bool HD.out.symm, HW.out⟩
      · have heq : (v == z) = false := by rw [beq_eq_false_iff_ne]; exact he
        have HA2 : Hid (∀ j, j < m + 1 → L[j]?.getD 0 ≠ z) := hide (fun j hj => by
          by_cases e : j = m
          · subst e; rw [HV.out]; exact he
          · exact HA.out j (by omega))
        clear he
        go_wp2
        go_roundw
        case rel => exact ⟨m + 1, by omega, by go_num, HW, HA2⟩
        case measure => simp [intOf]; omega
    · have HD : Hid (decide (z ∈ L) = false) := hide (decide_eq_false (fun h => by
        obtain ⟨j, hj, e⟩ := List.mem_iff_getElem.1 h
        exact HA.out j (by rw [HN.out] at hj; omega) (by rw [List.getElem?_eq_getElem hj]; exact e)))
      go_wp2
      go_ret
      exact ⟨ret_bool HD.out.symm, HW.out⟩
end Go.Proofs.YtfohfljdgmlibaaDoor
