/-
  Contracts of the laws' helpers on rows of expression nodes: the marks, and that they stand.
-/
import Derived.Test.YtckemldmdgmjjaaDoorLiO
namespace Go.Proofs.YtckemldmdgmjjaaDoor
open Go.RowKit Go.Joins
set_option linter.unusedVariables false
set_option linter.unusedSimpArgs false
/-- The first i ranges have their marks. -/
def mkR (k : Int) (L : List (Int × Int)) (i : Nat) : List (Int × Int) := L.mapIdx fun j p => if j < i then (k + 2 * (j : Int), k + 2 * (j : Int) + 1) else p
theorem mkR_len (k : Int) (L : List (Int × Int)) (i : Nat) : (mkR k L i).length = L.length := by unfold mkR; simp
theorem mkR_zero (k : Int) (L : List (Int × Int)) : mkR k L 0 = L := by
  unfold mkR
  apply List.ext_getElem?
  intro j
  rw [List.getElem?_mapIdx]
  cases L[j]? <;> simp
theorem mkR_next (k : Int) (L : List (Int × Int)) (i : Nat) : (mkR k L i).set i (k + 2 * (i : Int), k + 2 * (i : Int) + 1) = mkR k L (i + 1) := by
  unfold mkR
  apply List.ext_getElem?
  intro j
  rw [List.getElem?_mapIdx]
  by_cases e : i = j
  · subst e
    by_cases h : i < L.length
    · rw [List.getElem?_set_self (by simpa using h), List.getElem?_eq_getElem h]
      simp
    · rw [List.getElem?_eq_none (by simp; omega), List.getElem?_eq_none (by omega)]
      rfl
  · rw [List.getElem?_set_ne e, List.getElem?_mapIdx]
    cases L[j]? with
    | none => rfl
    | some p =>
      have : (j < i) ↔ (j < i + 1) := by omega
      simp only [Option.map_some, this]
theorem mkR_at {k : Int} {L : List (Int × Int)} {i : Nat} (h : i < L.length) : (mkR k L L.length)[i]? = some (k + 2 * (i : Int), k + 2 * (i : Int) + 1) := by
  unfold mkR
  rw [List.getElem?_mapIdx, List.getElem?_eq_getElem h]
  simp [h]
set_option maxHeartbeats 2000000 in
theorem l_markRs (kad : Option Addr) (n kc : Nat) (L : List (Int × Int)) (k0 : Int) (w : World) (hL : L.length = n) (hn : n ≤ 100) (h0 : 1 ≤ k0) (h1 : k0 ≤ 100000) (ho : w.ownsRow 0 35 2 (.slice kad n kc) n (prV L)) :
    Calls Tryd.prog 13 #[.slice kad n kc, .int .i64 k0] w fun e w' => e = .returned (.int .i64 (k0 + 2 * (n : Int))) ∧ w'.ownsRow 0 35 2 (.slice kad n kc) n (prV (mkR k0 L n)) ∧ Kp (fun j => (Value.slice kad n kc).ownBlock = some j) w w' := by
  have HO : Hid (w.ownsRow 0 35 2 (.slice kad n kc) n (prV (mkR k0 L 0))) := hide (by rw [mkR_zero]; exact ho)
  clear ho
  go_enter Tryd.func13, Tryd.ntmps13
  go_wp2_with fail
  go_loopw [1, 5] (fun kv iv wr => ∃ i : Nat, i ≤ n ∧ iv = .int .i64 i ∧ kv = .int .i64 (k0 + 2 * (i : Int)) ∧ Hid (wr.ownsRow 0 35 2 (.slice kad n kc) n (prV (mkR k0 L i))) ∧ Hid (Kp (fun j => (Value.slice kad n kc).ownBlock = some j) w wr)) (fun _ iv _ => n - (intOf iv).toNat)
  case atStart => exact ⟨0, Nat.zero_le _, rfl, by simp, HO, hide (Kp.refl _ _)⟩
  case round =>
    clear HO
    obtain ⟨i, hi, rfl, rfl, HO, HK⟩ := hrel
    by_cases hlt : i < n
    · have hii : (i : Int) < (n : Int) := by omega
      obtain ⟨g, cap, hv, -, hg⟩ := HO.out.form (by omega)
      simp only [Value.slice.injEq] at hv
      obtain ⟨rfl, -, rfl⟩ := hv
      have hp := prV_at (mkR k0 L i) i _ (List.getElem?_eq_getElem (by rw [mkR_len]; omega))
      have c1 := (HO.out.cellAt (i * 2) (by omega)).trans hp.1
      have c2 := (HO.out.cellAt (i * 2 + 1) (by omega)).trans hp.2
      have f1 := HO.out.frozenAt (i * 2)
      have f2 := HO.out.frozenAt (i * 2 + 1)
      have HO2 := hide ((HO.out.stored (i * 2) (.int .i64 (k0 + 2 * (i : Int)))).1.stored (i * 2 + 1) (.int .i64 (k0 + 2 * (i : Int) + 1))).1
      rw [prV_set, mkR_next] at HO2
      clear hp HO
      go_wp2
      go_roundw
      case rel =>
        refine ⟨i + 1, by omega, by go_num, by go_num, HO2, hide ((HK.out.trans (kp_set (S := fun j => j = g) _ _ _ rfl) (fun j _ hj => by rw [hj]; rfl)).trans (kp_set (S := fun j => j = g) _ _ _ rfl) (fun j _ hj => by rw [hj]; rfl))⟩
      case measure => simp [intOf]; omega
    · have hin : i = n := by omega
      subst hin
      have hii : ¬ (i : Int) < (i : Int) := by omega
      go_wp2
      go_ret
      exact ⟨rfl, HO.out, HK.out⟩
set_option maxHeartbeats 2000000 in
theorem l_heldRs (kad : Option Addr) (n kc : Nat) (L : List (Int × Int)) (k0 : Int) (w : World) (hL : L.length = n) (hn : n ≤ 100) (h0 : 1 ≤ k0) (h1 : k0 ≤ 100000) (ho : w.ownsRow 0 35 2 (.slice kad n kc) n (prV (mkR k0 L n))) :
    Calls Tryd.prog 14 #[.slice kad n kc, .int .i64 k0] w fun e w' => e = .returned (.int .i64 (k0 + 2 * (n : Int))) ∧ w' = w := by
  have HO := hide ho
  clear ho
  go_enter Tryd.func14, Tryd.ntmps14
  go_wp2_with fail
  go_loopw [1, 5] (fun kv iv wr => ∃ i : Nat, i ≤ n ∧ iv = .int .i64 i ∧ kv = .int .i64 (k0 + 2 * (i : Int)) ∧ wr = w) (fun _ iv _ => n - (intOf iv).toNat)
  case atStart => exact ⟨0, Nat.zero_le _, rfl, by simp, rfl⟩
  case round =>
    obtain ⟨i, hi, rfl, rfl, rfl⟩ := hrel
    by_cases hlt : i < n
    · have hii : (i : Int) < (n : Int) := by omega
      obtain ⟨g, cap, hv, -, hg⟩ := HO.out.form (by omega)
      simp only [Value.slice.injEq] at hv
      obtain ⟨rfl, -, rfl⟩ := hv
      have hp := prV_at (mkR k0 L n) i (k0 + 2 * (i : Int), k0 + 2 * (i : Int) + 1) (by rw [← hL]; exact mkR_at (by omega))
      have c1 := (HO.out.cellAt (i * 2) (by omega)).trans hp.1
      have c2 := (HO.out.cellAt (i * 2 + 1) (by omega)).trans hp.2
      simp only at c1 c2
      clear hp
      go_wp2
      go_roundw
      case rel => exact ⟨i + 1, by omega, by go_num, by go_num, by first | rfl | trivial⟩
      case measure => simp [intOf]; omega
    · have hin : i = n := by omega
      subst hin
      have hii : ¬ (i : Int) < (i : Int) := by omega
      go_wp2
      go_ret
      exact ⟨rfl, rfl⟩
end Go.Proofs.YtckemldmdgmjjaaDoor
