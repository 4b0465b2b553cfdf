/-
  Contracts: which texts are paths, by the specification and by the program; the walk of the law.
-/
import Derived.Test.YtlmjmemanmkkfaaDoorPtI
namespace Go.Proofs.YtlmjmemanmkkfaaDoor
open Go.RowKit
set_option linter.unusedVariables false
set_option linter.unusedSimpArgs false
theorem route_s (s : ByteArray) : routeB s = (allN (restS s).data.toList && decide (cntN (restS s).data.toList ≤ 6) && decide (s.size ≤ 20000)) := by
  obtain ⟨h1, h2⟩ := rest_same s
  unfold routeB
  cases h : allN (restL s.data.toList)
  · rw [h1, h]; simp
  · obtain ⟨h3, -⟩ := h2 h
    rw [h3, h]
    cases decide (s.size ≤ 20000) <;> cases decide (cntN (restL s.data.toList) ≤ 6) <;> rfl
set_option maxHeartbeats 1000000 in
theorem s_path (s : ByteArray) (w : World) (hs : s.size ≤ 1048576) : Calls Tryd.prog 5 #[.string s] w fun e w' => e = .returned (.bool (routeB s)) ∧ Below w.heap.size w w' := by
  have C := hide (s_steps s w hs)
  have HR := hide (route_s s)
  cases ha : allN (restS s).data.toList
  · have HF : Hid (routeB s = false) := hide (by rw [HR.out, ha]; rfl)
    have HA := hide ha
    clear ha
    go_enter Tryd.func5, Tryd.ntmps5
    go_wp2_with fail
    refine C.out.mono ?_
    rintro e w2 ⟨hb, h | ⟨-, rfl⟩⟩
    · exact absurd (HA.out.symm.trans h.1) (by decide)
    have HB := hide hb
    clear hb
    go_wp2
    go_ret
    exact ⟨ret_bool HF.out.symm, HB.out⟩
  · have HA := hide ha
    rw [ha] at HR
    clear ha
    obtain ⟨m, hm⟩ : ∃ m, cntN (restS s).data.toList = m := ⟨_, rfl⟩
    have HMM := hide hm
    clear hm
    by_cases h6 : m ≤ 6
    all_goals
      by_cases h2 : s.size ≤ 20000
      all_goals
        have h2i : (s.size : Int) ≤ 20000 ∨ (20000 : Int) < s.size := by omega
        go_enter Tryd.func5, Tryd.ntmps5
        go_wp2_with fail
        refine C.out.mono ?_
        rintro e w2 ⟨hb, ⟨-, ad, c, rfl, -⟩ | h⟩
        rotate_left
        · exact absurd (HA.out.symm.trans h.1) (by decide)
        rw [HMM.out] at HR ⊢
        have HB := hide hb
        clear hb
        first | rw [decide_eq_true h6] at HR ⊢ | rw [decide_eq_false h6] at HR ⊢
        first | rw [decide_eq_true h2] at HR | rw [decide_eq_false h2] at HR
        go_wp2
        go_ret
        refine ⟨ret_bool ?_, HB.out⟩
        rw [HR.out]
        first | rfl | (simp; omega)
set_option maxHeartbeats 1000000 in
theorem i_path (s : ByteArray) (w : World) (hs : s.size ≤ 1048576) (hM : MaxL w) : Calls Tryd.prog 6 #[.string s] w fun e w' => e = .returned (.bool (routeB s)) ∧ Below w.heap.size w w' := by
  have C := hide (i_route s w hs hM)
  clear hM
  go_enter Tryd.func6, Tryd.ntmps6
  go_wp2_with fail
  refine C.out.mono ?_
  rintro e w2 ⟨hb, ⟨hy, ad, c, rfl, -⟩ | ⟨hy, rfl⟩⟩
  all_goals
    have HB := hide hb
    have HY := hide hy
    clear hb hy
    go_wp2
    go_ret
    exact ⟨ret_bool HY.out.symm, HB.out.alloc HB.out.size _⟩
set_option maxHeartbeats 1000000 in
theorem path_walk (s : ByteArray) (w : World) (hs : s.size ≤ maxLen) (hM : MaxL w) :
    Calls Tryd.prog 3 #[.string s] w fun e w' => e = .returned (.bool true) ∧ Below w.heap.size w w' := by
  unfold maxLen at hs
  have HM := hide hM
  clear hM
  by_cases hbig : s.size ≤ 1048576
  · have hb2 : (s.size : Int) ≤ 1048576 := by omega
    have C1 := hide (s_path s w hbig)
    obtain ⟨v, hv⟩ : ∃ v, routeB s = v := ⟨_, rfl⟩
    have C2 : Hid (∀ w2, MaxL w2 → Calls Tryd.prog 6 #[.string s] w2 fun e w' => e = .returned (.bool v) ∧ Below w2.heap.size w2 w') := hide fun w2 h => by rw [← hv]; exact i_path s w2 hbig h
    rw [hv] at C1
    clear hv
    go_enter Tryd.func3, Tryd.ntmps3
    go_wp2_with fail
    refine C1.out.mono ?_
    rintro e w2 ⟨rfl, hb⟩
    have HB := hide hb
    have HM2 := hide (maxL_go HM.out hb (Nat.le_refl _))
    clear hb
    go_wp2_with fail
    refine (C2.out _ HM2.out).mono ?_
    rintro e w3 ⟨rfl, hb3⟩
    have HB3 := hide (HB.out.trans (hb3.mono HB.out.size))
    clear hb3
    cases v
    all_goals
      go_wp2
      go_ret
      exact ⟨rfl, HB3.out⟩
  · have hb2 : (1048576 : Int) < s.size := by omega
    go_enter Tryd.func3, Tryd.ntmps3
    go_wp2
    go_ret
    exact ⟨rfl, Below.refl _ _⟩
end Go.Proofs.YtlmjmemanmkkfaaDoor
