/-
  Contracts: which texts are paths, by the specification and by the program; the walk of the law.
-/
import Derived.Test.YtkfhhgfmjkjldaaDoorPtI
namespace Go.Proofs.YtkfhhgfmjkjldaaDoor
open Go.RowKit
set_option linter.unusedVariables false
set_option linter.unusedSimpArgs false
theorem route_s (s : ByteArray) : routeB s = (allN (restS s).data.toList && decide (cntN (restS s).data.toList ≤ 6) && decide (s.size ≤ 20000)) := by
  obtain ⟨h1, h2⟩ := rest_same s
  unfold routeB
  cases h : allN (restL s.data.toList)
  · rw [h1, h]; simp
  · obtain ⟨h3, -⟩ := h2 h
    rw [h3, h]
    cases decide (s.size ≤ 20000) <;> cases decide (cntN (restL s.data.toList) ≤ 6) <;> rfl
set_option maxHeartbeats 1000000 in
theorem s_path (s : ByteArray) (w : World) (hs : s.size ≤ 1048576) : Calls Tryd.prog 12 #[.string s] w fun e w' => e = .returned (.bool (routeB s)) ∧ Below w.heap.size w w' := by
  have C := hide (s_steps s w hs)
  have HR := hide (route_s s)
  cases ha : allN (restS s).data.toList
  · have HF : Hid (routeB s = false) := hide (by rw [HR.out, ha]; rfl)
    have HA := hide ha
    clear ha
    go_enter Tryd.func12, Tryd.ntmps12
    go_wp2_with fail
    refine C.out.mono ?_
    rintro e w2 ⟨hb, h | ⟨-, rfl⟩⟩
    · exact absurd (HA.out.symm.trans h.1) (by decide)
    have HB := hide hb
    clear hb
    go_wp2
    go_ret
    exact ⟨ret_bool HF.out.symm, HB.out⟩
  · have HA := hide ha
    rw [ha] at HR
    clear ha
    obtain ⟨m, hm⟩ : ∃ m, cntN (restS s).data.toList = m := ⟨_, rfl⟩
    have HMM := hide hm
    clear hm
    by_cases h6 : m ≤ 6
    all_goals
      by_cases h2 : s.size ≤ 20000
      all_goals
        have h2i : (s.size : Int) ≤ 20000 ∨ (20000 : Int) < s.size := by omega
        go_enter Tryd.func12, Tryd.ntmps12
        go_wp2_with fail
        refine C.out.mono ?_
        rintro e w2 ⟨hb, ⟨-, ad, c, rfl, -⟩ | h⟩
        rotate_left
        · exact absurd (HA.out.symm.trans h.1) (by decide)
        rw [HMM.out] at HR ⊢
        have HB := hide hb
        clear hb
        first | rw [decide_eq_true h6] at HR ⊢ | rw [decide_eq_false h6] at HR ⊢
        first | rw [decide_eq_true h2] at HR | rw [decide_eq_false h2] at HR
        go_wp2
        go_ret
        refine ⟨ret_bool ?_, HB.out⟩
        rw [HR.out]
        first | rfl | (simp; omega)
end Go.Proofs.YtkfhhgfmjkjldaaDoor
