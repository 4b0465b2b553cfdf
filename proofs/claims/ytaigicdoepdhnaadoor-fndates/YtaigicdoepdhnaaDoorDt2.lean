/-
  Contracts: the text of a zone, and of a date: the specification's and the program's.
-/
import Derived.Test.YtaigicdoepdhnaaDoorDt1
namespace Go.Proofs.YtaigicdoepdhnaaDoor
open Go.RowKit Go.Joins
set_option linter.unusedVariables false
set_option linter.unusedSimpArgs false
set_option maxHeartbeats 400000 in
theorem i_ztext (y mo d h mi s : Int) (g : Bool) (z : Int) (w : World) (h0 : -840 ≤ z) (h1 : z ≤ 840) (htab : Lib.TabIs Tryd.prog w "internal/strconv.uint64pow10" .u64 Lib.pow10Tab) : Calls Tryd.prog 16 #[.agg #[.int .i64 y, .int .i64 mo, .int .i64 d, .int .i64 h, .int .i64 mi, .int .i64 s, .bool g, .int .i64 z]] w fun e w' => e = .returned (.string (zoneB g z)) ∧ Below w.heap.size w w' := by
  have HT := hide (tab_go htab (below_box w (.cells #[.int .i64 y, .int .i64 mo, .int .i64 d, .int .i64 h, .int .i64 mi, .int .i64 s, .bool g, .int .i64 z] 25)))
  clear htab
  cases g
  · go_enter Tryd.func16, Tryd.ntmps16
    go_wp2
    go_ret
    exact ⟨ret_st (by simp [zoneB]), below_box _ _⟩
  · rcases (show z = 0 ∨ z < 0 ∨ 0 < z by omega) with hz | hz | hz
    · subst hz
      go_enter Tryd.func16, Tryd.ntmps16
      go_wp2
      go_ret
      exact ⟨ret_st (by simp [zoneB]; rfl), below_box _ _⟩
    · obtain ⟨u, rfl⟩ : ∃ u, z = -u := ⟨-z, by omega⟩
      have u0 : 0 < u := by omega
      have u1 : u ≤ 840 := by omega
      have e0 : (-u == 0) = false := by simp; omega
      obtain ⟨x, hx⟩ : ∃ x, clockB (u / 60) (u % 60) = x := ⟨_, rfl⟩
      have sx : x.size ≤ 5 := by rw [← hx, clock_size]; omega
      have HX := hide hx
      clear hx
      go_enter Tryd.func16, Tryd.ntmps16
      go_wp2_with fail
      first
        | refine (i_clock (u / 60) (u % 60) _ (by omega) (by omega) (by omega) (by omega) HT.out).mono ?_
        | (trace_state; fail)
      rintro e w1 ⟨rfl, hb1⟩
      rw [HX.out]
      have HB1 := hide (box_below hb1)
      clear hb1
      go_wp2
      go_ret
      exact ⟨ret_st (by simp only [zoneB, Bool.true_eq_false, if_false]; rw [if_neg (by omega), if_pos (by omega), Int.neg_neg, HX.out]; rfl), HB1.out⟩
    · have e0 : (z == 0) = false := by simp; omega
      have e1 : ¬ z < 0 := by omega
      obtain ⟨x, hx⟩ : ∃ x, clockB (z / 60) (z % 60) = x := ⟨_, rfl⟩
      have sx : x.size ≤ 5 := by rw [← hx, clock_size]; omega
      have HX := hide hx
      clear hx
      go_enter Tryd.func16, Tryd.ntmps16
      go_wp2_with fail
      refine (i_clock (z / 60) (z % 60) _ (by omega) (by omega) (by omega) (by omega) HT.out).mono ?_
      rintro e w1 ⟨rfl, hb1⟩
      rw [HX.out]
      have HB1 := hide (box_below hb1)
      clear hb1
      go_wp2
      go_ret
      exact ⟨ret_st (by simp only [zoneB, Bool.true_eq_false, if_false]; rw [if_neg (by omega), if_neg (by omega), HX.out]; rfl), HB1.out⟩
end Go.Proofs.YtaigicdoepdhnaaDoor
