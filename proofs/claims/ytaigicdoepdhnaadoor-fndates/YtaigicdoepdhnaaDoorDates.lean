/-
  Contracts: what the specification's and the program's DateOk answer at every date; nothing old has turned.
-/
import Derived.Test.YtaigicdoepdhnaaDoorDays
import Derived.Deep.QuietTactic
import Derived.BigQuiet
namespace Go.Proofs.YtaigicdoepdhnaaDoor
open Go.RowKit
set_option linter.unusedSimpArgs false
set_option linter.unusedVariables false
/-- A right date. -/
def dateB (y mo d h mi s : Int) (g : Bool) (z : Int) : Bool :=
  inB 1 y 9999 && (inB 1 mo 12 && (inB 1 d (dim y mo) && (inB 0 h 23 && (inB 0 mi 59 && (inB 0 s 59 && (inB (-840) z 840 && (g || decide (z = 0))))))))
theorem below_drawn {B : Nat} {w w1 : World} (h : Below B w w1) (n : Nat) : Below B w (w1.drewN n) := ⟨h.os, h.tape, h.output, h.size, h.block⟩
set_option maxHeartbeats 4000000 in
theorem s_dateok (y mo d h mi s : Int) (g : Bool) (z : Int) (w : World) : Calls Tryd.prog 20 #[.agg #[.int .i64 y, .int .i64 mo, .int .i64 d, .int .i64 h, .int .i64 mi, .int .i64 s, .bool g, .int .i64 z]] w fun e w' => e = .returned (.bool (dateB y mo d h mi s g z)) ∧ Below w.heap.size w w' := by
  cases t0 : inB 1 y 9999
  · go_enter Tryd.func20, Tryd.ntmps20
    go_wp2_with fail
    go_big_quiet (first | (go_at_call 28; first | exact Calls.quiet_of_same (s_inT _ _ _ _ (by assumption)) | exact Calls.quiet_of_same (s_inF _ _ _ _ (by assumption))) | (go_at_call 29; exact Calls.quiet_of_same (s_dim _ _ _)))
    go_wp2
    go_ret
    exact ⟨ret_bool (by simp [dateB, t0]), below_drawn ((Below.refl _ _).alloc (Nat.le_refl _) _) _⟩
  · skip
    cases t1 : inB 1 mo 12
    · go_enter Tryd.func20, Tryd.ntmps20
      go_wp2_with fail
      go_big_quiet (first | (go_at_call 28; first | exact Calls.quiet_of_same (s_inT _ _ _ _ (by assumption)) | exact Calls.quiet_of_same (s_inF _ _ _ _ (by assumption))) | (go_at_call 29; exact Calls.quiet_of_same (s_dim _ _ _)))
      go_wp2
      go_ret
      exact ⟨ret_bool (by simp [dateB, t0, t1]), below_drawn ((Below.refl _ _).alloc (Nat.le_refl _) _) _⟩
    · skip
      cases t2 : inB 1 d (dim y mo)
      · go_enter Tryd.func20, Tryd.ntmps20
        go_wp2_with fail
        go_big_quiet (first | (go_at_call 28; first | exact Calls.quiet_of_same (s_inT _ _ _ _ (by assumption)) | exact Calls.quiet_of_same (s_inF _ _ _ _ (by assumption))) | (go_at_call 29; exact Calls.quiet_of_same (s_dim _ _ _)))
        go_wp2
        go_ret
        exact ⟨ret_bool (by simp [dateB, t0, t1, t2]), below_drawn ((Below.refl _ _).alloc (Nat.le_refl _) _) _⟩
      · skip
        cases t3 : inB 0 h 23
        · go_enter Tryd.func20, Tryd.ntmps20
          go_wp2_with fail
          go_big_quiet (first | (go_at_call 28; first | exact Calls.quiet_of_same (s_inT _ _ _ _ (by assumption)) | exact Calls.quiet_of_same (s_inF _ _ _ _ (by assumption))) | (go_at_call 29; exact Calls.quiet_of_same (s_dim _ _ _)))
          go_wp2
          go_ret
          exact ⟨ret_bool (by simp [dateB, t0, t1, t2, t3]), below_drawn ((Below.refl _ _).alloc (Nat.le_refl _) _) _⟩
        · skip
          cases t4 : inB 0 mi 59
          · go_enter Tryd.func20, Tryd.ntmps20
            go_wp2_with fail
            go_big_quiet (first | (go_at_call 28; first | exact Calls.quiet_of_same (s_inT _ _ _ _ (by assumption)) | exact Calls.quiet_of_same (s_inF _ _ _ _ (by assumption))) | (go_at_call 29; exact Calls.quiet_of_same (s_dim _ _ _)))
            go_wp2
            go_ret
            exact ⟨ret_bool (by simp [dateB, t0, t1, t2, t3, t4]), below_drawn ((Below.refl _ _).alloc (Nat.le_refl _) _) _⟩
          · skip
            cases t5 : inB 0 s 59
            · go_enter Tryd.func20, Tryd.ntmps20
              go_wp2_with fail
              go_big_quiet (first | (go_at_call 28; first | exact Calls.quiet_of_same (s_inT _ _ _ _ (by assumption)) | exact Calls.quiet_of_same (s_inF _ _ _ _ (by assumption))) | (go_at_call 29; exact Calls.quiet_of_same (s_dim _ _ _)))
              go_wp2
              go_ret
              exact ⟨ret_bool (by simp [dateB, t0, t1, t2, t3, t4, t5]), below_drawn ((Below.refl _ _).alloc (Nat.le_refl _) _) _⟩
            · skip
              cases t6 : inB (-840) z 840
              · go_enter Tryd.func20, Tryd.ntmps20
                go_wp2_with fail
                go_big_quiet (first | (go_at_call 28; first | exact Calls.quiet_of_same (s_inT _ _ _ _ (by assumption)) | exact Calls.quiet_of_same (s_inF _ _ _ _ (by assumption))) | (go_at_call 29; exact Calls.quiet_of_same (s_dim _ _ _)))
                go_wp2
                go_ret
                exact ⟨ret_bool (by simp [dateB, t0, t1, t2, t3, t4, t5, t6]), below_drawn ((Below.refl _ _).alloc (Nat.le_refl _) _) _⟩
              · skip
                cases g
                · rcases Decidable.em (z = 0) with hz | hz
                  all_goals
                    try subst hz
                    go_enter Tryd.func20, Tryd.ntmps20
                    go_wp2_with fail
                    go_big_quiet (first | (go_at_call 28; first | exact Calls.quiet_of_same (s_inT _ _ _ _ (by assumption)) | exact Calls.quiet_of_same (s_inF _ _ _ _ (by assumption))) | (go_at_call 29; exact Calls.quiet_of_same (s_dim _ _ _)))
                    go_wp2
                    go_ret
                    exact ⟨ret_bool (by simp [dateB, t0, t1, t2, t3, t4, t5, t6, *]), below_drawn ((Below.refl _ _).alloc (Nat.le_refl _) _) _⟩
                · go_enter Tryd.func20, Tryd.ntmps20
                  go_wp2_with fail
                  go_big_quiet (first | (go_at_call 28; first | exact Calls.quiet_of_same (s_inT _ _ _ _ (by assumption)) | exact Calls.quiet_of_same (s_inF _ _ _ _ (by assumption))) | (go_at_call 29; exact Calls.quiet_of_same (s_dim _ _ _)))
                  go_wp2
                  go_ret
                  exact ⟨ret_bool (by simp [dateB, t0, t1, t2, t3, t4, t5, t6]), below_drawn ((Below.refl _ _).alloc (Nat.le_refl _) _) _⟩
theorem mtab_drew {g : Nat} {w : World} (h : MTab g w) (n : Nat) : MTab g (w.drewN n) := h
theorem mtab_box {g : Nat} {w : World} (h : MTab g w) (o : Obj) : MTab g (w.alloc o) := mtab_go h ((Below.refl _ _).alloc (Nat.le_refl _) o)
set_option maxHeartbeats 2000000 in
theorem i_zone (z : Int) (w : World) : Calls Tryd.prog 24 #[.int .i64 z] w fun e w' => e = .returned (.bool (inB (-840) z 840)) ∧ w' = w := by
  go_enter Tryd.func24, Tryd.ntmps24
  go_wp2_with (go_at_call 22; refine (i_in _ _ _ _).mono ?_; rintro e w' ⟨rfl, rfl⟩)
  go_ret
  exact ⟨rfl, rfl⟩
theorem i_zoneT (z : Int) (w : World) (h : inB (-840) z 840 = true) : Calls Tryd.prog 24 #[.int .i64 z] w fun e w' => e = .returned (.bool true) ∧ w' = w := by
  have := i_zone z w; rwa [h] at this
theorem i_zoneF (z : Int) (w : World) (h : inB (-840) z 840 = false) : Calls Tryd.prog 24 #[.int .i64 z] w fun e w' => e = .returned (.bool false) ∧ w' = w := by
  have := i_zone z w; rwa [h] at this
/-- Where the day is one of the month's, year and month are right: there the days are none else. -/
theorem dateB_day (y mo d h mi s : Int) (g : Bool) (z : Int) : dateB y mo d h mi s g z = (inB 1 d (dim y mo) && (inB 0 h 23 && (inB 0 mi 59 && (inB 0 s 59 && (inB (-840) z 840 && (g || decide (z = 0))))))) := by
  by_cases e1 : 1 ≤ y ∧ y ≤ 9999
  · by_cases e2 : 1 ≤ mo ∧ mo ≤ 12
    · simp [dateB, inB_t e1, inB_t e2]
    · have e := dim_out (y := y) (m := mo) (by omega)
      have e3 : inB 1 d (dim y mo) = false := inB_f (by rw [e]; omega)
      simp only [dateB, e3, inB_f e2, Bool.false_and, Bool.and_false]
  · have e := dim_out (y := y) (m := mo) (by omega)
    have e3 : inB 1 d (dim y mo) = false := inB_f (by rw [e]; omega)
    simp only [dateB, e3, inB_f e1, Bool.false_and, Bool.and_false]
set_option maxHeartbeats 4000000 in
theorem i_dateok (y mo d h mi s : Int) (g : Bool) (z : Int) (w : World) (ht : MTab 0 w) : Calls Tryd.prog 9 #[.agg #[.int .i64 y, .int .i64 mo, .int .i64 d, .int .i64 h, .int .i64 mi, .int .i64 s, .bool g, .int .i64 z]] w fun e w' => e = .returned (.bool (dateB y mo d h mi s g z)) ∧ Below w.heap.size w w' := by
  have HT := hide (mtab_box ht (.cells #[.int .i64 y, .int .i64 mo, .int .i64 d, .int .i64 h, .int .i64 mi, .int .i64 s, .bool g, .int .i64 z] 25))
  have HD := hide (dateB_day y mo d h mi s g z)
  clear ht
  cases t2 : inB 1 d (dim y mo)
  · go_enter Tryd.func9, Tryd.ntmps9
    go_wp2_with fail
    go_big_quiet (first | (go_at_call 22; first | exact Calls.quiet_of_same (i_inT _ _ _ _ (by assumption)) | exact Calls.quiet_of_same (i_inF _ _ _ _ (by assumption))) | (go_at_call 23; exact Calls.quiet_of_same (i_dim _ _ _ (mtab_drew HT.out _))) | (go_at_call 24; first | exact Calls.quiet_of_same (i_zoneT _ _ (by assumption)) | exact Calls.quiet_of_same (i_zoneF _ _ (by assumption))))
    go_wp2
    go_ret
    exact ⟨ret_bool (by rw [HD.out]; simp [t2]), below_drawn ((Below.refl _ _).alloc (Nat.le_refl _) _) _⟩
  · skip
    cases t3 : inB 0 h 23
    · go_enter Tryd.func9, Tryd.ntmps9
      go_wp2_with fail
      go_big_quiet (first | (go_at_call 22; first | exact Calls.quiet_of_same (i_inT _ _ _ _ (by assumption)) | exact Calls.quiet_of_same (i_inF _ _ _ _ (by assumption))) | (go_at_call 23; exact Calls.quiet_of_same (i_dim _ _ _ (mtab_drew HT.out _))) | (go_at_call 24; first | exact Calls.quiet_of_same (i_zoneT _ _ (by assumption)) | exact Calls.quiet_of_same (i_zoneF _ _ (by assumption))))
      go_wp2
      go_ret
      exact ⟨ret_bool (by rw [HD.out]; simp [t2, t3]), below_drawn ((Below.refl _ _).alloc (Nat.le_refl _) _) _⟩
    · skip
      cases t4 : inB 0 mi 59
      · go_enter Tryd.func9, Tryd.ntmps9
        go_wp2_with fail
        go_big_quiet (first | (go_at_call 22; first | exact Calls.quiet_of_same (i_inT _ _ _ _ (by assumption)) | exact Calls.quiet_of_same (i_inF _ _ _ _ (by assumption))) | (go_at_call 23; exact Calls.quiet_of_same (i_dim _ _ _ (mtab_drew HT.out _))) | (go_at_call 24; first | exact Calls.quiet_of_same (i_zoneT _ _ (by assumption)) | exact Calls.quiet_of_same (i_zoneF _ _ (by assumption))))
        go_wp2
        go_ret
        exact ⟨ret_bool (by rw [HD.out]; simp [t2, t3, t4]), below_drawn ((Below.refl _ _).alloc (Nat.le_refl _) _) _⟩
      · skip
        cases t5 : inB 0 s 59
        · go_enter Tryd.func9, Tryd.ntmps9
          go_wp2_with fail
          go_big_quiet (first | (go_at_call 22; first | exact Calls.quiet_of_same (i_inT _ _ _ _ (by assumption)) | exact Calls.quiet_of_same (i_inF _ _ _ _ (by assumption))) | (go_at_call 23; exact Calls.quiet_of_same (i_dim _ _ _ (mtab_drew HT.out _))) | (go_at_call 24; first | exact Calls.quiet_of_same (i_zoneT _ _ (by assumption)) | exact Calls.quiet_of_same (i_zoneF _ _ (by assumption))))
          go_wp2
          go_ret
          exact ⟨ret_bool (by rw [HD.out]; simp [t2, t3, t4, t5]), below_drawn ((Below.refl _ _).alloc (Nat.le_refl _) _) _⟩
        · skip
          cases t6 : inB (-840) z 840
          · go_enter Tryd.func9, Tryd.ntmps9
            go_wp2_with fail
            go_big_quiet (first | (go_at_call 22; first | exact Calls.quiet_of_same (i_inT _ _ _ _ (by assumption)) | exact Calls.quiet_of_same (i_inF _ _ _ _ (by assumption))) | (go_at_call 23; exact Calls.quiet_of_same (i_dim _ _ _ (mtab_drew HT.out _))) | (go_at_call 24; first | exact Calls.quiet_of_same (i_zoneT _ _ (by assumption)) | exact Calls.quiet_of_same (i_zoneF _ _ (by assumption))))
            go_wp2
            go_ret
            exact ⟨ret_bool (by rw [HD.out]; simp [t2, t3, t4, t5, t6]), below_drawn ((Below.refl _ _).alloc (Nat.le_refl _) _) _⟩
          · skip
            cases g
            · rcases Decidable.em (z = 0) with hz | hz
              all_goals
                try subst hz
                go_enter Tryd.func9, Tryd.ntmps9
                go_wp2_with fail
                go_big_quiet (first | (go_at_call 22; first | exact Calls.quiet_of_same (i_inT _ _ _ _ (by assumption)) | exact Calls.quiet_of_same (i_inF _ _ _ _ (by assumption))) | (go_at_call 23; exact Calls.quiet_of_same (i_dim _ _ _ (mtab_drew HT.out _))) | (go_at_call 24; first | exact Calls.quiet_of_same (i_zoneT _ _ (by assumption)) | exact Calls.quiet_of_same (i_zoneF _ _ (by assumption))))
                go_wp2
                go_ret
                exact ⟨ret_bool (by rw [HD.out]; simp [t2, t3, t4, t5, t6, *]), below_drawn ((Below.refl _ _).alloc (Nat.le_refl _) _) _⟩
            · go_enter Tryd.func9, Tryd.ntmps9
              go_wp2_with fail
              go_big_quiet (first | (go_at_call 22; first | exact Calls.quiet_of_same (i_inT _ _ _ _ (by assumption)) | exact Calls.quiet_of_same (i_inF _ _ _ _ (by assumption))) | (go_at_call 23; exact Calls.quiet_of_same (i_dim _ _ _ (mtab_drew HT.out _))) | (go_at_call 24; first | exact Calls.quiet_of_same (i_zoneT _ _ (by assumption)) | exact Calls.quiet_of_same (i_zoneF _ _ (by assumption))))
              go_wp2
              go_ret
              exact ⟨ret_bool (by rw [HD.out]; simp [t2, t3, t4, t5, t6]), below_drawn ((Below.refl _ _).alloc (Nat.le_refl _) _) _⟩
end Go.Proofs.YtaigicdoepdhnaaDoor
