/-
  Contracts: what may follow a position, by both.
-/
import Derived.Test.YtfohfljdgmlibaaDoorFwS0
import Derived.Test.YtfohfljdgmlibaaDoorPkI
namespace Go.Proofs.YtfohfljdgmlibaaDoor
open Go.RowKit Go.Joins
set_option linter.unusedVariables false
set_option linter.unusedSimpArgs false
theorem fw_inT (x a b : Int) (w : World) (h : a ≤ x ∧ x ≤ b) : Calls Tryd.prog 39 #[.int .i64 x, .int .i64 a, .int .i64 b] w fun e w' => e = .returned (.bool true) ∧ w' = w := by
  obtain ⟨h1, h2⟩ := h
  go_enter Tryd.func39, Tryd.ntmps39
  go_wp2
  go_ret
  exact ⟨by simp_all, rfl⟩
theorem fw_inF (x a b : Int) (w : World) (h : ¬ (a ≤ x ∧ x ≤ b)) : Calls Tryd.prog 39 #[.int .i64 x, .int .i64 a, .int .i64 b] w fun e w' => e = .returned (.bool false) ∧ w' = w := by
  by_cases h1 : a ≤ x
  · have h2 : ¬ x ≤ b := fun h2 => h ⟨h1, h2⟩
    clear h
    go_enter Tryd.func39, Tryd.ntmps39
    go_wp2
    go_ret
    exact ⟨by simp_all, rfl⟩
  · clear h
    go_enter Tryd.func39, Tryd.ntmps39
    go_wp2
    go_ret
    exact ⟨by simp_all, rfl⟩
set_option maxHeartbeats 2000000 in
theorem s_pos (D : Pn) (n b0 off cap : Nat) (x : Int) (w : World) (hRN : RN D n) (hn1 : 1 ≤ n) (hbs : b0 < w.heap.size) (hr : PnRow w b0 off D w.heap.size) :
    Calls Tryd.prog 52 #[.slice (some ⟨b0, off, none⟩) n cap, .int .i64 x] w fun e w' => e = .returned (.bool (posB D x)) ∧ w' = w := by
  have hn40 := hRN.2.1
  have hwp : IntKind.i64.wrap ((n : Int) - 1) = (n : Int) - 1 := by rw [IntKind.wrap_i64]; omega
  by_cases hx : 0 ≤ x ∧ x ≤ (n : Int) - 1
  · obtain ⟨i, rfl⟩ : ∃ i : Nat, x = (i : Int) := ⟨x.toNat, by omega⟩
    have hi : i < n := by omega
    obtain ⟨ad, cp, hc, -, -⟩ := hr i (by rw [hRN.1]; exact hi)
    have c0 := hc.1
    have HP : Hid (posB D i = decide (D.K i = 1 ∨ D.K i = 4)) := hide (by unfold posB; rw [decide_eq_true (by rw [hRN.1]; exact hx)]; rfl)
    have HX := hide hx
    have hin : (i : Int) < (n : Int) := by omega
    have hi00 : (0 : Int) ≤ (i : Int) := by omega
    have CI := hide (fun (W : World) => fw_inT (i : Int) 0 ((n : Int) - 1) W HX.out)
    have hkinds := rn_kinds hRN hi
    obtain ⟨K, hK⟩ : ∃ K, D.K i = K := ⟨_, rfl⟩
    rw [hK] at c0 HP hkinds
    clear hc hr hRN hx hK
    rcases hkinds with rfl | rfl | rfl | rfl
    all_goals
      go_enter Tryd.func52, Tryd.ntmps52
      go_wp2_with (first | (go_at_call 39; refine (CI.out _).mono ?_; rintro r9 w9 ⟨rfl, h9⟩; rw [h9]; clear h9 w9))
      go_ret
      exact ⟨ret_bool (by rw [HP.out]; rfl), rfl⟩
  · have HP : Hid (posB D x = false) := hide (by unfold posB; rw [decide_eq_false (by rw [hRN.1]; exact hx)]; rfl)
    have CI := hide (fun (W : World) => fw_inF x 0 ((n : Int) - 1) W hx)
    clear hr hRN hx
    go_enter Tryd.func52, Tryd.ntmps52
    go_wp2_with (first | (go_at_call 39; refine (CI.out _).mono ?_; rintro r9 w9 ⟨rfl, h9⟩; rw [h9]; clear h9 w9))
    go_ret
    exact ⟨ret_bool HP.out.symm, rfl⟩
set_option maxRecDepth 100000 in
set_option maxHeartbeats 4000000 in
theorem i_followOf (D : Pn) (n : Nat) (a : Option Addr) (cap : Nat) (x : Int) (w : World) (hD : D.n = n) (hz : pnTot D ≤ 1048576) (hr : PnAt w a D w.heap.size) (hT : TzT w) :
    Calls Tryd.prog 15 #[.slice a n cap, .int .i64 x] w (IntAns (flV D x) w) := by
  have hzz := tk_zero
  have hne := tkN_ne
  have CT := hide (i_tracks2 D n a cap w hD hz hr hT)
  have HT := hide hT
  have HD := hide hD
  cases hpk : pkB D
  · have HE : Hid (flV D x = []) := hide (by unfold flV; rw [hpk]; rfl)
    rw [hpk] at CT
    clear hr hD hz hT hpk
    go_enter Tryd.func15, Tryd.ntmps15
    go_wp2_with (first
      | (go_at_call 34; refine CT.out.mono ?_; rintro r w1 ⟨b9, m9, c9, F, e, rfl, hA, hb1⟩; have HB1 := hide hb1; obtain ⟨hsz, hzs⟩ := tk_fit b9 m9 c9 F e; have hall := tkC_one b9 m9 c9 F e; obtain ⟨CS, hCS⟩ : ∃ CS, tkC (.slice b9 m9 c9) F e = CS := ⟨_, rfl⟩; rw [hCS] at hsz hzs hall ⊢; clear hA hb1 hCS)
      | (refine wpList_store_row rfl 55 _ _ rfl w1.heap.size CS rfl rfl 55 _ (heap_alloc_last w1 _) hsz hzs hall ?_; rw [World.setRow_alloc_new]))
    go_ret
    rw [HE.out]
    exact ⟨none, 0, rfl, intR_nil _ _, HB1.out.alloc HB1.out.size _⟩
  · have hn1 : 1 ≤ n ∧ n ≤ 40 := by rw [← hD]; exact (pk_facts hpk).1
    have hwp : IntKind.i64.wrap ((n : Int) - 1) = (n : Int) - 1 := by rw [IntKind.wrap_i64]; omega
    rw [hpk] at CT
    have HPK := hide hpk
    by_cases hx : 0 ≤ x ∧ x ≤ (n : Int) - 1
    · have CI := hide (fun (W : World) => p_iInT x 0 ((n : Int) - 1) W hx)
      obtain ⟨i, rfl⟩ : ∃ i : Nat, x = (i : Int) := ⟨x.toNat, by omega⟩
      have hi40 : i < 41 := by omega
      have hin : (i : Int) < 41 := by omega
      have hi0 : (0 : Int) ≤ (i : Int) := by omega
      have HIN : Hid (i < D.n) := hide (by rw [hD]; omega)
      clear hr hD hz hT hpk hx
      go_enter Tryd.func15, Tryd.ntmps15
      go_wp2_with (first
        | (go_at_call 34; refine CT.out.mono ?_; rintro r w1 ⟨b9, m9, c9, F, e, rfl, hA, hb1⟩; have HA := hide (tk_follow HPK.out (hA.1 HPK.out).2.2.2 HIN.out); have HB1 := hide hb1; obtain ⟨hsz, hzs⟩ := tk_fit b9 m9 c9 F e; have hall := tkC_one b9 m9 c9 F e; have HC := hide (cellsAt_new w1 (tkC (.slice b9 m9 c9) F e) 55); have f40 := (cellsAt_cell HC.out (1 + i)).trans (tkC_at (.slice b9 m9 c9) F e i hi40); obtain ⟨CS, hCS⟩ : ∃ CS, tkC (.slice b9 m9 c9) F e = CS := ⟨_, rfl⟩; have HCS := hide hCS; rw [hCS] at hsz hzs hall HC f40 ⊢; clear hA hb1 hCS)
        | (refine wpList_store_row rfl 55 _ _ rfl w1.heap.size CS rfl rfl 55 _ (heap_alloc_last w1 _) hsz hzs hall ?_; rw [World.setRow_alloc_new])
        | (go_at_call 44; refine (CI.out _).mono ?_; rintro r9 w9 ⟨rfl, h9⟩; rw [h9]; clear h9 w9)
        | (go_at_call 43; refine (i_list (F i) _ HA.out.2 (tzT_go HT.out (HB1.out.alloc HB1.out.size _) (Nat.le_refl _))).mono ?_; rintro r w3 ⟨ad3, c3, rfl, ho3, hb3⟩; have HO3 := hide ho3; have HB3 := hide ((HB1.out.alloc HB1.out.size _).trans (hb3.mono (HB1.out.alloc HB1.out.size _).size)); clear ho3 hb3))
      go_ret
      rw [← HA.out.1]
      exact ⟨ad3, c3, rfl, gOwn_lower HO3.out (HB1.out.alloc HB1.out.size _).size, HB3.out⟩
    · have CI := hide (fun (W : World) => p_iInF x 0 ((n : Int) - 1) W hx)
      have HE : Hid (flV D x = []) := hide (by
        unfold flV
        rw [if_neg (fun h => hx (by
          have h9 := h.2
          unfold posB at h9
          simp only [Bool.and_eq_true, decide_eq_true_eq] at h9
          rw [hD] at h9
          exact h9.1))])
      clear hr hD hz hT hpk hx
      go_enter Tryd.func15, Tryd.ntmps15
      go_wp2_with (first
        | (go_at_call 34; refine CT.out.mono ?_; rintro r w1 ⟨b9, m9, c9, F, e, rfl, hA, hb1⟩; have HB1 := hide hb1; obtain ⟨hsz, hzs⟩ := tk_fit b9 m9 c9 F e; have hall := tkC_one b9 m9 c9 F e; obtain ⟨CS, hCS⟩ : ∃ CS, tkC (.slice b9 m9 c9) F e = CS := ⟨_, rfl⟩; rw [hCS] at hsz hzs hall ⊢; clear hA hb1 hCS)
        | (refine wpList_store_row rfl 55 _ _ rfl w1.heap.size CS rfl rfl 55 _ (heap_alloc_last w1 _) hsz hzs hall ?_; rw [World.setRow_alloc_new])
        | (go_at_call 44; refine (CI.out _).mono ?_; rintro r9 w9 ⟨rfl, h9⟩; rw [h9]; clear h9 w9))
      go_ret
      rw [HE.out]
      exact ⟨none, 0, rfl, intR_nil _ _, HB1.out.alloc HB1.out.size _⟩
end Go.Proofs.YtfohfljdgmlibaaDoor
