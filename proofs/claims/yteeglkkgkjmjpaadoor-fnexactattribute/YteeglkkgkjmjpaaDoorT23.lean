/-
  Texts put together: FwS, ClS.
-/
import Derived.Test.YteeglkkgkjmjpaaDoorT22
import Derived.Test.YteeglkkgkjmjpaaDoorT10
import Derived.Test.YteeglkkgkjmjpaaDoorT19
/-
  Contracts: what may follow a position, by both.
-/
namespace Go.Proofs.YteeglkkgkjmjpaaDoor
open Go.RowKit Go.Joins
set_option linter.unusedVariables false
set_option linter.unusedSimpArgs false
theorem fw_inT (x a b : Int) (w : World) (h : a ≤ x ∧ x ≤ b) : Calls Tryd.prog 56 #[.int .i64 x, .int .i64 a, .int .i64 b] w fun e w' => e = .returned (.bool true) ∧ w' = w := by
  obtain ⟨h1, h2⟩ := h
  go_enter Tryd.func56, Tryd.ntmps56
  go_wp2
  go_ret
  exact ⟨by simp_all, rfl⟩
theorem fw_inF (x a b : Int) (w : World) (h : ¬ (a ≤ x ∧ x ≤ b)) : Calls Tryd.prog 56 #[.int .i64 x, .int .i64 a, .int .i64 b] w fun e w' => e = .returned (.bool false) ∧ w' = w := by
  by_cases h1 : a ≤ x
  · have h2 : ¬ x ≤ b := fun h2 => h ⟨h1, h2⟩
    clear h
    go_enter Tryd.func56, Tryd.ntmps56
    go_wp2
    go_ret
    exact ⟨by simp_all, rfl⟩
  · clear h
    go_enter Tryd.func56, Tryd.ntmps56
    go_wp2
    go_ret
    exact ⟨by simp_all, rfl⟩
set_option maxHeartbeats 2000000 in
theorem s_pos (D : Pn) (n b0 off cap : Nat) (x : Int) (w : World) (hRN : RN D n) (hn1 : 1 ≤ n) (hbs : b0 < w.heap.size) (hr : PnRow w b0 off D w.heap.size) :
    Calls Tryd.prog 47 #[.slice (some ⟨b0, off, none⟩) n cap, .int .i64 x] w fun e w' => e = .returned (.bool (posB D x)) ∧ w' = w := by
  have hn40 := hRN.2.1
  have hwp : IntKind.i64.wrap ((n : Int) - 1) = (n : Int) - 1 := by rw [IntKind.wrap_i64]; omega
  by_cases hx : 0 ≤ x ∧ x ≤ (n : Int) - 1
  · obtain ⟨i, rfl⟩ : ∃ i : Nat, x = (i : Int) := ⟨x.toNat, by omega⟩
    have hi : i < n := by omega
    obtain ⟨ad, cp, hc, -, -⟩ := hr i (by rw [hRN.1]; exact hi)
    have c0 := hc.1
    have HP : Hid (posB D i = decide (D.K i = 1 ∨ D.K i = 4)) := hide (by unfold posB; rw [decide_eq_true (by rw [hRN.1]; exact hx)]; rfl)
    have HX := hide hx
    have hin : (i : Int) < (n : Int) := by omega
    have hi00 : (0 : Int) ≤ (i : Int) := by omega
    have CI := hide (fun (W : World) => fw_inT (i : Int) 0 ((n : Int) - 1) W HX.out)
    have hkinds := rn_kinds hRN hi
    obtain ⟨K, hK⟩ : ∃ K, D.K i = K := ⟨_, rfl⟩
    rw [hK] at c0 HP hkinds
    clear hc hr hRN hx hK
    rcases hkinds with rfl | rfl | rfl | rfl
    all_goals
      go_enter Tryd.func47, Tryd.ntmps47
      go_wp2_with (first | (go_at_call 56; refine (CI.out _).mono ?_; rintro r9 w9 ⟨rfl, h9⟩; rw [h9]; clear h9 w9))
      go_ret
      exact ⟨ret_bool (by rw [HP.out]; rfl), rfl⟩
  · have HP : Hid (posB D x = false) := hide (by unfold posB; rw [decide_eq_false (by rw [hRN.1]; exact hx)]; rfl)
    have CI := hide (fun (W : World) => fw_inF x 0 ((n : Int) - 1) W hx)
    clear hr hRN hx
    go_enter Tryd.func47, Tryd.ntmps47
    go_wp2_with (first | (go_at_call 56; refine (CI.out _).mono ?_; rintro r9 w9 ⟨rfl, h9⟩; rw [h9]; clear h9 w9))
    go_ret
    exact ⟨ret_bool HP.out.symm, rfl⟩
set_option maxRecDepth 100000 in
set_option maxHeartbeats 4000000 in
theorem s_followOf (D : Pn) (n : Nat) (a : Option Addr) (cap : Nat) (x : Int) (w : World) (hD : D.n = n) (hz : pnTot D ≤ 1048576) (hr : PnAt w a D w.heap.size) :
    Calls Tryd.prog 23 #[.slice a n cap, .int .i64 x] w (IntAns (flV D x) w) := by
  have HP := hide (s_particle D n a cap w hD hz hr)
  cases hpk : pkB D
  · rw [hpk] at HP
    have HE : Hid (flV D x = []) := hide (by unfold flV; rw [hpk]; rfl)
    clear hD hz hr hpk
    go_enter Tryd.func23, Tryd.ntmps23
    go_wp2_with (first | (go_at_call 36; refine HP.out.mono ?_; rintro r w1 ⟨rfl, hb1⟩; have HB1 := hide hb1; clear hb1))
    go_ret
    rw [HE.out]
    exact ⟨_, 0, rfl, gOwn_lower (intR_zero w1) HB1.out.size, HB1.out.alloc HB1.out.size _⟩
  · have hRN := rn_of hD hpk hz
    have hn1 : 1 ≤ n ∧ n ≤ 40 := by rw [← hD]; exact (pk_facts hpk).1
    obtain ⟨b0, off, rfl, hb0, hrow⟩ := hr (by rw [hD]; omega)
    have CP := hide (fun (W : World) (hW : Below w.heap.size w W) => s_pos D n b0 off cap x W hRN hn1.1 (Nat.lt_of_lt_of_le hb0 hW.size) (pnRow_up (pnRow_go hrow hb0 hW) hW.size))
    have CF := hide (fun (W : World) (hW : Below w.heap.size w W) => s_follow D n b0 off cap x W hRN (Nat.lt_of_lt_of_le hb0 hW.size) (pnRow_up (pnRow_go hrow hb0 hW) hW.size))
    rw [hpk] at HP
    cases hpo : posB D x
    · have HE : Hid (flV D x = []) := hide (by unfold flV; rw [if_neg (by rw [hpo]; simp)])
      rw [hpo] at CP
      clear hD hz hr hpk hrow hRN hpo
      go_enter Tryd.func23, Tryd.ntmps23
      go_wp2_with (first
        | (go_at_call 36; refine HP.out.mono ?_; rintro r w1 ⟨rfl, hb1⟩; have HB1 := hide hb1; clear hb1)
        | (go_at_call 47; refine (CP.out _ HB1.out).mono ?_; rintro r9 w9 ⟨rfl, h9⟩; rw [h9]; clear h9 w9))
      go_ret
      rw [HE.out]
      exact ⟨_, 0, rfl, gOwn_lower (intR_zero w1) HB1.out.size, HB1.out.alloc HB1.out.size _⟩
    · have HE : Hid (flV D x = srtL (foL D x n)) := hide (by unfold flV; rw [if_pos ⟨hpk, hpo⟩, hD])
      rw [hpo] at CP
      clear hD hz hr hpk hrow hRN hpo
      go_enter Tryd.func23, Tryd.ntmps23
      go_wp2_with (first
        | (go_at_call 36; refine HP.out.mono ?_; rintro r w1 ⟨rfl, hb1⟩; have HB1 := hide hb1; clear hb1)
        | (go_at_call 47; refine (CP.out _ HB1.out).mono ?_; rintro r9 w9 ⟨rfl, h9⟩; rw [h9]; clear h9 w9)
        | (go_at_call 48; refine (CF.out _ HB1.out).mono ?_; rintro r w2 ⟨ad2, c2, rfl, ho2, hb2⟩; have HO2 := hide ho2; have HB2 := hide (HB1.out.trans (hb2.mono HB1.out.size)); clear ho2 hb2))
      go_ret
      rw [HE.out]
      exact ⟨ad2, c2, rfl, gOwn_lower HO2.out HB1.out.size, HB2.out⟩
set_option maxRecDepth 100000 in
set_option maxHeartbeats 4000000 in
theorem i_followOf (D : Pn) (n : Nat) (a : Option Addr) (cap : Nat) (x : Int) (w : World) (hD : D.n = n) (hz : pnTot D ≤ 1048576) (hr : PnAt w a D w.heap.size) (hT : TzT w) :
    Calls Tryd.prog 24 #[.slice a n cap, .int .i64 x] w (IntAns (flV D x) w) := by
  have hzz := tk_zero
  have hne := tkN_ne
  have CT := hide (i_tracks2 D n a cap w hD hz hr hT)
  have HT := hide hT
  have HD := hide hD
  cases hpk : pkB D
  · have HE : Hid (flV D x = []) := hide (by unfold flV; rw [hpk]; rfl)
    rw [hpk] at CT
    clear hr hD hz hT hpk
    go_enter Tryd.func24, Tryd.ntmps24
    go_wp2_with (first
      | (go_at_call 39; refine CT.out.mono ?_; rintro r w1 ⟨b9, m9, c9, F, e, rfl, hA, hb1⟩; have HB1 := hide hb1; obtain ⟨hsz, hzs⟩ := tk_fit b9 m9 c9 F e; have hall := tkC_one b9 m9 c9 F e; obtain ⟨CS, hCS⟩ : ∃ CS, tkC (.slice b9 m9 c9) F e = CS := ⟨_, rfl⟩; rw [hCS] at hsz hzs hall ⊢; clear hA hb1 hCS)
      | (refine wpList_store_row rfl 54 _ _ rfl w1.heap.size CS rfl rfl 54 _ (heap_alloc_last w1 _) hsz hzs hall ?_; rw [World.setRow_alloc_new]))
    go_ret
    rw [HE.out]
    exact ⟨none, 0, rfl, intR_nil _ _, HB1.out.alloc HB1.out.size _⟩
  · have hn1 : 1 ≤ n ∧ n ≤ 40 := by rw [← hD]; exact (pk_facts hpk).1
    have hwp : IntKind.i64.wrap ((n : Int) - 1) = (n : Int) - 1 := by rw [IntKind.wrap_i64]; omega
    rw [hpk] at CT
    have HPK := hide hpk
    by_cases hx : 0 ≤ x ∧ x ≤ (n : Int) - 1
    · have CI := hide (fun (W : World) => p_iInT x 0 ((n : Int) - 1) W hx)
      obtain ⟨i, rfl⟩ : ∃ i : Nat, x = (i : Int) := ⟨x.toNat, by omega⟩
      have hi40 : i < 41 := by omega
      have hin : (i : Int) < 41 := by omega
      have hi0 : (0 : Int) ≤ (i : Int) := by omega
      have HIN : Hid (i < D.n) := hide (by rw [hD]; omega)
      clear hr hD hz hT hpk hx
      go_enter Tryd.func24, Tryd.ntmps24
      go_wp2_with (first
        | (go_at_call 39; refine CT.out.mono ?_; rintro r w1 ⟨b9, m9, c9, F, e, rfl, hA, hb1⟩; have HA := hide (tk_follow HPK.out (hA.1 HPK.out).2.2.2 HIN.out); have HB1 := hide hb1; obtain ⟨hsz, hzs⟩ := tk_fit b9 m9 c9 F e; have hall := tkC_one b9 m9 c9 F e; have HC := hide (cellsAt_new w1 (tkC (.slice b9 m9 c9) F e) 54); have f40 := (cellsAt_cell HC.out (1 + i)).trans (tkC_at (.slice b9 m9 c9) F e i hi40); obtain ⟨CS, hCS⟩ : ∃ CS, tkC (.slice b9 m9 c9) F e = CS := ⟨_, rfl⟩; have HCS := hide hCS; rw [hCS] at hsz hzs hall HC f40 ⊢; clear hA hb1 hCS)
        | (refine wpList_store_row rfl 54 _ _ rfl w1.heap.size CS rfl rfl 54 _ (heap_alloc_last w1 _) hsz hzs hall ?_; rw [World.setRow_alloc_new])
        | (go_at_call 49; refine (CI.out _).mono ?_; rintro r9 w9 ⟨rfl, h9⟩; rw [h9]; clear h9 w9)
        | (go_at_call 45; refine (i_list (F i) _ HA.out.2 (tzT_go HT.out (HB1.out.alloc HB1.out.size _) (Nat.le_refl _))).mono ?_; rintro r w3 ⟨ad3, c3, rfl, ho3, hb3⟩; have HO3 := hide ho3; have HB3 := hide ((HB1.out.alloc HB1.out.size _).trans (hb3.mono (HB1.out.alloc HB1.out.size _).size)); clear ho3 hb3))
      go_ret
      rw [← HA.out.1]
      exact ⟨ad3, c3, rfl, gOwn_lower HO3.out (HB1.out.alloc HB1.out.size _).size, HB3.out⟩
    · have CI := hide (fun (W : World) => p_iInF x 0 ((n : Int) - 1) W hx)
      have HE : Hid (flV D x = []) := hide (by
        unfold flV
        rw [if_neg (fun h => hx (by
          have h9 := h.2
          unfold posB at h9
          simp only [Bool.and_eq_true, decide_eq_true_eq] at h9
          rw [hD] at h9
          exact h9.1))])
      clear hr hD hz hT hpk hx
      go_enter Tryd.func24, Tryd.ntmps24
      go_wp2_with (first
        | (go_at_call 39; refine CT.out.mono ?_; rintro r w1 ⟨b9, m9, c9, F, e, rfl, hA, hb1⟩; have HB1 := hide hb1; obtain ⟨hsz, hzs⟩ := tk_fit b9 m9 c9 F e; have hall := tkC_one b9 m9 c9 F e; obtain ⟨CS, hCS⟩ : ∃ CS, tkC (.slice b9 m9 c9) F e = CS := ⟨_, rfl⟩; rw [hCS] at hsz hzs hall ⊢; clear hA hb1 hCS)
        | (refine wpList_store_row rfl 54 _ _ rfl w1.heap.size CS rfl rfl 54 _ (heap_alloc_last w1 _) hsz hzs hall ?_; rw [World.setRow_alloc_new])
        | (go_at_call 49; refine (CI.out _).mono ?_; rintro r9 w9 ⟨rfl, h9⟩; rw [h9]; clear h9 w9))
      go_ret
      rw [HE.out]
      exact ⟨none, 0, rfl, intR_nil _ _, HB1.out.alloc HB1.out.size _⟩
end Go.Proofs.YteeglkkgkjmjpaaDoor

/-
  Contracts: clear models, by the specification.
-/
namespace Go.Proofs.YteeglkkgkjmjpaaDoor
open Go.RowKit Go.Joins
set_option linter.unusedVariables false
set_option linter.unusedSimpArgs false
/-- The cells of two nodes that are held against each other. -/
theorem pn_two {D : Pn} {n b0 off : Nat} {w : World} (hRN : RN D n) (hr : PnRow w b0 off D w.heap.size) {x : Int} (hx : 0 ≤ x ∧ x < (n : Int)) : ∃ (i : Nat) (ad : Option Addr) (cp : Nat), x = (i : Int) ∧ i < n ∧ PnCells w b0 (off + i * 4) D i ad cp := by
  obtain ⟨i, rfl⟩ : ∃ i : Nat, x = (i : Int) := ⟨x.toNat, by omega⟩
  have hi : i < n := by omega
  obtain ⟨ad, cp, hc, -, -⟩ := hr i (by rw [hRN.1]; exact hi)
  exact ⟨i, ad, cp, rfl, hi, hc⟩
set_option maxRecDepth 100000 in
set_option maxHeartbeats 8000000 in
theorem s_apart (D : Pn) (n b0 off cap : Nat) (ad : Option Addr) (m c : Nat) (L : List Int) (w : World) (hRN : RN D n) (hbs : b0 < w.heap.size) (hr : PnRow w b0 off D w.heap.size) (hm : L.length = m) (hm2 : m ≤ 64) (hL : ∀ z ∈ L, 0 ≤ z ∧ z < (n : Int)) (hat : RowAt .i64 w ad L w.heap.size) :
    Calls Tryd.prog 50 #[.slice (some ⟨b0, off, none⟩) n cap, .slice ad m c] w fun r w' => r = .returned (.bool (apB D L)) ∧ Below w.heap.size w w' := by
  have HR := hide hr
  have HRN := hide hRN
  have HM := hide hm
  have HL := hide hL
  have HAT := hide hat
  have hn40 := hRN.2.1
  clear hr hRN hm hL hat
  go_enter Tryd.func50, Tryd.ntmps50
  go_wp2
  go_loopw [5] (fun mv wr => ∃ (i : Nat), i ≤ m ∧ mv = .int .i64 i ∧ Hid (Below w.heap.size w wr) ∧ Hid (∀ j, j < i → ∀ k, k < j → apP D (L[j]?.getD 0) (L[k]?.getD 0) = true)) (fun mv _ => m - (intOf mv).toNat)
  case atStart => exact ⟨0, Nat.zero_le _, rfl, hide (Below.refl _ _), hide (fun j hj => by omega)⟩
  case round =>
    obtain ⟨i, hi, rfl, HB, HA⟩ := hrel
    by_cases hlt : i < m
    · obtain ⟨b9, off9, rfl, hb9, hc9⟩ := rowAt_cell HAT.out i (by rw [HM.out]; exact hlt)
      have HC9 := hide hc9
      clear hc9
      go_wp2
      go_loopw [6] (fun mv wr => ∃ (k : Nat), k ≤ i ∧ mv = .int .i64 k ∧ Hid (Below w.heap.size w wr) ∧ Hid (∀ j, j < k → apP D (L[i]?.getD 0) (L[j]?.getD 0) = true)) (fun mv _ => i - (intOf mv).toNat)
      case atStart => exact ⟨0, Nat.zero_le _, rfl, HB, hide (fun j hj => by omega)⟩
      case round =>
        clear HB
        obtain ⟨k, hk, rfl, HB, HK⟩ := hrel
        by_cases hlk : k < i
        · have hiL : i < L.length := by rw [HM.out]; exact hlt
          have hkL : k < L.length := by rw [HM.out]; omega
          have x0 := (HB.out.cell (p := ⟨b9, off9 + i, none⟩) hb9).trans (HC9.out i hiL)
          have y0 := (HB.out.cell (p := ⟨b9, off9 + k, none⟩) hb9).trans (HC9.out k hkL)
          obtain ⟨p, ap, cp, hxp, hp, hpc⟩ := pn_two (HRN.out) HR.out (HL.out (L[i]?.getD 0) (by rw [List.getElem?_eq_getElem hiL]; exact List.getElem_mem hiL))
          obtain ⟨q, aq, cq, hxq, hq, hqc⟩ := pn_two (HRN.out) HR.out (HL.out (L[k]?.getD 0) (by rw [List.getElem?_eq_getElem hkL]; exact List.getElem_mem hkL))
          obtain ⟨p0, p1, p2, p3⟩ := pnCells_go hpc hbs HB.out
          obtain ⟨q0, q1, q2, q3⟩ := pnCells_go hqc hbs HB.out
          have HAP : Hid (apP D (L[i]?.getD 0) (L[k]?.getD 0) = (decide (D.K p ≠ 4) && (decide (D.K q ≠ 4) && !((D.NM p).toList == (D.NM q).toList)))) := hide (by rw [hxp, hxq]; rfl)
          rw [hxp] at x0
          rw [hxq] at y0
          have hbl : b0 < wr.heap.size := Nat.lt_of_lt_of_le hbs HB.out.size
          have hb9l : b9 < wr.heap.size := Nat.lt_of_lt_of_le hb9 HB.out.size
          have hpi : (p : Int) < (n : Int) := by omega
          have hp0 : (0 : Int) ≤ (p : Int) := by omega
          have hqi : (q : Int) < (n : Int) := by omega
          have hq0 : (0 : Int) ≤ (q : Int) := by omega
          have hii : (i : Int) < (m : Int) := by omega
          have hi0 : (0 : Int) ≤ (i : Int) := by omega
          have hki : (k : Int) < (m : Int) := by omega
          have hkk : (k : Int) < (i : Int) := by omega
          have hk0 : (0 : Int) ≤ (k : Int) := by omega
          have HB2 := hide (fun (o1 o2 : Obj) => (HB.out.alloc HB.out.size o1).alloc (by have := HB.out.size; simp; omega) o2)
          obtain ⟨Kp, hKp⟩ : ∃ Kp, D.K p = Kp := ⟨_, rfl⟩
          obtain ⟨Kq, hKq⟩ : ∃ Kq, D.K q = Kq := ⟨_, rfl⟩
          obtain ⟨Np, hNp⟩ : ∃ Np, D.NM p = Np := ⟨_, rfl⟩
          obtain ⟨Nq, hNq⟩ : ∃ Nq, D.NM q = Nq := ⟨_, rfl⟩
          rw [hKp] at p0 HAP
          rw [hKq] at q0 HAP
          rw [hNp] at p1 HAP
          rw [hNq] at q1 HAP
          clear hKp hKq hNp hNq hpc hqc hxp hxq
          by_cases hk1 : Kp = 4
          · have HF := hide (apB_no hiL hlk (by rw [HAP.out, hk1]; rfl))
            subst hk1
            clear hiL hkL
            go_wp2
            go_ret
            exact ⟨ret_bool HF.out.symm, HB2.out _ _⟩
          · have e1 : (Kp == 4) = false := by simpa using hk1
            by_cases hk2 : Kq = 4
            · have HF := hide (apB_no hiL hlk (by rw [HAP.out, hk2]; simp))
              subst hk2
              clear hiL hkL hk1
              go_wp2
              go_ret
              exact ⟨ret_bool HF.out.symm, HB2.out _ _⟩
            · have e2 : (Kq == 4) = false := by simpa using hk2
              cases hnn : (Np.toList == Nq.toList)
              · have HY : Hid (apP D (L[i]?.getD 0) (L[k]?.getD 0) = true) := hide (by rw [HAP.out, hnn]; simp [hk1, hk2])
                have HK2 : Hid (∀ j, j < k + 1 → apP D (L[i]?.getD 0) (L[j]?.getD 0) = true) := hide (fun j hj => by
                  by_cases e : j = k
                  · subst e; exact HY.out
                  · exact HK.out j (by omega))
                clear hiL hkL hk1 hk2
                go_wp2
                go_roundw
                case rel => exact ⟨k + 1, by omega, by go_num, hide (HB2.out _ _), HK2⟩
                case measure => simp [intOf]; omega
              · have HF := hide (apB_no hiL hlk (by rw [HAP.out, hnn]; simp))
                clear hiL hkL hk1 hk2
                go_wp2
                go_ret
                exact ⟨ret_bool HF.out.symm, HB2.out _ _⟩
        · have HA2 : Hid (∀ j, j < i + 1 → ∀ k, k < j → apP D (L[j]?.getD 0) (L[k]?.getD 0) = true) := hide (fun j hj k2 hk2 => by
            by_cases e : j = i
            · subst e; exact HK.out k2 (by omega)
            · exact HA.out j (by omega) k2 hk2)
          go_wp2
          go_roundw
          case rel => exact ⟨i + 1, by omega, by go_num, HB, HA2⟩
          case measure => simp [intOf]; omega
    · have HF : Hid (apB D L = true) := hide (apB_yes (fun j hj k hk => HA.out j (by rw [HM.out] at hj; omega) k hk))
      go_wp2
      go_ret
      exact ⟨ret_bool HF.out.symm, HB.out⟩
set_option maxRecDepth 100000 in
set_option maxHeartbeats 8000000 in
theorem s_clear (D : Pn) (n : Nat) (a : Option Addr) (cap : Nat) (w : World) (hD : D.n = n) (hz : pnTot D ≤ 1048576) (hr : PnAt w a D w.heap.size) :
    Calls Tryd.prog 25 #[.slice a n cap] w fun e w' => e = .returned (.bool (clB D)) ∧ Below w.heap.size w w' := by
  have HP := hide (s_particle D n a cap w hD hz hr)
  cases hpk : pkB D
  · rw [hpk] at HP
    have HE := hide (clB_wrong hpk)
    clear hD hz hr hpk
    go_enter Tryd.func25, Tryd.ntmps25
    go_wp2_with (first | (go_at_call 36; refine HP.out.mono ?_; rintro r w1 ⟨rfl, hb1⟩; have HB1 := hide hb1; clear hb1))
    go_ret
    exact ⟨ret_bool HE.out.symm, HB1.out⟩
  · have HPK := hide hpk
    have HD := hide hD
    have hRN := rn_of hD hpk hz
    have hn1 : 1 ≤ n ∧ n ≤ 40 := by rw [← hD]; exact (pk_facts hpk).1
    have CFI := hide (fun (W : World) (hW : Below w.heap.size w W) => s_firstOf D n a cap W hD hz (pnAt_up (pnAt_go hr hW) hW.size))
    obtain ⟨b0, off, rfl, hb0, hrow⟩ := hr (by rw [hD]; omega)
    have CP := hide (fun (x : Int) (W : World) (hW : Below w.heap.size w W) => s_pos D n b0 off cap x W hRN hn1.1 (Nat.lt_of_lt_of_le hb0 hW.size) (pnRow_up (pnRow_go hrow hb0 hW) hW.size))
    have CF := hide (fun (x : Int) (W : World) (hW : Below w.heap.size w W) => s_follow D n b0 off cap x W hRN (Nat.lt_of_lt_of_le hb0 hW.size) (pnRow_up (pnRow_go hrow hb0 hW) hW.size))
    have CA := hide (fun (ad : Option Addr) (m c : Nat) (L : List Int) (W : World) (hW : Below w.heap.size w W) => s_apart D n b0 off cap ad m c L W hRN (Nat.lt_of_lt_of_le hb0 hW.size) (pnRow_up (pnRow_go hrow hb0 hW) hW.size))
    have HFR : Hid (∀ z ∈ foV D, 0 ≤ z ∧ z < (n : Int)) := hide (by rw [← hD]; exact foV_range hpk)
    have hfl := foV_len (D := D)
    obtain ⟨FO, hFO⟩ : ∃ FO, foV D = FO := ⟨_, rfl⟩
    have HFO := hide hFO
    rw [hFO] at CFI HFR hfl
    rw [hpk] at HP
    clear hD hz hr hpk hrow hRN hFO
    unfold IntAns at CFI CF
    cases hap : apB D FO
    · have HE : Hid (clB D = false) := hide (clB_first (by rw [HFO.out]; exact hap))
      have HAP := hide hap
      clear hap
      go_enter Tryd.func25, Tryd.ntmps25
      go_wp2_with (first
        | (go_at_call 36; refine HP.out.mono ?_; rintro r w1 ⟨rfl, hb1⟩; have HB1 := hide hb1; clear hb1)
        | (go_at_call 15; refine (CFI.out _ HB1.out).mono ?_; rintro r w2 ⟨ad2, c2, rfl, ho2, hb2⟩; have HO2 := hide ho2; have HB2 := hide (HB1.out.trans (hb2.mono HB1.out.size)); clear ho2 hb2)
        | (go_at_call 50; refine (CA.out ad2 FO.length c2 FO _ HB2.out rfl (by omega) HFR.out (own_rowAt9 HO2.out)).mono ?_; rintro r w3 ⟨rfl, hb3⟩; rw [HAP.out]; have HB3 := hide (HB2.out.trans (hb3.mono HB2.out.size)); clear hb3))
      go_ret
      exact ⟨ret_bool HE.out.symm, HB3.out⟩
    · have HAP := hide hap
      clear hap
      go_enter Tryd.func25, Tryd.ntmps25
      go_wp2_with (first
        | (go_at_call 36; refine HP.out.mono ?_; rintro r w1 ⟨rfl, hb1⟩; have HB1 := hide hb1; clear hb1)
        | (go_at_call 15; refine (CFI.out _ HB1.out).mono ?_; rintro r w2 ⟨ad2, c2, rfl, ho2, hb2⟩; have HO2 := hide ho2; have HB2 := hide (HB1.out.trans (hb2.mono HB1.out.size)); clear ho2 hb2)
        | (go_at_call 50; refine (CA.out ad2 FO.length c2 FO _ HB2.out rfl (by omega) HFR.out (own_rowAt9 HO2.out)).mono ?_; rintro r w3 ⟨rfl, hb3⟩; rw [HAP.out]; have HB3 := hide (HB2.out.trans (hb3.mono HB2.out.size)); clear hb3))
      go_loopw [3] (fun mv wr => ∃ (i : Nat), i ≤ n ∧ mv = .int .i64 i ∧ Hid (Below w.heap.size w wr) ∧ Hid (∀ j, j < i → posB D j = true → apB D (flV D j) = true)) (fun mv _ => n - (intOf mv).toNat)
      case atStart => exact ⟨0, Nat.zero_le _, rfl, HB3, hide (fun j hj => by omega)⟩
      case round =>
        obtain ⟨i, hi, rfl, HB, HA⟩ := hrel
        by_cases hlt : i < n
        · have CPi := hide (CP.out (i : Int) wr HB.out)
          have hii : (i : Int) < (n : Int) := by omega
          cases hpo : posB D (i : Int)
          · have HA2 : Hid (∀ j, j < i + 1 → posB D j = true → apB D (flV D j) = true) := hide (fun j hj hp => by
              by_cases e : j = i
              · subst e; rw [hpo] at hp; cases hp
              · exact HA.out j (by omega) hp)
            rw [hpo] at CPi
            clear hpo
            go_wp2_with (first | (go_at_call 47; refine CPi.out.mono ?_; rintro r9 w9 ⟨rfl, h9⟩; rw [h9]; clear h9 w9))
            go_roundw
            case rel => exact ⟨i + 1, by omega, by go_num, HB, HA2⟩
            case measure => simp [intOf]; omega
          · have HPO := hide hpo
            rw [hpo] at CPi
            have CFi := hide (CF.out (i : Int) wr HB.out)
            have hv : srtL (foL D i n) = flV D i := by unfold flV; rw [if_pos ⟨HPK.out, hpo⟩, HD.out]
            rw [hv] at CFi
            have HVR : Hid (∀ z ∈ flV D i, 0 ≤ z ∧ z < (n : Int)) := hide (by rw [← HD.out]; exact flV_range HPK.out)
            have hvl := flV_len (D := D) (x := (i : Int))
            obtain ⟨V, hV⟩ : ∃ V, flV D i = V := ⟨_, rfl⟩
            have HV := hide hV
            rw [hV] at CFi HVR hvl
            clear hpo hv hV
            cases hap2 : apB D V
            · have HE : Hid (clB D = false) := hide (clB_no (i := i) (by rw [HD.out]; exact hlt) HPO.out (by rw [HV.out]; exact hap2))
              have HAP2 := hide hap2
              clear hap2
              go_wp2_with (first
                | (go_at_call 47; refine CPi.out.mono ?_; rintro r9 w9 ⟨rfl, h9⟩; rw [h9]; clear h9 w9)
                | (go_at_call 48; refine CFi.out.mono ?_; rintro r w2 ⟨ad2, c2, rfl, ho2, hb2⟩; have HO5 := hide ho2; have HB5 := hide (HB.out.trans (hb2.mono HB.out.size)); clear ho2 hb2)
                | (go_at_call 50; refine (CA.out _ V.length _ V _ HB5.out rfl (by omega) HVR.out (own_rowAt9 HO5.out)).mono ?_; rintro r w3 ⟨rfl, hb3⟩; rw [HAP2.out]; have HB6 := hide (HB5.out.trans (hb3.mono HB5.out.size)); clear hb3))
              go_ret
              exact ⟨ret_bool HE.out.symm, HB6.out⟩
            · have HA2 : Hid (∀ j, j < i + 1 → posB D j = true → apB D (flV D j) = true) := hide (fun j hj hp => by
                by_cases e : j = i
                · subst e; rw [HV.out]; exact hap2
                · exact HA.out j (by omega) hp)
              have HAP2 := hide hap2
              clear hap2
              go_wp2_with (first
                | (go_at_call 47; refine CPi.out.mono ?_; rintro r9 w9 ⟨rfl, h9⟩; rw [h9]; clear h9 w9)
                | (go_at_call 48; refine CFi.out.mono ?_; rintro r w2 ⟨ad2, c2, rfl, ho2, hb2⟩; have HO5 := hide ho2; have HB5 := hide (HB.out.trans (hb2.mono HB.out.size)); clear ho2 hb2)
                | (go_at_call 50; refine (CA.out _ V.length _ V _ HB5.out rfl (by omega) HVR.out (own_rowAt9 HO5.out)).mono ?_; rintro r w3 ⟨rfl, hb3⟩; rw [HAP2.out]; have HB6 := hide (HB5.out.trans (hb3.mono HB5.out.size)); clear hb3))
              go_roundw
              case rel => exact ⟨i + 1, by omega, by go_num, HB6, HA2⟩
              case measure => simp [intOf]; omega
        · have HE : Hid (clB D = true) := hide (clB_yes HPK.out (by rw [HFO.out]; exact HAP.out) (fun j hj hp => HA.out j (by rw [HD.out] at hj; omega) hp))
          go_wp2
          go_ret
          exact ⟨ret_bool HE.out.symm, HB.out⟩
end Go.Proofs.YteeglkkgkjmjpaaDoor
