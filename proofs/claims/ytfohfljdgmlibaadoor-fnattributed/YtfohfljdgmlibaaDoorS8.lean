/-
  Texts put together: TkT1, TkT2.
-/
import Derived.Test.YtfohfljdgmlibaaDoorS7
/-
  Contract: what a position tells of its rows.
-/
namespace Go.Proofs.YtfohfljdgmlibaaDoor
open Go.RowKit Go.Joins
set_option linter.unusedVariables false
set_option linter.unusedSimpArgs false
theorem leaf_kids {D : Pn} {i : Nat} (h : nodeB D i = true) (hk : D.K i = 1 ∨ D.K i = 4) : D.KL i = [] := by
  unfold nodeB ndB at h
  rcases hk with hk | hk
  · rw [hk] at h
    simp at h
    exact h.2.2
  · rw [hk] at h
    simp at h
    exact h.2.2
set_option maxRecDepth 100000 in
set_option maxHeartbeats 8000000 in
theorem tell_leaf1 (D : Pn) (n b0 off cap PB T TB B0 : Nat) (hRN : RN D n) (mv : Value) (e0 i : Nat) (hi : i < n) (hKK : D.K i = 1) (hIH : ∀ (c : Nat), c < i → ∀ (F : Nat → Nat) (w : World), TkW w D n b0 off cap PB T TB B0 → CellsAt w T (tkC mv F e0) → (∀ p, p < 41 → F p < 1099511627776) →
    Calls Tryd.prog 66 #[.int .i64 c, .pointer (some ⟨PB, 0, none⟩), .pointer (some ⟨T, 0, none⟩), .pointer (some ⟨TB, 0, none⟩)] w (TellA D c T mv F e0 w)) (F : Nat → Nat) (w : World) (hW : TkW w D n b0 off cap PB T TB B0) (hC : CellsAt w T (tkC mv F e0)) (hF : ∀ p, p < 41 → F p < 1099511627776) :
    Calls Tryd.prog 66 #[.int .i64 i, .pointer (some ⟨PB, 0, none⟩), .pointer (some ⟨T, 0, none⟩), .pointer (some ⟨TB, 0, none⟩)] w (TellA D i T mv F e0 w) := by
  have IH := hide hIH
  have HW := hide hW
  have HC := hide hC
  have HF := hide hF
  have hRN9 := hide hRN.2.2.1
  have HKID := hide (hRN.2.2.2.1 i hi)
  have HLO : Hid (Lo D i) := hide (fun j hj => hRN.2.2.2.1 j (by omega))
  obtain ⟨ad, cp, hc, hat, hcp⟩ := hW.row i (by rw [hRN.1]; exact hi)
  obtain ⟨c0, c1, c2, c3⟩ := hc
  have hin : (i : Int) < (n : Int) := by omega
  have hi00 : (0 : Int) ≤ (i : Int) := by omega
  have hn40 := hRN.2.1
  have hll := hRN.2.2.2.2.2 i hi
  have hoc : 0 ≤ D.OC i ∧ D.OC i ≤ 3 := by
    have h9 := hRN.2.2.1 i hi
    unfold nodeB ndB at h9
    simp only [Bool.and_eq_true, decide_eq_true_eq] at h9
    exact h9.1
  have HEQ := hide (nl_eq (D := D) (i := i) HLO.out)
  have hp0 := cellsAt_cell hW.pb 0
  have hPBl := cellsAt_lt hW.pb
  have hTBl := cellsAt_lt hW.tb
  have hTl := cellsAt_lt hC
  have hb0l : b0 < w.heap.size := Nat.lt_of_lt_of_le hW.hb0 hW.hsz
  simp only [List.getElem?_toArray, List.getElem?_cons_zero] at hp0
  have hK := hKK
  obtain ⟨NM, hNM⟩ : ∃ NM, D.NM i = NM := ⟨_, rfl⟩
  obtain ⟨OC, hOC⟩ : ∃ OC, D.OC i = OC := ⟨_, rfl⟩
  obtain ⟨L, hL⟩ : ∃ L, D.KL i = L := ⟨_, rfl⟩
  rw [hK] at c0 HEQ
  rw [hNM] at c1
  rw [hL] at c2 HKID hat hll HEQ
  rw [hOC] at c3 HEQ hoc
  have HAT := hide hat
  have HK := hide hK
  have HOC := hide hOC
  have HL := hide hL
  clear hW hC hF hIH hKK hat hK hNM hOC hL hRN hcp
  go_enter Tryd.func66, Tryd.ntmps66
  have CN := hide (fun (W : World) => i_only i W (by omega))
  have HX := hide (boxes3 w #[.bool false, .int .u64 0, .int .u64 0] #[.int .i64 1, .string NM, .slice ad L.length cp, .int .i64 OC] #[.bool false, .int .u64 ((2 ^ i : Nat) : Int), .int .u64 ((2 ^ i : Nat) : Int)] 83 34 83)
  obtain ⟨rs, hrs⟩ : ∃ rs : Array Value, #[.bool false, .int .u64 0, .int .u64 0] = rs := ⟨_, rfl⟩
  have HRS := hide hrs
  clear hrs
  have HPB := hide (bitS_one (n := i) (by omega))
  obtain ⟨f, hpw⟩ : ∃ f, 2 ^ i = f := ⟨_, rfl⟩
  rw [hpw] at CN HX HPB
  clear hpw
  have HB1 : Hid (TkB w (((w.alloc (.cells #[.bool false, .int .u64 0, .int .u64 0] 83)).alloc (.cells #[.int .i64 1, .string NM, .slice ad L.length cp, .int .i64 OC] 34)).alloc (.cells #[.bool false, .int .u64 (f : Int), .int .u64 (f : Int)] 83)) T rs #[.int .i64 1, .string NM, .slice ad L.length cp, .int .i64 OC] false f f mv F e0) := hide ⟨by rw [← HRS.out]; exact HX.out.1, HX.out.2.1, HX.out.2.2.1, cellsAt_go HC.out HX.out.2.2.2 hTl, grown_of HX.out.2.2.2⟩
  go_wp2_with (first | (go_at_call 35; refine (CN.out _).mono ?_; rintro r9 w9 ⟨rfl, h9⟩; rw [h9]; clear h9 w9) | (go_at_call 69; fail))
  obtain ⟨wr, hwr⟩ : ∃ wr, (((w.alloc (.cells #[.bool false, .int .u64 0, .int .u64 0] 83)).alloc (.cells #[.int .i64 1, .string NM, .slice ad L.length cp, .int .i64 OC] 34)).alloc (.cells #[.bool false, .int .u64 (f : Int), .int .u64 (f : Int)] 83)) = wr := ⟨_, rfl⟩
  rw [hwr] at HB1 ⊢
  obtain ⟨e, he, hB⟩ : ∃ e, e = false ∧ TkB w wr T rs #[.int .i64 1, .string NM, .slice ad L.length cp, .int .i64 OC] e f f mv F e0 := ⟨false, rfl, HB1.out⟩
  have HB := hide hB
  obtain ⟨l, hl⟩ : ∃ l, f = l := ⟨_, rfl⟩
  have HE : Hid (nl D i = (decide (OC = 1 ∨ OC = 2) || e)) := hide (by rw [HEQ.out, he]; unfold bdN; rw [if_neg (by decide), if_neg (by decide)])
  have HBf : Hid (BitS f (ed D false i)) := hide (by rw [ed_leaf HLO.out (by rw [HK.out]; decide)]; exact HPB.out)
  have HBl : Hid (BitS f (ed D true i)) := hide (by rw [ed_leaf HLO.out (by rw [HK.out]; decide)]; exact HPB.out)
  have HLk : Hid (LkB F F (fun _ _ => False)) := hide (lkB_refl HF.out (fun _ _ h => h))
  have HRL : Hid (∀ p q : Nat, lk D i p q ↔ False ∨ (2 ≤ OC ∧ (p : Int) ∈ ed D true i ∧ (q : Int) ∈ ed D false i)) := hide (fun p q => by
    have hno : ∀ k, ¬ k ∈ D.KL i := fun k hk => by
      have h9 := leaf_kids (hRN9.out i hi) (by rw [HK.out]; decide)
      rw [h9] at hk
      exact absurd hk (List.not_mem_nil)
    rw [lk_other HLO.out (by rw [HK.out]; decide), HOC.out]
    exact or_congr_left ⟨fun ⟨k, hk, _⟩ => hno k hk, False.elim⟩)
  clear hwr he hB HB1 HX HPB hl l CN
  have n3 := cellsAt_cell HB.out.2.1 3
  have r0 := cellsAt_cell HB.out.1 0
  have r1 := cellsAt_cell HB.out.1 1
  have r2 := cellsAt_cell HB.out.1 2
  have y0 := cellsAt_frozen HB.out.1 0
  have y1 := cellsAt_frozen HB.out.1 1
  have y2 := cellsAt_frozen HB.out.1 2
  rw [← HRS.out] at r0 r1 r2
  simp only [List.getElem?_toArray, List.getElem?_cons_zero, List.getElem?_cons_succ] at n3 r0 r1 r2
  obtain ⟨o0, o1, o2, z0, z1, z2⟩ := tkB_own HB.out
  have CP := hide (fun (W : World) => i_opt9 OC W)
  by_cases ho : OC = 2 ∨ OC = 3
  · have CO := hide (fun (W : World) => i_often OC W)
    rw [decide_eq_true ho] at CO
    have CL := hide (i_link T f f mv F e0 wr (Nat.lt_of_lt_of_le HBl.out.1 (by decide)) (Nat.lt_of_lt_of_le HBf.out.1 (by decide)) (lkB_lt HLk.out) (tkW_go HW.out HB.out.2.2.2.2).tz HB.out.2.2.2.1)
    have HLK2 : Hid (LkB F (lkU F (bts f) f) (lk D i)) := hide (lkB_trans HLk.out (lkB_link (fun p hp => (HLk.out p hp).1) HBl.out HBf.out) (fun p q => by rw [HRL.out p q]; exact or_congr_right ⟨fun h => h.2, fun h => ⟨by omega, h⟩⟩))
    clear ho
    obtain ⟨B, hB⟩ : ∃ B, decide (OC = 1 ∨ OC = 2) = B := ⟨_, rfl⟩
    rw [hB] at HE CP
    clear hB
    cases e
    all_goals
      go_wp2_with (first
        | (go_at_call 69; refine (CO.out _).mono ?_; rintro r9 w9 ⟨rfl, h9⟩; rw [h9]; clear h9 w9)
        | (go_at_call 71; refine (CP.out _).mono ?_; rintro r9 w9 ⟨rfl, h9⟩; rw [h9]; clear h9 w9)
        | (go_at_call 70; refine CL.out.mono ?_; rintro r9 w2 ⟨rfl, hC2, hg2⟩; have HB2 := hide (tkB_go HB.out hg2 hC2 hTl); obtain ⟨o0, o1, o2, z0, z1, z2⟩ := tkB_own HB2.out; have n3 := cellsAt_cell HB2.out.2.1 3; have r0 := cellsAt_cell HB2.out.1 0; have r1 := cellsAt_cell HB2.out.1 1; have r2 := cellsAt_cell HB2.out.1 2; have y0 := cellsAt_frozen HB2.out.1 0; have y1 := cellsAt_frozen HB2.out.1 1; have y2 := cellsAt_frozen HB2.out.1 2; rw [← HRS.out] at r0 r1 r2; simp only [List.getElem?_toArray, List.getElem?_cons_zero, List.getElem?_cons_succ] at n3 r0 r1 r2; clear hC2 hg2))
      refine bodyPost_ret (v := .agg #[_, _, _]) (by simp [results, Tryd.results66, go_sem, r0, r1, r2]; first | done | exact ⟨rfl, rfl, rfl⟩) rfl ⟨f, f, lkU F (bts f) f, ?_, HBf.out, HBl.out, HLK2.out, ?_, ?_⟩
      · rw [HE.out]; first | rfl | (cases B <;> rfl)
      · first | exact tkB_end (tkB_set0 HB2.out hTl) hTl
      · first | exact tkB_end2 (tkB_set0 HB2.out hTl) hTl
  · have CO := hide (fun (W : World) => i_often OC W)
    rw [decide_eq_false ho] at CO
    have HLK2 : Hid (LkB F F (lk D i)) := hide (lkB_congr HLk.out (fun p q => by rw [HRL.out p q]; exact ⟨.inl, fun h => h.elim id (fun h => absurd h.1 (by omega))⟩))
    clear ho
    obtain ⟨B, hB⟩ : ∃ B, decide (OC = 1 ∨ OC = 2) = B := ⟨_, rfl⟩
    rw [hB] at HE CP
    clear hB
    cases e
    all_goals
      go_wp2_with (first
        | (go_at_call 69; refine (CO.out _).mono ?_; rintro r9 w9 ⟨rfl, h9⟩; rw [h9]; clear h9 w9)
        | (go_at_call 71; refine (CP.out _).mono ?_; rintro r9 w9 ⟨rfl, h9⟩; rw [h9]; clear h9 w9))
      refine bodyPost_ret (v := .agg #[_, _, _]) (by simp [results, Tryd.results66, go_sem, r0, r1, r2]; first | done | exact ⟨rfl, rfl, rfl⟩) rfl ⟨f, f, F, ?_, HBf.out, HBl.out, HLK2.out, ?_, ?_⟩
      · rw [HE.out]; first | rfl | (cases B <;> rfl)
      · first | exact tkB_end (tkB_set0 HB.out hTl) hTl
      · first | exact tkB_end2 (tkB_set0 HB.out hTl) hTl
set_option maxRecDepth 100000 in
set_option maxHeartbeats 8000000 in
theorem tell_leaf4 (D : Pn) (n b0 off cap PB T TB B0 : Nat) (hRN : RN D n) (mv : Value) (e0 i : Nat) (hi : i < n) (hKK : D.K i = 4) (hIH : ∀ (c : Nat), c < i → ∀ (F : Nat → Nat) (w : World), TkW w D n b0 off cap PB T TB B0 → CellsAt w T (tkC mv F e0) → (∀ p, p < 41 → F p < 1099511627776) →
    Calls Tryd.prog 66 #[.int .i64 c, .pointer (some ⟨PB, 0, none⟩), .pointer (some ⟨T, 0, none⟩), .pointer (some ⟨TB, 0, none⟩)] w (TellA D c T mv F e0 w)) (F : Nat → Nat) (w : World) (hW : TkW w D n b0 off cap PB T TB B0) (hC : CellsAt w T (tkC mv F e0)) (hF : ∀ p, p < 41 → F p < 1099511627776) :
    Calls Tryd.prog 66 #[.int .i64 i, .pointer (some ⟨PB, 0, none⟩), .pointer (some ⟨T, 0, none⟩), .pointer (some ⟨TB, 0, none⟩)] w (TellA D i T mv F e0 w) := by
  have IH := hide hIH
  have HW := hide hW
  have HC := hide hC
  have HF := hide hF
  have hRN9 := hide hRN.2.2.1
  have HKID := hide (hRN.2.2.2.1 i hi)
  have HLO : Hid (Lo D i) := hide (fun j hj => hRN.2.2.2.1 j (by omega))
  obtain ⟨ad, cp, hc, hat, hcp⟩ := hW.row i (by rw [hRN.1]; exact hi)
  obtain ⟨c0, c1, c2, c3⟩ := hc
  have hin : (i : Int) < (n : Int) := by omega
  have hi00 : (0 : Int) ≤ (i : Int) := by omega
  have hn40 := hRN.2.1
  have hll := hRN.2.2.2.2.2 i hi
  have hoc : 0 ≤ D.OC i ∧ D.OC i ≤ 3 := by
    have h9 := hRN.2.2.1 i hi
    unfold nodeB ndB at h9
    simp only [Bool.and_eq_true, decide_eq_true_eq] at h9
    exact h9.1
  have HEQ := hide (nl_eq (D := D) (i := i) HLO.out)
  have hp0 := cellsAt_cell hW.pb 0
  have hPBl := cellsAt_lt hW.pb
  have hTBl := cellsAt_lt hW.tb
  have hTl := cellsAt_lt hC
  have hb0l : b0 < w.heap.size := Nat.lt_of_lt_of_le hW.hb0 hW.hsz
  simp only [List.getElem?_toArray, List.getElem?_cons_zero] at hp0
  have hK := hKK
  obtain ⟨NM, hNM⟩ : ∃ NM, D.NM i = NM := ⟨_, rfl⟩
  obtain ⟨OC, hOC⟩ : ∃ OC, D.OC i = OC := ⟨_, rfl⟩
  obtain ⟨L, hL⟩ : ∃ L, D.KL i = L := ⟨_, rfl⟩
  rw [hK] at c0 HEQ
  rw [hNM] at c1
  rw [hL] at c2 HKID hat hll HEQ
  rw [hOC] at c3 HEQ hoc
  have HAT := hide hat
  have HK := hide hK
  have HOC := hide hOC
  have HL := hide hL
  clear hW hC hF hIH hKK hat hK hNM hOC hL hRN hcp
  go_enter Tryd.func66, Tryd.ntmps66
  have CN := hide (fun (W : World) => i_only i W (by omega))
  have HX := hide (boxes3 w #[.bool false, .int .u64 0, .int .u64 0] #[.int .i64 4, .string NM, .slice ad L.length cp, .int .i64 OC] #[.bool false, .int .u64 ((2 ^ i : Nat) : Int), .int .u64 ((2 ^ i : Nat) : Int)] 83 34 83)
  obtain ⟨rs, hrs⟩ : ∃ rs : Array Value, #[.bool false, .int .u64 0, .int .u64 0] = rs := ⟨_, rfl⟩
  have HRS := hide hrs
  clear hrs
  have HPB := hide (bitS_one (n := i) (by omega))
  obtain ⟨f, hpw⟩ : ∃ f, 2 ^ i = f := ⟨_, rfl⟩
  rw [hpw] at CN HX HPB
  clear hpw
  have HB1 : Hid (TkB w (((w.alloc (.cells #[.bool false, .int .u64 0, .int .u64 0] 83)).alloc (.cells #[.int .i64 4, .string NM, .slice ad L.length cp, .int .i64 OC] 34)).alloc (.cells #[.bool false, .int .u64 (f : Int), .int .u64 (f : Int)] 83)) T rs #[.int .i64 4, .string NM, .slice ad L.length cp, .int .i64 OC] false f f mv F e0) := hide ⟨by rw [← HRS.out]; exact HX.out.1, HX.out.2.1, HX.out.2.2.1, cellsAt_go HC.out HX.out.2.2.2 hTl, grown_of HX.out.2.2.2⟩
  go_wp2_with (first | (go_at_call 35; refine (CN.out _).mono ?_; rintro r9 w9 ⟨rfl, h9⟩; rw [h9]; clear h9 w9) | (go_at_call 69; fail))
  obtain ⟨wr, hwr⟩ : ∃ wr, (((w.alloc (.cells #[.bool false, .int .u64 0, .int .u64 0] 83)).alloc (.cells #[.int .i64 4, .string NM, .slice ad L.length cp, .int .i64 OC] 34)).alloc (.cells #[.bool false, .int .u64 (f : Int), .int .u64 (f : Int)] 83)) = wr := ⟨_, rfl⟩
  rw [hwr] at HB1 ⊢
  obtain ⟨e, he, hB⟩ : ∃ e, e = false ∧ TkB w wr T rs #[.int .i64 4, .string NM, .slice ad L.length cp, .int .i64 OC] e f f mv F e0 := ⟨false, rfl, HB1.out⟩
  have HB := hide hB
  obtain ⟨l, hl⟩ : ∃ l, f = l := ⟨_, rfl⟩
  have HE : Hid (nl D i = (decide (OC = 1 ∨ OC = 2) || e)) := hide (by rw [HEQ.out, he]; unfold bdN; rw [if_neg (by decide), if_neg (by decide)])
  have HBf : Hid (BitS f (ed D false i)) := hide (by rw [ed_leaf HLO.out (by rw [HK.out]; decide)]; exact HPB.out)
  have HBl : Hid (BitS f (ed D true i)) := hide (by rw [ed_leaf HLO.out (by rw [HK.out]; decide)]; exact HPB.out)
  have HLk : Hid (LkB F F (fun _ _ => False)) := hide (lkB_refl HF.out (fun _ _ h => h))
  have HRL : Hid (∀ p q : Nat, lk D i p q ↔ False ∨ (2 ≤ OC ∧ (p : Int) ∈ ed D true i ∧ (q : Int) ∈ ed D false i)) := hide (fun p q => by
    have hno : ∀ k, ¬ k ∈ D.KL i := fun k hk => by
      have h9 := leaf_kids (hRN9.out i hi) (by rw [HK.out]; decide)
      rw [h9] at hk
      exact absurd hk (List.not_mem_nil)
    rw [lk_other HLO.out (by rw [HK.out]; decide), HOC.out]
    exact or_congr_left ⟨fun ⟨k, hk, _⟩ => hno k hk, False.elim⟩)
  clear hwr he hB HB1 HX HPB hl l CN
  have n3 := cellsAt_cell HB.out.2.1 3
  have r0 := cellsAt_cell HB.out.1 0
  have r1 := cellsAt_cell HB.out.1 1
  have r2 := cellsAt_cell HB.out.1 2
  have y0 := cellsAt_frozen HB.out.1 0
  have y1 := cellsAt_frozen HB.out.1 1
  have y2 := cellsAt_frozen HB.out.1 2
  rw [← HRS.out] at r0 r1 r2
  simp only [List.getElem?_toArray, List.getElem?_cons_zero, List.getElem?_cons_succ] at n3 r0 r1 r2
  obtain ⟨o0, o1, o2, z0, z1, z2⟩ := tkB_own HB.out
  have CP := hide (fun (W : World) => i_opt9 OC W)
  by_cases ho : OC = 2 ∨ OC = 3
  · have CO := hide (fun (W : World) => i_often OC W)
    rw [decide_eq_true ho] at CO
    have CL := hide (i_link T f f mv F e0 wr (Nat.lt_of_lt_of_le HBl.out.1 (by decide)) (Nat.lt_of_lt_of_le HBf.out.1 (by decide)) (lkB_lt HLk.out) (tkW_go HW.out HB.out.2.2.2.2).tz HB.out.2.2.2.1)
    have HLK2 : Hid (LkB F (lkU F (bts f) f) (lk D i)) := hide (lkB_trans HLk.out (lkB_link (fun p hp => (HLk.out p hp).1) HBl.out HBf.out) (fun p q => by rw [HRL.out p q]; exact or_congr_right ⟨fun h => h.2, fun h => ⟨by omega, h⟩⟩))
    clear ho
    obtain ⟨B, hB⟩ : ∃ B, decide (OC = 1 ∨ OC = 2) = B := ⟨_, rfl⟩
    rw [hB] at HE CP
    clear hB
    cases e
    all_goals
      go_wp2_with (first
        | (go_at_call 69; refine (CO.out _).mono ?_; rintro r9 w9 ⟨rfl, h9⟩; rw [h9]; clear h9 w9)
        | (go_at_call 71; refine (CP.out _).mono ?_; rintro r9 w9 ⟨rfl, h9⟩; rw [h9]; clear h9 w9)
        | (go_at_call 70; refine CL.out.mono ?_; rintro r9 w2 ⟨rfl, hC2, hg2⟩; have HB2 := hide (tkB_go HB.out hg2 hC2 hTl); obtain ⟨o0, o1, o2, z0, z1, z2⟩ := tkB_own HB2.out; have n3 := cellsAt_cell HB2.out.2.1 3; have r0 := cellsAt_cell HB2.out.1 0; have r1 := cellsAt_cell HB2.out.1 1; have r2 := cellsAt_cell HB2.out.1 2; have y0 := cellsAt_frozen HB2.out.1 0; have y1 := cellsAt_frozen HB2.out.1 1; have y2 := cellsAt_frozen HB2.out.1 2; rw [← HRS.out] at r0 r1 r2; simp only [List.getElem?_toArray, List.getElem?_cons_zero, List.getElem?_cons_succ] at n3 r0 r1 r2; clear hC2 hg2))
      refine bodyPost_ret (v := .agg #[_, _, _]) (by simp [results, Tryd.results66, go_sem, r0, r1, r2]; first | done | exact ⟨rfl, rfl, rfl⟩) rfl ⟨f, f, lkU F (bts f) f, ?_, HBf.out, HBl.out, HLK2.out, ?_, ?_⟩
      · rw [HE.out]; first | rfl | (cases B <;> rfl)
      · first | exact tkB_end (tkB_set0 HB2.out hTl) hTl
      · first | exact tkB_end2 (tkB_set0 HB2.out hTl) hTl
  · have CO := hide (fun (W : World) => i_often OC W)
    rw [decide_eq_false ho] at CO
    have HLK2 : Hid (LkB F F (lk D i)) := hide (lkB_congr HLk.out (fun p q => by rw [HRL.out p q]; exact ⟨.inl, fun h => h.elim id (fun h => absurd h.1 (by omega))⟩))
    clear ho
    obtain ⟨B, hB⟩ : ∃ B, decide (OC = 1 ∨ OC = 2) = B := ⟨_, rfl⟩
    rw [hB] at HE CP
    clear hB
    cases e
    all_goals
      go_wp2_with (first
        | (go_at_call 69; refine (CO.out _).mono ?_; rintro r9 w9 ⟨rfl, h9⟩; rw [h9]; clear h9 w9)
        | (go_at_call 71; refine (CP.out _).mono ?_; rintro r9 w9 ⟨rfl, h9⟩; rw [h9]; clear h9 w9))
      refine bodyPost_ret (v := .agg #[_, _, _]) (by simp [results, Tryd.results66, go_sem, r0, r1, r2]; first | done | exact ⟨rfl, rfl, rfl⟩) rfl ⟨f, f, F, ?_, HBf.out, HBl.out, HLK2.out, ?_, ?_⟩
      · rw [HE.out]; first | rfl | (cases B <;> rfl)
      · first | exact tkB_end (tkB_set0 HB.out hTl) hTl
      · first | exact tkB_end2 (tkB_set0 HB.out hTl) hTl
end Go.Proofs.YtfohfljdgmlibaaDoor

/-
  Contract: what a row of nodes tells.
-/
namespace Go.Proofs.YtfohfljdgmlibaaDoor
open Go.RowKit Go.Joins
set_option linter.unusedVariables false
set_option linter.unusedSimpArgs false
set_option maxRecDepth 100000 in
set_option maxHeartbeats 8000000 in
theorem tell_seq (D : Pn) (n b0 off cap PB T TB B0 : Nat) (hRN : RN D n) (mv : Value) (e0 i : Nat) (hi : i < n) (hKK : D.K i = 2) (hIH : ∀ (c : Nat), c < i → ∀ (F : Nat → Nat) (w : World), TkW w D n b0 off cap PB T TB B0 → CellsAt w T (tkC mv F e0) → (∀ p, p < 41 → F p < 1099511627776) →
    Calls Tryd.prog 66 #[.int .i64 c, .pointer (some ⟨PB, 0, none⟩), .pointer (some ⟨T, 0, none⟩), .pointer (some ⟨TB, 0, none⟩)] w (TellA D c T mv F e0 w)) (F : Nat → Nat) (w : World) (hW : TkW w D n b0 off cap PB T TB B0) (hC : CellsAt w T (tkC mv F e0)) (hF : ∀ p, p < 41 → F p < 1099511627776) :
    Calls Tryd.prog 66 #[.int .i64 i, .pointer (some ⟨PB, 0, none⟩), .pointer (some ⟨T, 0, none⟩), .pointer (some ⟨TB, 0, none⟩)] w (TellA D i T mv F e0 w) := by
  have IH := hide hIH
  have HW := hide hW
  have HC := hide hC
  have HF := hide hF
  have HKID := hide (hRN.2.2.2.1 i hi)
  have HLO : Hid (Lo D i) := hide (fun j hj => hRN.2.2.2.1 j (by omega))
  obtain ⟨ad, cp, hc, hat, hcp⟩ := hW.row i (by rw [hRN.1]; exact hi)
  obtain ⟨c0, c1, c2, c3⟩ := hc
  have hin : (i : Int) < (n : Int) := by omega
  have hi00 : (0 : Int) ≤ (i : Int) := by omega
  have hn40 := hRN.2.1
  have hll := hRN.2.2.2.2.2 i hi
  have hoc : 0 ≤ D.OC i ∧ D.OC i ≤ 3 := by
    have h9 := hRN.2.2.1 i hi
    unfold nodeB ndB at h9
    simp only [Bool.and_eq_true, decide_eq_true_eq] at h9
    exact h9.1
  have HEQ := hide (nl_eq (D := D) (i := i) HLO.out)
  have hp0 := cellsAt_cell hW.pb 0
  have hPBl := cellsAt_lt hW.pb
  have hTBl := cellsAt_lt hW.tb
  have hTl := cellsAt_lt hC
  have hb0l : b0 < w.heap.size := Nat.lt_of_lt_of_le hW.hb0 hW.hsz
  simp only [List.getElem?_toArray, List.getElem?_cons_zero] at hp0
  have hK := hKK
  obtain ⟨NM, hNM⟩ : ∃ NM, D.NM i = NM := ⟨_, rfl⟩
  obtain ⟨OC, hOC⟩ : ∃ OC, D.OC i = OC := ⟨_, rfl⟩
  obtain ⟨L, hL⟩ : ∃ L, D.KL i = L := ⟨_, rfl⟩
  rw [hK] at c0 HEQ
  rw [hNM] at c1
  rw [hL] at c2 HKID hat hll HEQ
  rw [hOC] at c3 HEQ hoc
  have HAT := hide hat
  have HK := hide hK
  have HOC := hide hOC
  have HL := hide hL
  clear hW hC hF hIH hKK hat hK hNM hOC hL hRN hcp
  go_enter Tryd.func66, Tryd.ntmps66
  go_wp2
  have HX := hide (boxes3 w #[.bool false, .int .u64 0, .int .u64 0] #[.int .i64 2, .string NM, .slice ad L.length cp, .int .i64 OC] #[.bool true, .int .u64 0, .int .u64 0] 83 34 83)
  obtain ⟨rs, hrs⟩ : ∃ rs : Array Value, #[.bool false, .int .u64 0, .int .u64 0] = rs := ⟨_, rfl⟩
  have HRS := hide hrs
  clear hrs
  go_loopw [30] (fun mv9 wr => ∃ (m : Nat) (e : Bool) (f l : Nat) (F' : Nat → Nat), m ≤ L.length ∧ mv9 = .int .i64 m ∧ Hid (TkB w wr T rs #[.int .i64 2, .string NM, .slice ad L.length cp, .int .i64 OC] e f l mv F' e0) ∧ Hid (e = (L.take m).all fun k => nl D k.toNat) ∧ Hid (BitS f (seqE (fun k => ed D false k.toNat) (fun k => nl D k.toNat) (L.take m))) ∧ Hid (BitS l (seqE (fun k => ed D true k.toNat) (fun k => nl D k.toNat) (L.take m).reverse)) ∧ Hid (LkB F F' (SqR D (L.take m)))) (fun mv9 _ => L.length - (intOf mv9).toNat)
  case atStart => exact ⟨0, true, 0, 0, F, Nat.zero_le _, rfl, hide ⟨by rw [← HRS.out]; exact HX.out.1, HX.out.2.1, HX.out.2.2.1, cellsAt_go HC.out HX.out.2.2.2 hTl, grown_of HX.out.2.2.2⟩, hide rfl, hide (by rw [List.take_zero]; exact bitS_nil), hide (by rw [List.take_zero]; exact bitS_nil), hide (lkB_refl HF.out (fun p q => by rw [List.take_zero]; exact sqR_nil D p q))⟩
  case round =>
    obtain ⟨m, e, f, l, F', hm, rfl, HB, HE, HBf, HBl, HLk⟩ := hrel
    by_cases hlt : m < L.length
    · obtain ⟨b9, off9, rfl, hb9, hc9⟩ := HAT.out (fun h => by rw [h] at hlt; exact absurd hlt (Nat.not_lt_zero _))
      have hWr := tkW_go HW.out HB.out.2.2.2.2
      have k0 := ((grown_below HB.out.2.2.2.2 HW.out.hB HW.out.hsz).cell (p := ⟨b9, off9 + m, none⟩) hb9).trans (hc9 m hlt)
      have hmi : (m : Int) < (L.length : Int) := by omega
      have hm0 : (0 : Int) ≤ (m : Int) := by omega
      have hkk := HKID.out (L[m]?.getD 0) (by rw [List.getElem?_eq_getElem hlt]; exact List.getElem_mem hlt)
      obtain ⟨v, hv⟩ : ∃ v, L[m]?.getD 0 = v := ⟨_, rfl⟩
      have HLM : Hid (L.take (m + 1) = L.take m ++ [v]) := hide (by rw [List.take_succ_eq_append_getElem hlt, ← hv, List.getElem?_eq_getElem hlt]; rfl)
      rw [hv] at k0 hkk
      obtain ⟨c, rfl⟩ : ∃ c : Nat, v = (c : Int) := ⟨v.toNat, by omega⟩
      have t0 := cellsAt_cell hWr.tb 0
      simp only [List.getElem?_toArray, List.getElem?_cons_zero] at t0
      unfold tellV at t0
      obtain ⟨o0, o1, o2, -, -, -⟩ := tkB_own HB.out
      have CI := hide (IH.out c (by omega) F' wr.drew (tkW_drew hWr) HB.out.2.2.2.1 (fun p hp => (HLk.out p hp).1))
      have HB0 := hide (tkB_drew HB.out)
      have HWr := hide hWr
      clear hc9 hv hWr
      go_wp2_with fail
      go_region_with (first
        | (go_at_call 66; refine CI.out.mono ?_; rintro r w2 ⟨fk, lk9, F2, rfl, hfk, hlk, hLk, hC2, hg2⟩; have HFK := hide hfk; have HLK := hide hlk; have HL2 := hide hLk; have HB2 := hide (tkB_go HB0.out hg2 hC2 hTl); have HW2 := hide (tkW_go (tkW_drew HWr.out) hg2); obtain ⟨o0, o1, o2, -, -, -⟩ := tkB_own HB2.out; clear hfk hlk hLk hC2 hg2)
        | (go_at_call 67; have CJ := i_joined T e f l (nl D c) fk lk9 mv F2 e0 w2 (Nat.lt_of_lt_of_le HBf.out.1 (by decide)) (Nat.lt_of_lt_of_le HBl.out.1 (by decide)) (Nat.lt_of_lt_of_le HFK.out.1 (by decide)) (Nat.lt_of_lt_of_le HLK.out.1 (by decide)) (lkB_lt HL2.out) HW2.out.tz HB2.out.2.2.2.1; unfold paV at CJ; refine CJ.mono ?_; clear CJ; rintro r w3 ⟨rfl, hC3, hg3⟩; have HB3 := hide (tkB_go HB2.out hg3 hC3 hTl); obtain ⟨o0, o1, o2, z0, z1, z2⟩ := tkB_own HB3.out; clear hC3 hg3))
      all_goals
        go_wp2
        go_roundw
        case rel =>
          refine ⟨m + 1, (e && nl D c), thF e f fk, thL (nl D c) lk9 l, lkU F2 (bts l) fk, by omega, by go_num, hide (tkB_set HB3.out hTl), hide ?_, hide ?_, hide ?_, hide ?_⟩
          · rw [HLM.out, List.all_append, ← HE.out]
            simp
          · have h9 := (seq_next HBf.out HBl.out (k := (c : Int)) HFK.out HLK.out).1
            rw [← HE.out] at h9
            rw [HLM.out]
            exact h9
          · rw [HLM.out]
            exact (seq_next HBf.out HBl.out (k := (c : Int)) HFK.out HLK.out).2
          · exact lkB_trans HLk.out (lkB_trans (R := fun p q => lk D c p q ∨ (p ∈ seqE (fun k => ed D true k.toNat) (fun k => nl D k.toNat) (L.take m).reverse ∧ q ∈ ed D false c)) HL2.out (lkB_link (fun p hp => (HL2.out p hp).1) HBl.out HFK.out) (fun p q => Iff.rfl)) (fun p q => by rw [HLM.out]; exact sqR_snoc D (L.take m) (c : Int) p q)
        case measure => simp [intOf]; omega
    · have hml : m = L.length := by omega
      subst hml
      rw [List.take_length] at HE HBf HBl HLk
      have HRL : Hid (∀ p q : Nat, lk D i p q ↔ SqR D L p q ∨ (2 ≤ OC ∧ (p : Int) ∈ ed D true i ∧ (q : Int) ∈ ed D false i)) := hide (fun p q => by rw [lk_seq HLO.out HK.out, HL.out, HOC.out])
      have hE2 : nl D i = (decide (OC = 1 ∨ OC = 2) || e) := by
        rw [HEQ.out, HE.out]
        unfold bdN
        rw [if_pos rfl, List.all_map]
        rfl
      replace HE := hide hE2
      clear hE2
      have h1 := ed_seq (rev := false) HLO.out HK.out
      have h2 := ed_seq (rev := true) HLO.out HK.out
      rw [HL.out] at h1 h2
      replace HBf : Hid (BitS f (ed D false i)) := hide (by rw [h1]; exact HBf.out)
      replace HBl : Hid (BitS l (ed D true i)) := hide (by rw [h2]; exact HBl.out)
      clear h1 h2
      have n3 := cellsAt_cell HB.out.2.1 3
      have r0 := cellsAt_cell HB.out.1 0
      have r1 := cellsAt_cell HB.out.1 1
      have r2 := cellsAt_cell HB.out.1 2
      have y0 := cellsAt_frozen HB.out.1 0
      have y1 := cellsAt_frozen HB.out.1 1
      have y2 := cellsAt_frozen HB.out.1 2
      rw [← HRS.out] at r0 r1 r2
      simp only [List.getElem?_toArray, List.getElem?_cons_zero, List.getElem?_cons_succ] at n3 r0 r1 r2
      obtain ⟨o0, o1, o2, z0, z1, z2⟩ := tkB_own HB.out
      have CP := hide (fun (W : World) => i_opt9 OC W)
      by_cases ho : OC = 2 ∨ OC = 3
      · have CO := hide (fun (W : World) => i_often OC W)
        rw [decide_eq_true ho] at CO
        have CL := hide (i_link T l f mv F' e0 wr (Nat.lt_of_lt_of_le HBl.out.1 (by decide)) (Nat.lt_of_lt_of_le HBf.out.1 (by decide)) (lkB_lt HLk.out) (tkW_go HW.out HB.out.2.2.2.2).tz HB.out.2.2.2.1)
        have HLK2 : Hid (LkB F (lkU F' (bts l) f) (lk D i)) := hide (lkB_trans HLk.out (lkB_link (fun p hp => (HLk.out p hp).1) HBl.out HBf.out) (fun p q => by rw [HRL.out p q]; exact or_congr_right ⟨fun h => h.2, fun h => ⟨by omega, h⟩⟩))
        clear ho
        obtain ⟨B, hB⟩ : ∃ B, decide (OC = 1 ∨ OC = 2) = B := ⟨_, rfl⟩
        rw [hB] at HE CP
        clear hB
        cases e
        all_goals
          go_wp2_with (first
            | (go_at_call 69; refine (CO.out _).mono ?_; rintro r9 w9 ⟨rfl, h9⟩; rw [h9]; clear h9 w9)
            | (go_at_call 71; refine (CP.out _).mono ?_; rintro r9 w9 ⟨rfl, h9⟩; rw [h9]; clear h9 w9)
            | (go_at_call 70; refine CL.out.mono ?_; rintro r9 w2 ⟨rfl, hC2, hg2⟩; have HB2 := hide (tkB_go HB.out hg2 hC2 hTl); obtain ⟨o0, o1, o2, z0, z1, z2⟩ := tkB_own HB2.out; have n3 := cellsAt_cell HB2.out.2.1 3; have r0 := cellsAt_cell HB2.out.1 0; have r1 := cellsAt_cell HB2.out.1 1; have r2 := cellsAt_cell HB2.out.1 2; have y0 := cellsAt_frozen HB2.out.1 0; have y1 := cellsAt_frozen HB2.out.1 1; have y2 := cellsAt_frozen HB2.out.1 2; rw [← HRS.out] at r0 r1 r2; simp only [List.getElem?_toArray, List.getElem?_cons_zero, List.getElem?_cons_succ] at n3 r0 r1 r2; clear hC2 hg2))
          refine bodyPost_ret (v := .agg #[_, _, _]) (by simp [results, Tryd.results66, go_sem, r0, r1, r2]; first | done | exact ⟨rfl, rfl, rfl⟩) rfl ⟨f, l, lkU F' (bts l) f, ?_, HBf.out, HBl.out, HLK2.out, ?_, ?_⟩
          · rw [HE.out]; first | rfl | (cases B <;> rfl)
          · first | exact tkB_end (tkB_set0 HB2.out hTl) hTl
          · first | exact tkB_end2 (tkB_set0 HB2.out hTl) hTl
      · have CO := hide (fun (W : World) => i_often OC W)
        rw [decide_eq_false ho] at CO
        have HLK2 : Hid (LkB F F' (lk D i)) := hide (lkB_congr HLk.out (fun p q => by rw [HRL.out p q]; exact ⟨.inl, fun h => h.elim id (fun h => absurd h.1 (by omega))⟩))
        clear ho
        obtain ⟨B, hB⟩ : ∃ B, decide (OC = 1 ∨ OC = 2) = B := ⟨_, rfl⟩
        rw [hB] at HE CP
        clear hB
        cases e
        all_goals
          go_wp2_with (first
            | (go_at_call 69; refine (CO.out _).mono ?_; rintro r9 w9 ⟨rfl, h9⟩; rw [h9]; clear h9 w9)
            | (go_at_call 71; refine (CP.out _).mono ?_; rintro r9 w9 ⟨rfl, h9⟩; rw [h9]; clear h9 w9))
          refine bodyPost_ret (v := .agg #[_, _, _]) (by simp [results, Tryd.results66, go_sem, r0, r1, r2]; first | done | exact ⟨rfl, rfl, rfl⟩) rfl ⟨f, l, F', ?_, HBf.out, HBl.out, HLK2.out, ?_, ?_⟩
          · rw [HE.out]; first | rfl | (cases B <;> rfl)
          · first | exact tkB_end (tkB_set0 HB.out hTl) hTl
          · first | exact tkB_end2 (tkB_set0 HB.out hTl) hTl
end Go.Proofs.YtfohfljdgmlibaaDoor
