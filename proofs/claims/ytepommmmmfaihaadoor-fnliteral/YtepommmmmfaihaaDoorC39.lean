/-
  Contract of the specification's reader of expressions: a number.
-/
import Derived.Test.YtepommmmmfaihaaDoorC35
namespace Go.Proofs.YtepommmmmfaihaaDoor
open Go.RowKit Go.Joins
set_option linter.unusedVariables false
set_option linter.unusedSimpArgs false
/-- The number of the first digits from k on. -/
def dsN (C : List Int) (k : Nat) : Nat → Int
  | 0 => 0
  | j + 1 => 10 * dsN C k j + (C[k + j]?.getD 0) - 48
/-- How many digits stand there, three at most. -/
def dgs (C : List Int) (k m : Nat) : Prop := m ≤ 3 ∧ (∀ j, j < m → ∃ c, C[k + j]? = some c ∧ 48 ≤ c ∧ c ≤ 57) ∧ (m < 3 → ∀ c, C[k + m]? = some c → ¬ (48 ≤ c ∧ c ≤ 57))
theorem dgs_some (C : List Int) (k : Nat) : ∃ m, dgs C k m := by
  have hd : ∀ i : Nat, (∃ c, C[i]? = some c ∧ 48 ≤ c ∧ c ≤ 57) ∨ (∀ c, C[i]? = some c → ¬ (48 ≤ c ∧ c ≤ 57)) := fun i => by
    cases h : C[i]? with
    | none => exact .inr (fun c hc => by cases hc)
    | some c =>
      by_cases h9 : 48 ≤ c ∧ c ≤ 57
      · exact .inl ⟨c, rfl, h9⟩
      · exact .inr (fun d hd => by cases hd; exact h9)
  rcases hd (k + 0) with h0 | h0
  · rcases hd (k + 1) with h1 | h1
    · rcases hd (k + 2) with h2 | h2
      · exact ⟨3, by omega, fun j hj => by rcases (show j = 0 ∨ j = 1 ∨ j = 2 by omega) with rfl | rfl | rfl <;> assumption, fun h => absurd h (by omega)⟩
      · exact ⟨2, by omega, fun j hj => by rcases (show j = 0 ∨ j = 1 by omega) with rfl | rfl <;> assumption, fun _ => h2⟩
    · exact ⟨1, by omega, fun j hj => (by obtain rfl : j = 0 := (by omega); exact h0), fun _ => h1⟩
  · exact ⟨0, by omega, fun j hj => absurd hj (Nat.not_lt_zero _), fun _ => h0⟩
theorem dsN_le {C : List Int} {k m : Nat} (h : dgs C k m) : ∀ j, j ≤ m → 0 ≤ dsN C k j ∧ (j = 0 → dsN C k j = 0) ∧ (j ≤ 1 → dsN C k j ≤ 9) ∧ (j ≤ 2 → dsN C k j ≤ 99) ∧ dsN C k j ≤ 999 := by
  intro j hj
  have h3 := h.1
  have hc : ∀ i, i < m → 48 ≤ C[k + i]?.getD 0 ∧ C[k + i]?.getD 0 ≤ 57 := fun i hi => by
    obtain ⟨c, e, h1, h2⟩ := h.2.1 i hi
    rw [e]; exact ⟨h1, h2⟩
  rcases (show j = 0 ∨ j = 1 ∨ j = 2 ∨ j = 3 by omega) with rfl | rfl | rfl | rfl
  · simp [dsN]
  · have a := hc 0 (by omega)
    simp only [dsN]; omega
  · have a := hc 0 (by omega)
    have b := hc 1 (by omega)
    simp only [dsN]; omega
  · have a := hc 0 (by omega)
    have b := hc 1 (by omega)
    have c := hc 2 (by omega)
    simp only [dsN]; omega
theorem drop_of {C : List Int} {k : Nat} {c : Int} (h : C[k]? = some c) : C.drop k = c :: C.drop (k + 1) := by
  have hlt := (List.getElem?_eq_some_iff.1 h).1
  rw [List.drop_eq_getElem_cons hlt]
  rw [List.getElem?_eq_getElem hlt] at h
  cases h; rfl
/-- What a number is, by its digits. -/
theorem nm_of {C : List Int} {k m : Nat} (h : dgs C k m) (hk : k ≤ C.length) : (m = 0 → nmP (C.drop k) = none) ∧ (m = 1 → nmP (C.drop k) = some (dsN C k 1, C.drop (k + 1))) ∧ (m = 2 → C[k]?.getD 0 ≠ 48 → nmP (C.drop k) = some (dsN C k 2, C.drop (k + 2))) ∧
    (m = 2 → C[k]?.getD 0 = 48 → ∃ v d r, nmP (C.drop k) = some (v, d :: r) ∧ dgB d = true) ∧ (m = 3 → ∃ v d r, nmP (C.drop k) = some (v, d :: r) ∧ dgB d = true) := by
  obtain ⟨h3, hd, hn⟩ := h
  refine ⟨fun e => ?_, fun e => ?_, fun e e48 => ?_, fun e e48 => ?_, fun e => ?_⟩
  · subst e
    cases hr : C.drop k with
    | nil => rfl
    | cons c r =>
      have := hn (by omega) c (drop_at hr).1
      rw [nmP, if_neg (by unfold dgB; rw [decide_eq_true_iff]; exact this)]
  · subst e
    obtain ⟨c, e, h1, h2⟩ := hd 0 (by omega)
    have e' : C[k]? = some c := e
    have hdg : dgB c = true := decide_eq_true ⟨h1, h2⟩
    have hv : dsN C k 1 = c - 48 := by simp [dsN, e']
    rw [hv, drop_of e', nmP, if_pos hdg]
    by_cases h48 : c = 48
    · rw [if_pos h48]; simp [h48]
    · rw [if_neg h48]
      cases hr : C.drop (k + 1) with
      | nil => rfl
      | cons d r =>
        have := hn (by omega) d (drop_at hr).1
        rw [nm2, if_neg (by unfold dgB; rw [decide_eq_true_iff]; exact this)]
  · subst e
    obtain ⟨c, e, h1, h2⟩ := hd 0 (by omega)
    obtain ⟨d, e2, h4, h5⟩ := hd 1 (by omega)
    have e' : C[k]? = some c := e
    have hdg : dgB c = true := decide_eq_true ⟨h1, h2⟩
    have hdd : dgB d = true := decide_eq_true ⟨h4, h5⟩
    have hc : c ≠ 48 := by rw [e'] at e48; exact e48
    have hv : dsN C k 2 = (c - 48) * 10 + (d - 48) := by simp [dsN, e', e2]; omega
    rw [hv, drop_of e', nmP, if_pos hdg, if_neg hc, drop_of e2, nm2, if_pos hdd]
  · subst e
    obtain ⟨c, e, h1, h2⟩ := hd 0 (by omega)
    obtain ⟨d, e2, h4, h5⟩ := hd 1 (by omega)
    have e' : C[k]? = some c := e
    have hdg : dgB c = true := decide_eq_true ⟨h1, h2⟩
    have hc : c = 48 := by rw [e'] at e48; exact e48
    exact ⟨0, d, C.drop (k + 1 + 1), by rw [drop_of e', nmP, if_pos hdg, if_pos hc, drop_of e2], decide_eq_true ⟨h4, h5⟩⟩
  · subst e
    obtain ⟨c, e, h1, h2⟩ := hd 0 (by omega)
    obtain ⟨d, e2, h4, h5⟩ := hd 1 (by omega)
    obtain ⟨f, e3, h6, h7⟩ := hd 2 (by omega)
    have e' : C[k]? = some c := e
    have hdg : dgB c = true := decide_eq_true ⟨h1, h2⟩
    have hdd : dgB d = true := decide_eq_true ⟨h4, h5⟩
    by_cases hc : c = 48
    · exact ⟨0, d, C.drop (k + 1 + 1), by rw [drop_of e', nmP, if_pos hdg, if_pos hc, drop_of e2], hdd⟩
    · refine ⟨(c - 48) * 10 + (d - 48), f, C.drop (k + 2 + 1), ?_, decide_eq_true ⟨h6, h7⟩⟩
      rw [drop_of e', nmP, if_pos hdg, if_neg hc, drop_of e2, nm2, if_pos hdd, show k + 1 + 1 = k + 2 by omega, drop_of e3]
/-- What the number is. -/
def NmA (S : Nat → Prop) (B R : Nat) (C : List Int) (k : Nat) (X : List Nd) (w : World) (e : Ending) (w' : World) : Prop :=
  (∃ v k', nmP (C.drop k) = some (v, C.drop k') ∧ k < k' ∧ e = .returned (.int .i64 v) ∧ SD S B R w' C k' false X ∧ Kp (fun j => j = R) w w') ∨
  ((∃ v k', e = .returned (.int .i64 v) ∧ SD S B R w' C k' true X) ∧ Kp (fun j => j = R) w w' ∧ (nmP (C.drop k) = none ∨ ∃ v d r, nmP (C.drop k) = some (v, d :: r) ∧ dgB d = true))
set_option maxRecDepth 100000 in
set_option maxHeartbeats 8000000 in
theorem s_number {S : Nat → Prop} (B R : Nat) (C : List Int) (k : Nat) (X : List Nd) (w : World) (h : SD S B R w C k false X) :
    Calls Tryd.prog 66 #[.pointer (some ⟨R, 0, none⟩)] w (NmA S B R C k X w) := by
  have H0 := hide h
  have h4 := h.1.2.2
  have h5 := h.1.2.1
  obtain ⟨m, hm⟩ := dgs_some C k
  have HM := hide hm
  have HN := hide (nm_of hm h5)
  have hm3 := hm.1
  obtain ⟨ta, tc, ad, cp, ⟨c0, c1, c2, c3⟩, f, -⟩ := sd_cells h
  have hw3 : IntKind.i64.wrap ((k : Int) + 3) = (k : Int) + 3 := by rw [IntKind.wrap_i64]; omega
  have hw2 : IntKind.i64.wrap ((k : Int) + 2) = (k : Int) + 2 := by rw [IntKind.wrap_i64]; omega
  clear h hm f
  go_enter Tryd.func66, Tryd.ntmps66
  go_wp2_with fail
  clear c0 c1 c2 c3
  go_loopw [3] (fun v3 wr => ∃ (j : Nat), j ≤ m ∧ v3 = .int .i64 (dsN C k j) ∧ Hid (SD S B R wr C (k + j) false X) ∧ Hid (Kp (fun j => j = R) w wr)) (fun _ wr => match wr.cell? ⟨R, 1, none⟩ with | some (.int _ q) => k + m - q.toNat | _ => 0)
  case atStart => exact ⟨0, Nat.zero_le _, rfl, H0, hide (Kp.refl _ _)⟩
  case round =>
    clear H0
    obtain ⟨j, hj, rfl, HS, HK⟩ := hrel
    have ej : ((k + j : Nat) : Int) = (k : Int) + (j : Int) := by omega
    have hkj : k + j ≤ C.length := HS.out.1.2.1
    by_cases hlt : j < m
    · obtain ⟨c, ec, h48, h57⟩ := HM.out.2.1 j hlt
      obtain ⟨b, off, tc, ad, cp, c0, c1, c2, c3, f1, f2, ck, hl2⟩ := sd_here HS.out (drop_of ec)
      have hds := (dsN_le HM.out j (by omega))
      have HD : Hid (dsN C k (j + 1) = 10 * dsN C k j + c - 48) := hide (by simp [dsN, ec])
      obtain ⟨dv, hdv⟩ : ∃ dv, dsN C k j = dv := ⟨_, rfl⟩
      rw [hdv] at HD hds
      rw [hdv]
      have hd1 : decide (c ≥ 48) = true := decide_eq_true h48
      have hd2 : decide (c ≤ 57) = true := decide_eq_true h57
      have hd0 : decide (((k + j : Nat) : Int) < (C.length : Int)) = true := decide_eq_true (by omega)
      have hd3 : decide (((k + j : Nat) : Int) < (k : Int) + 3) = true := decide_eq_true (by omega)
      have hi0 : (0 : Int) ≤ ((k + j : Nat) : Int) := by omega
      have hi1 : ((k + j : Nat) : Int) < (C.length : Int) := by omega
      have hi3 : ((k + j : Nat) : Int) < (k : Int) + 3 := by omega
      have hw : IntKind.i64.wrap (((k + j : Nat) : Int) + 1) = ((k + j : Nat) : Int) + 1 := by rw [IntKind.wrap_i64]; omega
      have hx1 : IntKind.i64.wrap (10 * dv) = 10 * dv := by rw [IntKind.wrap_i64]; omega
      have hx2 : IntKind.i64.wrap (10 * dv + c) = 10 * dv + c := by rw [IntKind.wrap_i64]; omega
      have hx3 : IntKind.i64.wrap (10 * dv + c - 48) = 10 * dv + c - 48 := by rw [IntKind.wrap_i64]; omega
      obtain ⟨p, hp⟩ : ∃ p, k + j = p := ⟨_, rfl⟩
      rw [hp] at HS c1 ck hd0 hd3 hi0 hi1 hi3 hw hl2
      have c1' := c1
      clear hdv ec hds ej hkj
      go_wp2
      go_quiet (fail)
      revert nq; intro n1
      go_wp2
      go_quiet (fail)
      revert nq; intro n2
      go_wp2
      have H9 := hide (sd_k1 (sd_dr HS.out (n1 + n2)) hl2)
      go_roundw
      case rel => exact ⟨j + 1, by omega, by rw [HD.out], by rw [show k + (j + 1) = p + 1 by omega]; exact H9, hide (kp_trS (kp_trS HK.out (kp_drewN _ _)) (kp_r _ R 1 _))⟩
      case measure =>
        obtain ⟨_, _, _, _, ⟨-, d1, -⟩, -⟩ := sd_cells H9.out
        rw [d1, c1']
        simp
        omega
    · obtain rfl : j = m := by omega
      have hds := (dsN_le HM.out j (by omega))
      have hcell : (C.length ≤ k + j) ∨ ∃ c, C[k + j]? = some c ∧ (c < 48 ∨ (48 ≤ c ∧ 57 < c) ∨ (48 ≤ c ∧ c ≤ 57 ∧ j = 3)) := by
        rcases Nat.lt_or_ge (k + j) C.length with h9 | h9
        · refine .inr ⟨C[k + j], List.getElem?_eq_getElem h9, ?_⟩
          by_cases h3 : j < 3
          · have := HM.out.2.2 h3 _ (List.getElem?_eq_getElem h9)
            omega
          · omega
        · exact .inl h9
      have H00 := hide (fun (hj2 : 0 < j) => by
        obtain ⟨c, ec, h48, h57⟩ := HM.out.2.1 0 hj2
        have ec' : C[k]? = some c := ec
        exact (⟨c, ec', h48, h57⟩ : ∃ c, C[k]? = some c ∧ 48 ≤ c ∧ c ≤ 57))
      obtain ⟨ta, tc, ad, cp, ⟨c0, c1, c2, c3⟩, f, htc⟩ := sd_cells HS.out
      have f2 := f 2
      rcases (show j = 0 ∨ j = 1 ∨ j = 2 ∨ j = 3 by omega) with rfl | rfl | rfl | rfl
      · rcases hcell with hA | ⟨c, ec, hB | hC | hD⟩
        · have hn0 : ¬ (k + 0 < C.length) := by omega
          have hn1 : decide (k + 0 < C.length) = false := decide_eq_false hn0
          have hd0 : decide (((k + 0 : Nat) : Int) < (C.length : Int)) = false := decide_eq_false (by omega)
          have hi0 : ¬ ((k + 0 : Nat) : Int) < (C.length : Int) := by omega
          have he1 : (((k + 0 : Nat) : Int) == (k : Int)) = true := by simp <;> omega
          have hg1 : decide (((k + 0 : Nat) : Int) > (k : Int) + 2) = false := decide_eq_false (by omega)
          have hg2 : ¬ ((k : Int) + 2 < ((k + 0 : Nat) : Int)) := by omega
          have he2 : (((k + 0 : Nat) : Int) == (k : Int) + 2) = false := by simp <;> omega
          have hg3 : ¬ (k + 2 < k + 0) := by omega
          have hg4 : decide (k + 2 < k + 0) = false := decide_eq_false hg3
          have he3 : (k + 0 == k) = true := by simp
          have he4 : (k + 0 == k + 2) = false := by simp <;> omega
          obtain ⟨p, hp⟩ : ∃ p, k + 0 = p := ⟨_, rfl⟩
          have HP := hide hp
          rw [hp] at HS c1 hd0 hi0 he1 hg1 hg2 he2 hn0 hn1 hg3 hg4 he3 he4
          clear hp ej hkj
          have HZ := hide (HN.out.1 rfl)
          clear HN
          obtain ⟨dv, hdv⟩ : ∃ dv, dsN C k 0 = dv := ⟨_, rfl⟩
          rw [hdv] at hds ⊢
          clear hdv
          go_wp2
          go_quiet (fail)
          go_wp2
          go_ret
          exact .inr ⟨⟨_, _, rfl, sd_b (sd_dr HS.out _) true⟩, kp_trS (kp_trS HK.out (kp_drewN _ _)) (kp_r _ R 2 _), .inl HZ.out⟩
        · have hn0 : k + 0 < C.length := (List.getElem?_eq_some_iff.1 ec).1
          have hn1 : decide (k + 0 < C.length) = true := decide_eq_true hn0
          clear c0 c1 c2 c3 f2 htc f
          obtain ⟨b, off, tc, ad, cp, c0, c1, c2, c3, f1, f2, ck, hl2⟩ := sd_here HS.out (drop_of ec)
          have hd0 : decide (((k + 0 : Nat) : Int) < (C.length : Int)) = true := decide_eq_true (by omega)
          have hi0 : ((k + 0 : Nat) : Int) < (C.length : Int) := by omega
          have hi1 : (0 : Int) ≤ ((k + 0 : Nat) : Int) := by omega
          have hd1 : decide (c ≥ 48) = false := decide_eq_false (by omega)
          have hp1 : ¬ 48 ≤ c := by omega
          have hp2 : decide (48 ≤ c) = false := decide_eq_false hp1
          have he1 : (((k + 0 : Nat) : Int) == (k : Int)) = true := by simp <;> omega
          have hg1 : decide (((k + 0 : Nat) : Int) > (k : Int) + 2) = false := decide_eq_false (by omega)
          have hg2 : ¬ ((k : Int) + 2 < ((k + 0 : Nat) : Int)) := by omega
          have he2 : (((k + 0 : Nat) : Int) == (k : Int) + 2) = false := by simp <;> omega
          have hg3 : ¬ (k + 2 < k + 0) := by omega
          have hg4 : decide (k + 2 < k + 0) = false := decide_eq_false hg3
          have he3 : (k + 0 == k) = true := by simp
          have he4 : (k + 0 == k + 2) = false := by simp <;> omega
          obtain ⟨p, hp⟩ : ∃ p, k + 0 = p := ⟨_, rfl⟩
          have HP := hide hp
          rw [hp] at HS c1 hd0 hi0 he1 hg1 hg2 he2 hn0 hn1 hg3 hg4 he3 he4 ck hi1
          clear hp ej hkj
          have HZ := hide (HN.out.1 rfl)
          clear HN
          obtain ⟨dv, hdv⟩ : ∃ dv, dsN C k 0 = dv := ⟨_, rfl⟩
          rw [hdv] at hds ⊢
          clear hdv
          go_wp2
          go_quiet (fail)
          go_wp2
          go_ret
          exact .inr ⟨⟨_, _, rfl, sd_b (sd_dr HS.out _) true⟩, kp_trS (kp_trS HK.out (kp_drewN _ _)) (kp_r _ R 2 _), .inl HZ.out⟩
        · have hn0 : k + 0 < C.length := (List.getElem?_eq_some_iff.1 ec).1
          have hn1 : decide (k + 0 < C.length) = true := decide_eq_true hn0
          clear c0 c1 c2 c3 f2 htc f
          obtain ⟨b, off, tc, ad, cp, c0, c1, c2, c3, f1, f2, ck, hl2⟩ := sd_here HS.out (drop_of ec)
          have hd0 : decide (((k + 0 : Nat) : Int) < (C.length : Int)) = true := decide_eq_true (by omega)
          have hi0 : ((k + 0 : Nat) : Int) < (C.length : Int) := by omega
          have hi1 : (0 : Int) ≤ ((k + 0 : Nat) : Int) := by omega
          have hp1 : 48 ≤ c := by omega
          have hp2 : ¬ c ≤ 57 := by omega
          have hp3 : decide (48 ≤ c) = true := decide_eq_true hp1
          have hd1 : decide (c ≥ 48) = true := decide_eq_true (by omega)
          have hd2 : decide (c ≤ 57) = false := decide_eq_false (by omega)
          have he1 : (((k + 0 : Nat) : Int) == (k : Int)) = true := by simp <;> omega
          have hg1 : decide (((k + 0 : Nat) : Int) > (k : Int) + 2) = false := decide_eq_false (by omega)
          have hg2 : ¬ ((k : Int) + 2 < ((k + 0 : Nat) : Int)) := by omega
          have he2 : (((k + 0 : Nat) : Int) == (k : Int) + 2) = false := by simp <;> omega
          have hg3 : ¬ (k + 2 < k + 0) := by omega
          have hg4 : decide (k + 2 < k + 0) = false := decide_eq_false hg3
          have he3 : (k + 0 == k) = true := by simp
          have he4 : (k + 0 == k + 2) = false := by simp <;> omega
          obtain ⟨p, hp⟩ : ∃ p, k + 0 = p := ⟨_, rfl⟩
          have HP := hide hp
          rw [hp] at HS c1 hd0 hi0 he1 hg1 hg2 he2 hn0 hn1 hg3 hg4 he3 he4 ck hi1
          clear hp ej hkj
          have HZ := hide (HN.out.1 rfl)
          clear HN
          obtain ⟨dv, hdv⟩ : ∃ dv, dsN C k 0 = dv := ⟨_, rfl⟩
          rw [hdv] at hds ⊢
          clear hdv
          go_wp2
          go_quiet (fail)
          go_wp2
          go_ret
          exact .inr ⟨⟨_, _, rfl, sd_b (sd_dr HS.out _) true⟩, kp_trS (kp_trS HK.out (kp_drewN _ _)) (kp_r _ R 2 _), .inl HZ.out⟩
        · omega
      · rcases hcell with hA | ⟨c, ec, hB | hC | hD⟩
        · have hn0 : ¬ (k + 1 < C.length) := by omega
          have hn1 : decide (k + 1 < C.length) = false := decide_eq_false hn0
          have hd0 : decide (((k + 1 : Nat) : Int) < (C.length : Int)) = false := decide_eq_false (by omega)
          have hi0 : ¬ ((k + 1 : Nat) : Int) < (C.length : Int) := by omega
          have he1 : (((k + 1 : Nat) : Int) == (k : Int)) = false := by simp <;> omega
          have hg1 : decide (((k + 1 : Nat) : Int) > (k : Int) + 2) = false := decide_eq_false (by omega)
          have hg2 : ¬ ((k : Int) + 2 < ((k + 1 : Nat) : Int)) := by omega
          have he2 : (((k + 1 : Nat) : Int) == (k : Int) + 2) = false := by simp <;> omega
          have hg3 : ¬ (k + 2 < k + 1) := by omega
          have hg4 : decide (k + 2 < k + 1) = false := decide_eq_false hg3
          have he3 : (k + 1 == k) = false := by simp
          have he4 : (k + 1 == k + 2) = false := by simp <;> omega
          obtain ⟨p, hp⟩ : ∃ p, k + 1 = p := ⟨_, rfl⟩
          have HP := hide hp
          rw [hp] at HS c1 hd0 hi0 he1 hg1 hg2 he2 hn0 hn1 hg3 hg4 he3 he4
          clear hp ej hkj
          have HZ := hide (HN.out.2.1 rfl)
          clear HN
          obtain ⟨dv, hdv⟩ : ∃ dv, dsN C k 1 = dv := ⟨_, rfl⟩
          rw [hdv] at HZ hds ⊢
          clear hdv
          go_wp2
          go_quiet (fail)
          go_wp2
          go_ret
          exact .inl ⟨_, k + 1, HZ.out, by omega, rfl, by rw [HP.out]; exact sd_dr HS.out _, kp_trS HK.out (kp_drewN _ _)⟩
        · have hn0 : k + 1 < C.length := (List.getElem?_eq_some_iff.1 ec).1
          have hn1 : decide (k + 1 < C.length) = true := decide_eq_true hn0
          clear c0 c1 c2 c3 f2 htc f
          obtain ⟨b, off, tc, ad, cp, c0, c1, c2, c3, f1, f2, ck, hl2⟩ := sd_here HS.out (drop_of ec)
          have hd0 : decide (((k + 1 : Nat) : Int) < (C.length : Int)) = true := decide_eq_true (by omega)
          have hi0 : ((k + 1 : Nat) : Int) < (C.length : Int) := by omega
          have hi1 : (0 : Int) ≤ ((k + 1 : Nat) : Int) := by omega
          have hd1 : decide (c ≥ 48) = false := decide_eq_false (by omega)
          have hp1 : ¬ 48 ≤ c := by omega
          have hp2 : decide (48 ≤ c) = false := decide_eq_false hp1
          have he1 : (((k + 1 : Nat) : Int) == (k : Int)) = false := by simp <;> omega
          have hg1 : decide (((k + 1 : Nat) : Int) > (k : Int) + 2) = false := decide_eq_false (by omega)
          have hg2 : ¬ ((k : Int) + 2 < ((k + 1 : Nat) : Int)) := by omega
          have he2 : (((k + 1 : Nat) : Int) == (k : Int) + 2) = false := by simp <;> omega
          have hg3 : ¬ (k + 2 < k + 1) := by omega
          have hg4 : decide (k + 2 < k + 1) = false := decide_eq_false hg3
          have he3 : (k + 1 == k) = false := by simp
          have he4 : (k + 1 == k + 2) = false := by simp <;> omega
          obtain ⟨p, hp⟩ : ∃ p, k + 1 = p := ⟨_, rfl⟩
          have HP := hide hp
          rw [hp] at HS c1 hd0 hi0 he1 hg1 hg2 he2 hn0 hn1 hg3 hg4 he3 he4 ck hi1
          clear hp ej hkj
          have HZ := hide (HN.out.2.1 rfl)
          clear HN
          obtain ⟨dv, hdv⟩ : ∃ dv, dsN C k 1 = dv := ⟨_, rfl⟩
          rw [hdv] at HZ hds ⊢
          clear hdv
          go_wp2
          go_quiet (fail)
          go_wp2
          go_ret
          exact .inl ⟨_, k + 1, HZ.out, by omega, rfl, by rw [HP.out]; exact sd_dr HS.out _, kp_trS HK.out (kp_drewN _ _)⟩
        · have hn0 : k + 1 < C.length := (List.getElem?_eq_some_iff.1 ec).1
          have hn1 : decide (k + 1 < C.length) = true := decide_eq_true hn0
          clear c0 c1 c2 c3 f2 htc f
          obtain ⟨b, off, tc, ad, cp, c0, c1, c2, c3, f1, f2, ck, hl2⟩ := sd_here HS.out (drop_of ec)
          have hd0 : decide (((k + 1 : Nat) : Int) < (C.length : Int)) = true := decide_eq_true (by omega)
          have hi0 : ((k + 1 : Nat) : Int) < (C.length : Int) := by omega
          have hi1 : (0 : Int) ≤ ((k + 1 : Nat) : Int) := by omega
          have hp1 : 48 ≤ c := by omega
          have hp2 : ¬ c ≤ 57 := by omega
          have hp3 : decide (48 ≤ c) = true := decide_eq_true hp1
          have hd1 : decide (c ≥ 48) = true := decide_eq_true (by omega)
          have hd2 : decide (c ≤ 57) = false := decide_eq_false (by omega)
          have he1 : (((k + 1 : Nat) : Int) == (k : Int)) = false := by simp <;> omega
          have hg1 : decide (((k + 1 : Nat) : Int) > (k : Int) + 2) = false := decide_eq_false (by omega)
          have hg2 : ¬ ((k : Int) + 2 < ((k + 1 : Nat) : Int)) := by omega
          have he2 : (((k + 1 : Nat) : Int) == (k : Int) + 2) = false := by simp <;> omega
          have hg3 : ¬ (k + 2 < k + 1) := by omega
          have hg4 : decide (k + 2 < k + 1) = false := decide_eq_false hg3
          have he3 : (k + 1 == k) = false := by simp
          have he4 : (k + 1 == k + 2) = false := by simp <;> omega
          obtain ⟨p, hp⟩ : ∃ p, k + 1 = p := ⟨_, rfl⟩
          have HP := hide hp
          rw [hp] at HS c1 hd0 hi0 he1 hg1 hg2 he2 hn0 hn1 hg3 hg4 he3 he4 ck hi1
          clear hp ej hkj
          have HZ := hide (HN.out.2.1 rfl)
          clear HN
          obtain ⟨dv, hdv⟩ : ∃ dv, dsN C k 1 = dv := ⟨_, rfl⟩
          rw [hdv] at HZ hds ⊢
          clear hdv
          go_wp2
          go_quiet (fail)
          go_wp2
          go_ret
          exact .inl ⟨_, k + 1, HZ.out, by omega, rfl, by rw [HP.out]; exact sd_dr HS.out _, kp_trS HK.out (kp_drewN _ _)⟩
        · omega
      · rcases hcell with hA | ⟨c, ec, hB | hC | hD⟩
        · have hn0 : ¬ (k + 2 < C.length) := by omega
          have hn1 : decide (k + 2 < C.length) = false := decide_eq_false hn0
          have hd0 : decide (((k + 2 : Nat) : Int) < (C.length : Int)) = false := decide_eq_false (by omega)
          have hi0 : ¬ ((k + 2 : Nat) : Int) < (C.length : Int) := by omega
          have he1 : (((k + 2 : Nat) : Int) == (k : Int)) = false := by simp <;> omega
          have hg1 : decide (((k + 2 : Nat) : Int) > (k : Int) + 2) = false := decide_eq_false (by omega)
          have hg2 : ¬ ((k : Int) + 2 < ((k + 2 : Nat) : Int)) := by omega
          have he2 : (((k + 2 : Nat) : Int) == (k : Int) + 2) = true := by simp <;> omega
          have hg3 : ¬ (k + 2 < k + 2) := by omega
          have hg4 : decide (k + 2 < k + 2) = false := decide_eq_false hg3
          have he3 : (k + 2 == k) = false := by simp
          have he4 : (k + 2 == k + 2) = true := by simp <;> omega
          obtain ⟨p, hp⟩ : ∃ p, k + 2 = p := ⟨_, rfl⟩
          have HP := hide hp
          rw [hp] at HS c1 hd0 hi0 he1 hg1 hg2 he2 hn0 hn1 hg3 hg4 he3 he4
          clear hp ej hkj
          obtain ⟨cc, ecc, hc48, hc57⟩ := H00.out (by omega)
          have hgd : C[k]?.getD 0 = cc := by rw [ecc]; rfl
          have hCl : 0 < C.length := by have := (List.getElem?_eq_some_iff.1 ecc).1; omega
          obtain ⟨b, off, rfl, hcc⟩ := htc hCl
          have ckk := hcc k cc ecc
          have hkl : (k : Int) < (C.length : Int) := by have := (List.getElem?_eq_some_iff.1 ecc).1; omega
          have hk0 : (0 : Int) ≤ (k : Int) := by omega
          by_cases hz : cc = 48
          · have HZ := hide (HN.out.2.2.2.1 rfl (hgd.trans hz))
            have hzb : (cc == 48) = true := by simp [hz]
            clear hgd hz HN
            obtain ⟨dv, hdv⟩ : ∃ dv, dsN C k 2 = dv := ⟨_, rfl⟩
            rw [hdv] at hds ⊢
            clear hdv
            go_wp2
            go_quiet (fail)
            go_wp2
            go_ret
            exact .inr ⟨⟨_, _, rfl, sd_b (sd_dr HS.out _) true⟩, kp_trS (kp_trS HK.out (kp_drewN _ _)) (kp_r _ R 2 _), .inr HZ.out⟩
          · have HZ := hide (HN.out.2.2.1 rfl (by rw [hgd]; exact hz))
            have hzb : (cc == 48) = false := by simp [hz]
            clear hgd hz
            obtain ⟨dv, hdv⟩ : ∃ dv, dsN C k 2 = dv := ⟨_, rfl⟩
            rw [hdv] at HZ hds ⊢
            clear hdv HN
            go_wp2
            go_quiet (fail)
            go_wp2
            go_ret
            exact .inl ⟨_, k + 2, HZ.out, by omega, rfl, by rw [HP.out]; exact sd_dr HS.out _, kp_trS HK.out (kp_drewN _ _)⟩
        · have hn0 : k + 2 < C.length := (List.getElem?_eq_some_iff.1 ec).1
          have hn1 : decide (k + 2 < C.length) = true := decide_eq_true hn0
          clear c0 c1 c2 c3 f2 htc f
          obtain ⟨b, off, tc, ad, cp, c0, c1, c2, c3, f1, f2, ck, hl2⟩ := sd_here HS.out (drop_of ec)
          have hd0 : decide (((k + 2 : Nat) : Int) < (C.length : Int)) = true := decide_eq_true (by omega)
          have hi0 : ((k + 2 : Nat) : Int) < (C.length : Int) := by omega
          have hi1 : (0 : Int) ≤ ((k + 2 : Nat) : Int) := by omega
          have hd1 : decide (c ≥ 48) = false := decide_eq_false (by omega)
          have hp1 : ¬ 48 ≤ c := by omega
          have hp2 : decide (48 ≤ c) = false := decide_eq_false hp1
          have he1 : (((k + 2 : Nat) : Int) == (k : Int)) = false := by simp <;> omega
          have hg1 : decide (((k + 2 : Nat) : Int) > (k : Int) + 2) = false := decide_eq_false (by omega)
          have hg2 : ¬ ((k : Int) + 2 < ((k + 2 : Nat) : Int)) := by omega
          have he2 : (((k + 2 : Nat) : Int) == (k : Int) + 2) = true := by simp <;> omega
          have hg3 : ¬ (k + 2 < k + 2) := by omega
          have hg4 : decide (k + 2 < k + 2) = false := decide_eq_false hg3
          have he3 : (k + 2 == k) = false := by simp
          have he4 : (k + 2 == k + 2) = true := by simp <;> omega
          obtain ⟨p, hp⟩ : ∃ p, k + 2 = p := ⟨_, rfl⟩
          have HP := hide hp
          rw [hp] at HS c1 hd0 hi0 he1 hg1 hg2 he2 hn0 hn1 hg3 hg4 he3 he4 ck hi1
          clear hp ej hkj
          obtain ⟨cc, ecc, hc48, hc57⟩ := H00.out (by omega)
          have hgd : C[k]?.getD 0 = cc := by rw [ecc]; rfl
          have hCl : 0 < C.length := by have := (List.getElem?_eq_some_iff.1 ecc).1; omega
          obtain ⟨ta2, tc2, ad2, cp2, ⟨c02, -⟩, -, htc2⟩ := sd_cells HS.out
          obtain ⟨b2, off2, rfl, hcc⟩ := htc2 hCl
          have hbb : some (Value.slice (some ⟨b2, off2, none⟩) C.length tc2) = some (Value.slice (some ⟨b, off, none⟩) C.length tc) := c02.symm.trans c0
          simp only [Option.some.injEq, Value.slice.injEq, Addr.mk.injEq, and_true, true_and] at hbb
          obtain ⟨⟨rfl, rfl⟩, rfl⟩ := hbb
          have ckk := hcc k cc ecc
          clear c02 htc2 hcc
          have hkl : (k : Int) < (C.length : Int) := by have := (List.getElem?_eq_some_iff.1 ecc).1; omega
          have hk0 : (0 : Int) ≤ (k : Int) := by omega
          by_cases hz : cc = 48
          · have HZ := hide (HN.out.2.2.2.1 rfl (hgd.trans hz))
            have hzb : (cc == 48) = true := by simp [hz]
            clear hgd hz HN
            obtain ⟨dv, hdv⟩ : ∃ dv, dsN C k 2 = dv := ⟨_, rfl⟩
            rw [hdv] at hds ⊢
            clear hdv
            go_wp2
            go_quiet (fail)
            go_wp2
            go_ret
            exact .inr ⟨⟨_, _, rfl, sd_b (sd_dr HS.out _) true⟩, kp_trS (kp_trS HK.out (kp_drewN _ _)) (kp_r _ R 2 _), .inr HZ.out⟩
          · have HZ := hide (HN.out.2.2.1 rfl (by rw [hgd]; exact hz))
            have hzb : (cc == 48) = false := by simp [hz]
            clear hgd hz
            obtain ⟨dv, hdv⟩ : ∃ dv, dsN C k 2 = dv := ⟨_, rfl⟩
            rw [hdv] at HZ hds ⊢
            clear hdv HN
            go_wp2
            go_quiet (fail)
            go_wp2
            go_ret
            exact .inl ⟨_, k + 2, HZ.out, by omega, rfl, by rw [HP.out]; exact sd_dr HS.out _, kp_trS HK.out (kp_drewN _ _)⟩
        · have hn0 : k + 2 < C.length := (List.getElem?_eq_some_iff.1 ec).1
          have hn1 : decide (k + 2 < C.length) = true := decide_eq_true hn0
          clear c0 c1 c2 c3 f2 htc f
          obtain ⟨b, off, tc, ad, cp, c0, c1, c2, c3, f1, f2, ck, hl2⟩ := sd_here HS.out (drop_of ec)
          have hd0 : decide (((k + 2 : Nat) : Int) < (C.length : Int)) = true := decide_eq_true (by omega)
          have hi0 : ((k + 2 : Nat) : Int) < (C.length : Int) := by omega
          have hi1 : (0 : Int) ≤ ((k + 2 : Nat) : Int) := by omega
          have hp1 : 48 ≤ c := by omega
          have hp2 : ¬ c ≤ 57 := by omega
          have hp3 : decide (48 ≤ c) = true := decide_eq_true hp1
          have hd1 : decide (c ≥ 48) = true := decide_eq_true (by omega)
          have hd2 : decide (c ≤ 57) = false := decide_eq_false (by omega)
          have he1 : (((k + 2 : Nat) : Int) == (k : Int)) = false := by simp <;> omega
          have hg1 : decide (((k + 2 : Nat) : Int) > (k : Int) + 2) = false := decide_eq_false (by omega)
          have hg2 : ¬ ((k : Int) + 2 < ((k + 2 : Nat) : Int)) := by omega
          have he2 : (((k + 2 : Nat) : Int) == (k : Int) + 2) = true := by simp <;> omega
          have hg3 : ¬ (k + 2 < k + 2) := by omega
          have hg4 : decide (k + 2 < k + 2) = false := decide_eq_false hg3
          have he3 : (k + 2 == k) = false := by simp
          have he4 : (k + 2 == k + 2) = true := by simp <;> omega
          obtain ⟨p, hp⟩ : ∃ p, k + 2 = p := ⟨_, rfl⟩
          have HP := hide hp
          rw [hp] at HS c1 hd0 hi0 he1 hg1 hg2 he2 hn0 hn1 hg3 hg4 he3 he4 ck hi1
          clear hp ej hkj
          obtain ⟨cc, ecc, hc48, hc57⟩ := H00.out (by omega)
          have hgd : C[k]?.getD 0 = cc := by rw [ecc]; rfl
          have hCl : 0 < C.length := by have := (List.getElem?_eq_some_iff.1 ecc).1; omega
          obtain ⟨ta2, tc2, ad2, cp2, ⟨c02, -⟩, -, htc2⟩ := sd_cells HS.out
          obtain ⟨b2, off2, rfl, hcc⟩ := htc2 hCl
          have hbb : some (Value.slice (some ⟨b2, off2, none⟩) C.length tc2) = some (Value.slice (some ⟨b, off, none⟩) C.length tc) := c02.symm.trans c0
          simp only [Option.some.injEq, Value.slice.injEq, Addr.mk.injEq, and_true, true_and] at hbb
          obtain ⟨⟨rfl, rfl⟩, rfl⟩ := hbb
          have ckk := hcc k cc ecc
          clear c02 htc2 hcc
          have hkl : (k : Int) < (C.length : Int) := by have := (List.getElem?_eq_some_iff.1 ecc).1; omega
          have hk0 : (0 : Int) ≤ (k : Int) := by omega
          by_cases hz : cc = 48
          · have HZ := hide (HN.out.2.2.2.1 rfl (hgd.trans hz))
            have hzb : (cc == 48) = true := by simp [hz]
            clear hgd hz HN
            obtain ⟨dv, hdv⟩ : ∃ dv, dsN C k 2 = dv := ⟨_, rfl⟩
            rw [hdv] at hds ⊢
            clear hdv
            go_wp2
            go_quiet (fail)
            go_wp2
            go_ret
            exact .inr ⟨⟨_, _, rfl, sd_b (sd_dr HS.out _) true⟩, kp_trS (kp_trS HK.out (kp_drewN _ _)) (kp_r _ R 2 _), .inr HZ.out⟩
          · have HZ := hide (HN.out.2.2.1 rfl (by rw [hgd]; exact hz))
            have hzb : (cc == 48) = false := by simp [hz]
            clear hgd hz
            obtain ⟨dv, hdv⟩ : ∃ dv, dsN C k 2 = dv := ⟨_, rfl⟩
            rw [hdv] at HZ hds ⊢
            clear hdv HN
            go_wp2
            go_quiet (fail)
            go_wp2
            go_ret
            exact .inl ⟨_, k + 2, HZ.out, by omega, rfl, by rw [HP.out]; exact sd_dr HS.out _, kp_trS HK.out (kp_drewN _ _)⟩
        · omega
      · rcases hcell with hA | ⟨c, ec, hB | hC | hD⟩
        · have hn0 : ¬ (k + 3 < C.length) := by omega
          have hn1 : decide (k + 3 < C.length) = false := decide_eq_false hn0
          have hd0 : decide (((k + 3 : Nat) : Int) < (C.length : Int)) = false := decide_eq_false (by omega)
          have hi0 : ¬ ((k + 3 : Nat) : Int) < (C.length : Int) := by omega
          have he1 : (((k + 3 : Nat) : Int) == (k : Int)) = false := by simp <;> omega
          have hg1 : decide (((k + 3 : Nat) : Int) > (k : Int) + 2) = true := decide_eq_true (by omega)
          have hg2 :  ((k : Int) + 2 < ((k + 3 : Nat) : Int)) := by omega
          have he2 : (((k + 3 : Nat) : Int) == (k : Int) + 2) = false := by simp <;> omega
          have hg3 : (k + 2 < k + 3) := by omega
          have hg4 : decide (k + 2 < k + 3) = true := decide_eq_true hg3
          have he3 : (k + 3 == k) = false := by simp
          have he4 : (k + 3 == k + 2) = false := by simp <;> omega
          obtain ⟨p, hp⟩ : ∃ p, k + 3 = p := ⟨_, rfl⟩
          have HP := hide hp
          rw [hp] at HS c1 hd0 hi0 he1 hg1 hg2 he2 hn0 hn1 hg3 hg4 he3 he4
          clear hp ej hkj
          have HZ := hide (HN.out.2.2.2.2 rfl)
          clear HN
          obtain ⟨dv, hdv⟩ : ∃ dv, dsN C k 3 = dv := ⟨_, rfl⟩
          rw [hdv] at hds ⊢
          clear hdv
          go_wp2
          go_quiet (fail)
          go_wp2
          go_ret
          exact .inr ⟨⟨_, _, rfl, sd_b (sd_dr HS.out _) true⟩, kp_trS (kp_trS HK.out (kp_drewN _ _)) (kp_r _ R 2 _), .inr HZ.out⟩
        · have hn0 : k + 3 < C.length := (List.getElem?_eq_some_iff.1 ec).1
          have hn1 : decide (k + 3 < C.length) = true := decide_eq_true hn0
          clear c0 c1 c2 c3 f2 htc f
          obtain ⟨b, off, tc, ad, cp, c0, c1, c2, c3, f1, f2, ck, hl2⟩ := sd_here HS.out (drop_of ec)
          have hd0 : decide (((k + 3 : Nat) : Int) < (C.length : Int)) = true := decide_eq_true (by omega)
          have hi0 : ((k + 3 : Nat) : Int) < (C.length : Int) := by omega
          have hi1 : (0 : Int) ≤ ((k + 3 : Nat) : Int) := by omega
          have hd1 : decide (c ≥ 48) = false := decide_eq_false (by omega)
          have hp1 : ¬ 48 ≤ c := by omega
          have hp2 : decide (48 ≤ c) = false := decide_eq_false hp1
          have he1 : (((k + 3 : Nat) : Int) == (k : Int)) = false := by simp <;> omega
          have hg1 : decide (((k + 3 : Nat) : Int) > (k : Int) + 2) = true := decide_eq_true (by omega)
          have hg2 :  ((k : Int) + 2 < ((k + 3 : Nat) : Int)) := by omega
          have he2 : (((k + 3 : Nat) : Int) == (k : Int) + 2) = false := by simp <;> omega
          have hg3 : (k + 2 < k + 3) := by omega
          have hg4 : decide (k + 2 < k + 3) = true := decide_eq_true hg3
          have he3 : (k + 3 == k) = false := by simp
          have he4 : (k + 3 == k + 2) = false := by simp <;> omega
          obtain ⟨p, hp⟩ : ∃ p, k + 3 = p := ⟨_, rfl⟩
          have HP := hide hp
          rw [hp] at HS c1 hd0 hi0 he1 hg1 hg2 he2 hn0 hn1 hg3 hg4 he3 he4 ck hi1
          clear hp ej hkj
          have HZ := hide (HN.out.2.2.2.2 rfl)
          clear HN
          obtain ⟨dv, hdv⟩ : ∃ dv, dsN C k 3 = dv := ⟨_, rfl⟩
          rw [hdv] at hds ⊢
          clear hdv
          go_wp2
          go_quiet (fail)
          go_wp2
          go_ret
          exact .inr ⟨⟨_, _, rfl, sd_b (sd_dr HS.out _) true⟩, kp_trS (kp_trS HK.out (kp_drewN _ _)) (kp_r _ R 2 _), .inr HZ.out⟩
        · have hn0 : k + 3 < C.length := (List.getElem?_eq_some_iff.1 ec).1
          have hn1 : decide (k + 3 < C.length) = true := decide_eq_true hn0
          clear c0 c1 c2 c3 f2 htc f
          obtain ⟨b, off, tc, ad, cp, c0, c1, c2, c3, f1, f2, ck, hl2⟩ := sd_here HS.out (drop_of ec)
          have hd0 : decide (((k + 3 : Nat) : Int) < (C.length : Int)) = true := decide_eq_true (by omega)
          have hi0 : ((k + 3 : Nat) : Int) < (C.length : Int) := by omega
          have hi1 : (0 : Int) ≤ ((k + 3 : Nat) : Int) := by omega
          have hp1 : 48 ≤ c := by omega
          have hp2 : ¬ c ≤ 57 := by omega
          have hp3 : decide (48 ≤ c) = true := decide_eq_true hp1
          have hd1 : decide (c ≥ 48) = true := decide_eq_true (by omega)
          have hd2 : decide (c ≤ 57) = false := decide_eq_false (by omega)
          have he1 : (((k + 3 : Nat) : Int) == (k : Int)) = false := by simp <;> omega
          have hg1 : decide (((k + 3 : Nat) : Int) > (k : Int) + 2) = true := decide_eq_true (by omega)
          have hg2 :  ((k : Int) + 2 < ((k + 3 : Nat) : Int)) := by omega
          have he2 : (((k + 3 : Nat) : Int) == (k : Int) + 2) = false := by simp <;> omega
          have hg3 : (k + 2 < k + 3) := by omega
          have hg4 : decide (k + 2 < k + 3) = true := decide_eq_true hg3
          have he3 : (k + 3 == k) = false := by simp
          have he4 : (k + 3 == k + 2) = false := by simp <;> omega
          obtain ⟨p, hp⟩ : ∃ p, k + 3 = p := ⟨_, rfl⟩
          have HP := hide hp
          rw [hp] at HS c1 hd0 hi0 he1 hg1 hg2 he2 hn0 hn1 hg3 hg4 he3 he4 ck hi1
          clear hp ej hkj
          have HZ := hide (HN.out.2.2.2.2 rfl)
          clear HN
          obtain ⟨dv, hdv⟩ : ∃ dv, dsN C k 3 = dv := ⟨_, rfl⟩
          rw [hdv] at hds ⊢
          clear hdv
          go_wp2
          go_quiet (fail)
          go_wp2
          go_ret
          exact .inr ⟨⟨_, _, rfl, sd_b (sd_dr HS.out _) true⟩, kp_trS (kp_trS HK.out (kp_drewN _ _)) (kp_r _ R 2 _), .inr HZ.out⟩
        · have hn0 : k + 3 < C.length := (List.getElem?_eq_some_iff.1 ec).1
          have hn1 : decide (k + 3 < C.length) = true := decide_eq_true hn0
          have hn2 : ¬ k + 3 < k + 3 := by omega
          have hn3 : decide (k + 3 < k + 3) = false := decide_eq_false hn2
          clear c0 c1 c2 c3 f2 htc f
          obtain ⟨b, off, tc, ad, cp, c0, c1, c2, c3, f1, f2, ck, hl2⟩ := sd_here HS.out (drop_of ec)
          have hd0 : decide (((k + 3 : Nat) : Int) < (C.length : Int)) = true := decide_eq_true (by omega)
          have hi0 : ((k + 3 : Nat) : Int) < (C.length : Int) := by omega
          have hi1 : (0 : Int) ≤ ((k + 3 : Nat) : Int) := by omega
          have hp1 : 48 ≤ c := by omega
          have hp2 : c ≤ 57 := by omega
          have hp3 : decide (48 ≤ c) = true := decide_eq_true hp1
          have hd1 : decide (c ≥ 48) = true := decide_eq_true (by omega)
          have hd2 : decide (c ≤ 57) = true := decide_eq_true (by omega)
          have hd3 : decide (((k + 3 : Nat) : Int) < (k : Int) + 3) = false := decide_eq_false (by omega)
          have hd4 : ¬ ((k + 3 : Nat) : Int) < (k : Int) + 3 := by omega
          have he1 : (((k + 3 : Nat) : Int) == (k : Int)) = false := by simp <;> omega
          have hg1 : decide (((k + 3 : Nat) : Int) > (k : Int) + 2) = true := decide_eq_true (by omega)
          have hg2 :  ((k : Int) + 2 < ((k + 3 : Nat) : Int)) := by omega
          have he2 : (((k + 3 : Nat) : Int) == (k : Int) + 2) = false := by simp <;> omega
          have hg3 : (k + 2 < k + 3) := by omega
          have hg4 : decide (k + 2 < k + 3) = true := decide_eq_true hg3
          have he3 : (k + 3 == k) = false := by simp
          have he4 : (k + 3 == k + 2) = false := by simp <;> omega
          obtain ⟨p, hp⟩ : ∃ p, k + 3 = p := ⟨_, rfl⟩
          have HP := hide hp
          rw [hp] at HS c1 hd0 hi0 he1 hg1 hg2 he2 hn0 hn1 hg3 hg4 he3 he4 ck hi1 hd3 hd4 hn2 hn3
          clear hp ej hkj
          have HZ := hide (HN.out.2.2.2.2 rfl)
          clear HN
          obtain ⟨dv, hdv⟩ : ∃ dv, dsN C k 3 = dv := ⟨_, rfl⟩
          rw [hdv] at hds ⊢
          clear hdv
          go_wp2
          go_quiet (fail)
          go_wp2
          go_ret
          exact .inr ⟨⟨_, _, rfl, sd_b (sd_dr HS.out _) true⟩, kp_trS (kp_trS HK.out (kp_drewN _ _)) (kp_r _ R 2 _), .inr HZ.out⟩
end Go.Proofs.YtepommmmmfaihaaDoor
