/-
  Contracts of the specification's reader of expressions: a row, a choice.
-/
import Derived.Test.YtepommmmmfaihaaDoorC41
namespace Go.Proofs.YtepommmmmfaihaaDoor
open Go.RowKit Go.Joins
set_option linter.unusedVariables false
set_option linter.unusedSimpArgs false
theorem br_more {u : List Int} {X : List Nd} {u' : List Int} {X' : List Nd} (h : brP u X = some (u', X')) : X.length < X'.length := by
  unfold brP at h
  split at h
  · cases h
  · cases h; simp
theorem bs_more {u : List Int} {X : List Nd} {u' : List Int} {X' : List Nd} (h : bsP u X = some (u', X')) : X.length < X'.length := by
  cases u with
  | nil => cases h
  | cons c r =>
    rw [bsP] at h
    split at h
    · cases h; simp
    · split at h
      · cases h
      · cases h; simp
/-- Every part comes to one node at least. -/
theorem rd_more : ∀ (f : Nat), (∀ {u X u' X'}, rdC f u X = some (u', X') → X.length < X'.length) ∧ (∀ {u X u' X'}, rdR f u X = some (u', X') → X.length < X'.length) ∧ (∀ {u X u' X'}, rdP f u X = some (u', X') → X.length < X'.length) ∧ (∀ {u X u' X'}, rdA f u X = some (u', X') → X.length < X'.length)
  | 0 => by
    refine ⟨fun h => ?_, fun h => ?_, fun h => ?_, fun h => ?_⟩
    · rw [rdC] at h; cases h
    · rw [rdR] at h; cases h
    · rw [rdP] at h; cases h
    · rw [rdA] at h; cases h
  | f + 1 => by
    obtain ⟨iC, iR, iP, iA⟩ := rd_more f
    have pre : ∀ {X X' : List Nd}, (∃ Y, X' = X ++ Y) → X.length ≤ X'.length := fun h => by obtain ⟨Y, rfl⟩ := h; simp
    refine ⟨fun {u X u' X'} h => ?_, fun {u X u' X'} h => ?_, fun {u X u' X'} h => ?_, fun {u X u' X'} h => ?_⟩
    · rw [rdC] at h
      split at h
      · cases h
      · rename_i u1 X1 e
        have h1 := iR e
        have h2 := pre ((rd_sh f).2.1 h).1
        omega
    · rw [rdR] at h
      split at h
      · cases h; simp
      · split at h
        · cases h
        · rename_i u1 X1 e
          have h1 := iP e
          have h2 := pre ((rd_sh f).2.2.2.1 h).1
          omega
    · rw [rdP] at h
      split at h
      · cases h
      · rename_i u1 X1 e
        have h1 := iA e
        split at h
        · cases h
        · cases h; exact h1
        · cases h; simp; omega
    · cases u with
      | nil => rw [rdA] at h; cases h
      | cons c r =>
        rw [rdA] at h
        split at h
        · split at h
          · cases h
          · rename_i u1 X1 e
            split at h
            · cases h; exact iC e
            · cases h
        · split at h
          · exact br_more h
          · split at h
            · cases h; simp
            · split at h
              · exact bs_more h
              · split at h
                · cases h
                · cases h; simp
theorem bd_pre {X X' : List Nd} (h : ∃ Y, X' = X ++ Y) (hb : Bd X) : Bd X' := by obtain ⟨Y, rfl⟩ := h; exact bd_app Y hb
theorem s_addN {B R : Nat} {C : List Int} {k : Nat} {X : List Nd} {w : World} (kd : Int) (a b : Int) (h : SD (fun j => B ≤ j) B R w C k false X) (hX : X.length ≤ 120) : Calls Tryd.prog 59 #[.pointer (some ⟨R, 0, none⟩), .agg #[.int .i64 kd, .bool false, .slice none 0 0, .int .i64 a, .int .i64 b, .int .i64 0, .int .i64 0]] w fun e w' => e = .returned (.int .i64 (X.length : Int)) ∧ SD (fun j => B ≤ j) B R w' C k (decide (120 < X.length + 1)) (X ++ [⟨kd, false, [], a, b, 0, 0⟩]) ∧ Below B w w' :=
  s_add B R C k X ⟨kd, false, [], a, b, 0, 0⟩ none 0 w hX (by simp) h (fun j hj => hj) (World.ownsRow_nil _ _ _ _) (fun k hk => by cases hk)
/-- What is known between two pieces of a row. -/
def RwE (C : List Int) (k : Nat) (X : List Nd) (f : Nat) (bd : Bool) (kl : Nat) (Xl : List Nd) (nv : Int) : Prop :=
  (bd = false ∧ Xl.length ≤ 120 ∧ ((nv = -1 ∧ kl = k ∧ Xl = X) ∨ (nv = (Xl.length : Int) - 1 ∧ 0 < Xl.length ∧ k < kl ∧ ∃ q, 4 * (C.length - kl) + 3 ≤ q ∧ rdR (f + 1) (C.drop k) X = rdRl q (C.drop kl) Xl))) ∨
  (bd = true ∧ ∀ u' X', rdR (f + 1) (C.drop k) X = some (u', X') → Bd X')
set_option maxRecDepth 100000 in
set_option maxHeartbeats 8000000 in
theorem s_row (n : Nat) (hP : PcS n) : RwS n := by
  intro B R C k X w g hn hg hX h
  obtain ⟨f, rfl⟩ : ∃ f, g = f + 1 := ⟨g - 1, by omega⟩
  have HE : Hid (rdR (f + 1) (C.drop k) X = if rwE (C.drop k) = true then some (C.drop k, X ++ [emN]) else match rdP f (C.drop k) X with
    | none => none
    | some (u1, X1) => rdRl f u1 X1) := hide (by rw [rdR]; rfl)
  have H0 := hide h
  have hC4 := h.1.2.2
  clear h
  go_enter Tryd.func57, Tryd.ntmps57
  go_wp2_with fail
  go_loopw [3] (fun v3 wr => ∃ (kl : Nat) (bd : Bool) (Xl : List Nd) (nv : Int), v3 = .int .i64 nv ∧ Hid (SD (fun j => B ≤ j) B R wr C kl bd Xl) ∧ Hid (Below B w wr) ∧ Hid (RwE C k X f bd kl Xl nv)) (fun _ wr => msS R C.length wr)
  case atStart => exact ⟨k, false, X, -1, rfl, H0, hide (Below.refl _ _), hide (.inl ⟨rfl, hX, .inl ⟨rfl, rfl, rfl⟩⟩)⟩
  case round =>
    clear H0
    obtain ⟨kl, bd, Xl, nv, rfl, HS, HB, HR⟩ := hrel
    cases bd
    case true =>
      have HNO : Hid (∀ u' X', rdR (f + 1) (C.drop k) X = some (u', X') → Bd X') := hide (by rcases HR.out with ⟨h, -⟩ | ⟨-, h⟩; cases h; exact h)
      obtain ⟨ta, tc, ad, cp, ⟨c0, c1, c2, c3⟩, ff, -⟩ := sd_cells HS.out
      clear ff HR HE
      go_wp2
      go_quiet (fail)
      revert nq; intro n1
      have HS2 := hide (sd_dr HS.out n1)
      have HB2 : Hid (Below B w (wr.drewN n1)) := hide (HB.out.trans ((bl_drewN wr n1).mono (sd_lt HS.out)))
      by_cases hnv : nv < 0
      · have hnv2 : decide (nv < 0) = true := decide_eq_true hnv
        go_wp2
        go_ret
        exact .inr ⟨⟨nv, kl, Xl, rfl, HS2.out⟩, HNO.out, HB2.out⟩
      · have hnv2 : decide (nv < 0) = false := decide_eq_false hnv
        go_wp2
        go_ret
        exact .inr ⟨⟨nv, kl, Xl, rfl, HS2.out⟩, HNO.out, HB2.out⟩
    case false =>
      obtain ⟨hXl, hcase⟩ : Xl.length ≤ 120 ∧ ((nv = -1 ∧ kl = k ∧ Xl = X) ∨ (nv = (Xl.length : Int) - 1 ∧ 0 < Xl.length ∧ k < kl ∧ ∃ q, 4 * (C.length - kl) + 3 ≤ q ∧ rdR (f + 1) (C.drop k) X = rdRl q (C.drop kl) Xl)) := by
        rcases HR.out with ⟨-, h1, h2⟩ | ⟨h, -⟩
        · exact ⟨h1, h2⟩
        · cases h
      have HK := hide hcase
      clear HR hcase
      have hms := msS_no HS.out
      have hkl := HS.out.1.2.1
      have hnvb : -1 ≤ nv ∧ nv ≤ 120 := by rcases HK.out with ⟨h, -⟩ | ⟨h, h2, -⟩ <;> omega
      cases hr : C.drop kl with
      | nil =>
        have hk : C.length ≤ kl := List.drop_eq_nil_iff.1 hr
        obtain ⟨ta, tc, ad, cp, ⟨c0, c1, c2, c3⟩, ff, -⟩ := sd_cells HS.out
        have hd : decide ((kl : Int) < (C.length : Int)) = false := decide_eq_false (by omega)
        have hi : ¬ (kl : Int) < (C.length : Int) := by omega
        have hd2 : decide (kl < C.length) = false := decide_eq_false (by omega)
        have hi2 : ¬ kl < C.length := by omega
        have hend : rwE (C.drop kl) = true := by rw [hr]; rfl
        clear ff
        go_wp2
        go_quiet (fail)
        revert nq; intro n1
        have HS2 := hide (sd_dr HS.out n1)
        have HB2 : Hid (Below B w (wr.drewN n1)) := hide (HB.out.trans ((bl_drewN wr n1).mono (sd_lt HS.out)))
        rcases HK.out with ⟨hnv, hkk, hXX⟩ | ⟨hnv, hpos, hkk, q, hq, heq⟩
        · subst hkk hXX hnv
          have E : Hid (rdR (f + 1) (C.drop kl) Xl = some (C.drop kl, Xl ++ [emN])) := hide (by rw [HE.out, if_pos hend])
          obtain ⟨_, _, _, _, ⟨-, -, d2, -⟩, -, -⟩ := sd_cells HS2.out
          have HA := hide (s_addN 1 0 0 HS2.out hXl)
          clear HK HE
          go_wp2_with fail
          refine HA.out.mono ?_
          rintro e w3 ⟨rfl, h3, hb3⟩
          have HQ : Hid (RaS B R C w (rdR (f + 1) (C.drop kl) Xl) (.returned (.int .i64 (Xl.length : Int))) w3) := hide (ras_add E.out h3 (HB2.out.trans hb3))
          clear h3 hb3
          go_wp2
          go_ret
          exact HQ.out
        · obtain ⟨q, rfl⟩ : ∃ p, q = p + 1 := ⟨q - 1, by omega⟩
          have E : Hid (rdR (f + 1) (C.drop k) X = some (C.drop kl, Xl)) := hide (by rw [heq, rdRl, if_pos hend])
          have hnv0 : ¬ nv < 0 := by omega
          have hnv1 : decide (nv < 0) = false := decide_eq_false hnv0
          have HNV := hide hnv
          clear HK HE heq hnv
          go_wp2
          go_ret
          exact .inl ⟨kl, Xl, E.out, hXl, by rw [← HNV.out]; rfl, HS2.out, HB2.out⟩
      | cons c r =>
        obtain ⟨b, off, tc, ad, cp, c0, c1, c2, c3, f1, f2, ck, hlt⟩ := sd_here HS.out hr
        have hd : decide ((kl : Int) < (C.length : Int)) = true := decide_eq_true (by omega)
        have hi : (kl : Int) < (C.length : Int) := by omega
        have hi0 : (0 : Int) ≤ (kl : Int) := by omega
        have hd2 : decide (kl < C.length) = true := decide_eq_true hlt
        by_cases e1 : c = 124
        · have hend : rwE (C.drop kl) = true := by rw [hr, e1]; rfl
          have hb1 : (c != 124) = false := by simp [e1]
          go_wp2
          go_quiet (fail)
          revert nq; intro n1
          have HS2 := hide (sd_dr HS.out n1)
          have HB2 : Hid (Below B w (wr.drewN n1)) := hide (HB.out.trans ((bl_drewN wr n1).mono (sd_lt HS.out)))
          clear c0 c1 c2 c3 f1 f2 ck
          rcases HK.out with ⟨hnv, hkk, hXX⟩ | ⟨hnv, hpos, hkk, q, hq, heq⟩
          · subst hkk hXX hnv
            have E : Hid (rdR (f + 1) (C.drop kl) Xl = some (C.drop kl, Xl ++ [emN])) := hide (by rw [HE.out, if_pos hend])
            obtain ⟨_, _, _, _, ⟨-, -, d2, -⟩, -, -⟩ := sd_cells HS2.out
            have HA := hide (s_addN 1 0 0 HS2.out hXl)
            clear HK HE
            go_wp2_with fail
            refine HA.out.mono ?_
            rintro e w3 ⟨rfl, h3, hb3⟩
            have HQ : Hid (RaS B R C w (rdR (f + 1) (C.drop kl) Xl) (.returned (.int .i64 (Xl.length : Int))) w3) := hide (ras_add E.out h3 (HB2.out.trans hb3))
            clear h3 hb3
            go_wp2
            go_ret
            exact HQ.out
          · obtain ⟨q, rfl⟩ : ∃ p, q = p + 1 := ⟨q - 1, by omega⟩
            have E : Hid (rdR (f + 1) (C.drop k) X = some (C.drop kl, Xl)) := hide (by rw [heq, rdRl, if_pos hend])
            have hnv0 : ¬ nv < 0 := by omega
            have hnv1 : decide (nv < 0) = false := decide_eq_false hnv0
            have HNV := hide hnv
            clear HK HE heq hnv
            go_wp2
            go_ret
            exact .inl ⟨kl, Xl, E.out, hXl, by rw [← HNV.out]; rfl, HS2.out, HB2.out⟩
        · have hb1 : (c != 124) = true := by simp [e1]
          by_cases e2 : c = 41
          · have hend : rwE (C.drop kl) = true := by rw [hr, e2]; rfl
            have hb2 : (c != 41) = false := by simp [e2]
            go_wp2
            go_quiet (fail)
            revert nq; intro n1
            have HS2 := hide (sd_dr HS.out n1)
            have HB2 : Hid (Below B w (wr.drewN n1)) := hide (HB.out.trans ((bl_drewN wr n1).mono (sd_lt HS.out)))
            clear c0 c1 c2 c3 f1 f2 ck
            rcases HK.out with ⟨hnv, hkk, hXX⟩ | ⟨hnv, hpos, hkk, q, hq, heq⟩
            · subst hkk hXX hnv
              have E : Hid (rdR (f + 1) (C.drop kl) Xl = some (C.drop kl, Xl ++ [emN])) := hide (by rw [HE.out, if_pos hend])
              obtain ⟨_, _, _, _, ⟨-, -, d2, -⟩, -, -⟩ := sd_cells HS2.out
              have HA := hide (s_addN 1 0 0 HS2.out hXl)
              clear HK HE
              go_wp2_with fail
              refine HA.out.mono ?_
              rintro e w3 ⟨rfl, h3, hb3⟩
              have HQ : Hid (RaS B R C w (rdR (f + 1) (C.drop kl) Xl) (.returned (.int .i64 (Xl.length : Int))) w3) := hide (ras_add E.out h3 (HB2.out.trans hb3))
              clear h3 hb3
              go_wp2
              go_ret
              exact HQ.out
            · obtain ⟨q, rfl⟩ : ∃ p, q = p + 1 := ⟨q - 1, by omega⟩
              have E : Hid (rdR (f + 1) (C.drop k) X = some (C.drop kl, Xl)) := hide (by rw [heq, rdRl, if_pos hend])
              have hnv0 : ¬ nv < 0 := by omega
              have hnv1 : decide (nv < 0) = false := decide_eq_false hnv0
              have HNV := hide hnv
              clear HK HE heq hnv
              go_wp2
              go_ret
              exact .inl ⟨kl, Xl, E.out, hXl, by rw [← HNV.out]; rfl, HS2.out, HB2.out⟩
          · have hb2 : (c != 41) = true := by simp [e2]
            have hend : ¬ rwE (C.drop kl) = true := by rw [hr]; simp [rwE, e1, e2]
            go_wp2
            go_quiet (fail)
            revert nq; intro n1
            have HS2 := hide (sd_dr HS.out n1)
            have HB2 : Hid (Below B w (wr.drewN n1)) := hide (HB.out.trans ((bl_drewN wr n1).mono (sd_lt HS.out)))
            clear c0 c1 c2 c3 f1 f2 ck hd hi hi0 hd2 hb1 hb2 hr
            obtain ⟨W, hW⟩ : ∃ W, wr.drewN n1 = W := ⟨_, rfl⟩
            have hms2 : msS R C.length W = C.length - kl + 1 := by rw [← hW]; exact msS_no HS2.out
            go_wp2_with fail
            rw [hW] at HS2 HB2
            clear hW
            rcases HK.out with ⟨hnv, hkk, hXX⟩ | ⟨hnv, hpos, hkk, q, hq, heq⟩
            · -- the first piece
              subst hkk hXX hnv
              have HQ := hide (hP B R C kl Xl W f hlt hn (by omega) hXl HS2.out)
              have HE1 : Hid (rdR (f + 1) (C.drop kl) Xl = match rdP f (C.drop kl) Xl with
                | none => none
                | some (u1, X1) => rdRl f u1 X1) := hide (by rw [HE.out, if_neg hend])
              clear HK HE
              refine HQ.out.mono ?_
              rintro e w2 (⟨k2, X2, ho, hX2, rfl, h2, hb2⟩ | ⟨⟨v, k2, X2, rfl, h2⟩, hno, hb2⟩)
              · have hm := (rd_more f).2.2.1 ho
                have hsh := (rd_sh f).2.2.2.2.1 ho
                have hk2l := h2.1.2.1
                have hlen := hsh.2.2
                simp only [List.length_drop] at hlen
                have HE2 : Hid (rdR (f + 1) (C.drop kl) Xl = rdRl f (C.drop k2) X2) := hide (by have h9 := HE1.out; rw [ho] at h9; exact h9)
                have H2 := hide h2
                have HB3 := hide (HB2.out.trans hb2)
                obtain ⟨_, _, _, _, ⟨-, -, d2, -⟩, -, -⟩ := sd_cells h2
                clear h2 hb2 ho hsh HE1 HQ
                go_wp2
                go_roundw
                case rel => exact ⟨k2, false, X2, (X2.length : Int) - 1, rfl, H2, HB3, hide (.inl ⟨rfl, hX2, .inr ⟨rfl, by omega, by omega, f, by omega, HE2.out⟩⟩)⟩
                case measure => rw [msS_no H2.out, hms]; omega
              · have HNO : Hid (∀ u9 X9, rdR (f + 1) (C.drop kl) Xl = some (u9, X9) → Bd X9) := hide (fun u9 X9 h9 => by
                  rw [HE1.out] at h9
                  cases hq : rdP f (C.drop kl) Xl with
                  | none => rw [hq] at h9; cases h9
                  | some p =>
                    obtain ⟨u1, Y1⟩ := p
                    rw [hq] at h9
                    exact bd_pre ((rd_sh f).2.2.2.1 h9).1 (hno u1 Y1 hq))
                have H2 := hide h2
                have HB3 := hide (HB2.out.trans hb2)
                obtain ⟨_, _, _, _, ⟨-, -, d2, -⟩, -, -⟩ := sd_cells h2
                clear h2 hb2 hno HE1 HQ
                go_wp2
                go_roundw
                case rel => exact ⟨k2, true, X2, v, rfl, H2, HB3, hide (.inr ⟨rfl, HNO.out⟩)⟩
                case measure => rw [msS_bad H2.out, hms]; omega
            · -- another piece
              obtain ⟨q, rfl⟩ : ∃ p, q = p + 1 := ⟨q - 1, by omega⟩
              have HQ := hide (hP B R C kl Xl W q hlt (by omega) (by omega) hXl HS2.out)
              have HE1 : Hid (rdR (f + 1) (C.drop k) X = match rdP q (C.drop kl) Xl with
                | none => none
                | some (u1, X1) => rdRl q u1 (X1 ++ [sqN nv ((X1.length : Int) - 1)])) := hide (by rw [heq, rdRl, if_neg hend, hnv]; rfl)
              have hnv0 : 0 ≤ nv := by omega
              have hnv1 : decide (nv ≥ 0) = true := decide_eq_true hnv0
              have HNV := hide hnv
              clear HK HE heq hnv
              refine HQ.out.mono ?_
              rintro e w2 (⟨k2, X2, ho, hX2, rfl, h2, hb2⟩ | ⟨⟨v, k2, X2, rfl, h2⟩, hno, hb2⟩)
              · have hm := (rd_more q).2.2.1 ho
                have hsh := (rd_sh q).2.2.2.2.1 ho
                have hk2l := h2.1.2.1
                have hlen := hsh.2.2
                simp only [List.length_drop] at hlen
                obtain ⟨a2, ha2⟩ : ∃ a2, (X2.length : Int) - 1 = a2 := ⟨_, rfl⟩
                have HE2 : Hid (rdR (f + 1) (C.drop k) X = rdRl q (C.drop k2) (X2 ++ [sqN nv a2])) := hide (by have h9 := HE1.out; rw [ho] at h9; rw [← ha2]; exact h9)
                have H2 := hide h2
                have HB3 := hide (HB2.out.trans hb2)
                obtain ⟨_, _, _, _, ⟨-, -, d2, -⟩, -, -⟩ := sd_cells h2
                have HA := hide (s_addN 3 nv a2 h2 hX2)
                rw [ha2]
                clear h2 hb2 ho hsh HE1 HQ ha2
                go_wp2_with fail
                refine HA.out.mono ?_
                rintro e w3 ⟨rfl, h3, hb3⟩
                have H3 := hide h3
                have HB4 := hide (HB3.out.trans hb3)
                clear h3 hb3 HA d2
                go_wp2
                by_cases hbig : 120 < X2.length + 1
                · have HD := hide (decide_eq_true hbig)
                  rw [HD.out] at H3
                  go_roundw
                  case rel => exact ⟨k2, true, X2 ++ [sqN nv a2], (X2.length : Int), rfl, H3, HB4, hide (.inr ⟨rfl, fun u9 X9 h9 => by rw [HE2.out] at h9; exact bd_pre ((rd_sh q).2.2.2.1 h9).1 (.inl (by simp; omega))⟩)⟩
                  case measure => rw [msS_bad H3.out, hms]; omega
                · have HD := hide (decide_eq_false hbig)
                  rw [HD.out] at H3
                  go_roundw
                  case rel => exact ⟨k2, false, X2 ++ [sqN nv a2], (X2.length : Int), rfl, H3, HB4, hide (.inl ⟨rfl, by simp; omega, .inr ⟨by simp, by simp, by omega, q, by omega, HE2.out⟩⟩)⟩
                  case measure => rw [msS_no H3.out, hms]; omega
              · have HNO : Hid (∀ u9 X9, rdR (f + 1) (C.drop k) X = some (u9, X9) → Bd X9) := hide (fun u9 X9 h9 => by
                  rw [HE1.out] at h9
                  cases hq : rdP q (C.drop kl) Xl with
                  | none => rw [hq] at h9; cases h9
                  | some p =>
                    obtain ⟨u1, Y1⟩ := p
                    rw [hq] at h9
                    exact bd_pre ((rd_sh q).2.2.2.1 h9).1 (bd_app _ (hno u1 Y1 hq)))
                have H2 := hide h2
                have HB3 := hide (HB2.out.trans hb2)
                obtain ⟨_, _, _, _, ⟨-, -, d2, -⟩, -, -⟩ := sd_cells h2
                clear h2 hb2 hno HE1 HQ
                go_wp2
                go_roundw
                case rel => exact ⟨k2, true, X2, v, rfl, H2, HB3, hide (.inr ⟨rfl, HNO.out⟩)⟩
                case measure => rw [msS_bad H2.out, hms]; omega
end Go.Proofs.YtepommmmmfaihaaDoor
