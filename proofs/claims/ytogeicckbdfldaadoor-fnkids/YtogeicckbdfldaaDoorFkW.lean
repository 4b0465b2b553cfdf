/-
  The walk of FnKids.
-/
import Derived.Test.YtogeicckbdfldaaDoorFkA
import Derived.BigQuiet
namespace Go.Proofs.YtogeicckbdfldaaDoor
open Go.RowKit
set_option linter.unusedVariables false
set_option linter.unusedSimpArgs false
theorem below_drewK {b : Nat} {w w1 : World} (h : Below b w w1) (q : Nat) : Below b w (w1.drewN q) := h.trans ⟨rfl, rfl, rfl, Nat.le_refl _, fun _ _ => rfl⟩
theorem row_goK {w w' : World} {a : Option Addr} {xs : List Int} (h : RowAt .i64 w a xs w.heap.size) (hb : Below w.heap.size w w') : RowAt .i64 w' a xs w'.heap.size := by
  intro hne
  obtain ⟨b, off, rfl, hlt, hc⟩ := h hne
  exact ⟨b, off, rfl, Nat.lt_of_lt_of_le hlt hb.size, fun j hj => (hb.cell (p := ⟨b, off + j, none⟩) hlt).trans (hc j hj)⟩
set_option maxHeartbeats 8000000 in
set_option maxRecDepth 100000 in
theorem fk_walk (a : Option Addr) (n cap : Nat) (zs : List Int) (w : World) (hl : zs.length = n) (hz : ∀ x ∈ zs, 0 ≤ x ∧ x ≤ 255) (hn : n ≤ 1048576) (hs : SrcAt w a zs w.heap.size) (hT : Tabs w) :
    Calls Tryd.prog 3 #[.slice a n cap] w fun e w' => e = .returned (.bool true) ∧ Below w.heap.size w w' := by
  have hn' : ¬ (1048576 : Int) < (n : Int) := by omega
  have HT := hide hT
  have CD := hide (d_kids a n cap zs w (fun G => grow_at G a n cap zs) hl hz hn hs)
  clear hs hl hz hT
  go_enter Tryd.func3, Tryd.ntmps3
  go_wp2_with (go_at_call 6; go_in)
  refine CD.out.mono ?_
  rintro e w1 ⟨ad, m, c, D, x, rfl, hD, ⟨hm1, hm2⟩, htot, hdc, hb1⟩
  have B1 := hide hb1
  have HT1 := hide (tabs_below HT.out hb1)
  have HD := hide hD
  have HTO := hide htot
  have HDC := hide hdc
  clear hb1 hD htot hdc CD
  have KI := hide (fun (y : Int) (w9 : World) (hb : Hid (Below w1.heap.size w1 w9)) => i_kidsof D m ad c y w9 HD.out HTO.out (dcAt_up (dcAt_go HDC.out hb.out) hb.out.size) (tabs_below HT1.out hb.out))
  have KS := hide (fun (w9 : World) (hb : Hid (Below w1.heap.size w1 w9)) => s_kidsof D m ad c x w9 HD.out HTO.out (dcAt_up (dcAt_go HDC.out hb.out) hb.out.size))
  have TI := hide (fun (w9 : World) (hb : Hid (Below w1.heap.size w1 w9)) => i_textof D m ad c x w9 HD.out HTO.out (dcAt_up (dcAt_go HDC.out hb.out) hb.out.size) (tabs_below HT1.out hb.out))
  have TS := hide (fun (w9 : World) (hb : Hid (Below w1.heap.size w1 w9)) => s_textof D m ad c x w9 HD.out HTO.out (dcAt_up (dcAt_go HDC.out hb.out) hb.out.size))
  have OI := hide (fun (w9 : World) (hb : Hid (Below w1.heap.size w1 w9)) => i_docok D m ad c w9 HD.out HTO.out (dcAt_up (dcAt_go HDC.out hb.out) hb.out.size) (tabs_below HT1.out hb.out))
  have H0 : Hid (Below w1.heap.size w1 w1) := hide (Below.refl _ _)
  have HKA := hide (fun (k : Nat) (h : k < (kidsV D x).length) => kids_at (D := D) (x := x) k h)
  have HKT := hide (fun (h : txOk D x = true) => kids_text h)
  have HKL := hide (kidsV_len D x)
  have HNO := hide (fun (h : docokB D = false) => kidsV_no (D := D) (x := x) (by unfold hasB'; rw [h]; rfl))
  go_wp2_with fail
  refine (KI.out x _ H0).mono ?_
  rintro e w2 ⟨ka, kc, rfl, hown, hb2⟩
  have HROW := hide (own_rowAt' rfl hown)
  have B2 := hide hb2
  clear hown hb2
  obtain ⟨xs, hxs⟩ : ∃ xs, kidsV D x = xs := ⟨_, rfl⟩
  rw [hxs] at HROW HKA HKT HKL HNO
  obtain ⟨K, hK⟩ : ∃ K, xs.length = K := ⟨_, rfl⟩
  rw [hxs, hK]
  rw [hK, HD.out] at HKL
  have hK40 : K ≤ m := HKL.out
  have HXS := hide hxs
  have HKK := hide hK
  obtain ⟨tv, htv⟩ : ∃ tv, txV D x = tv := ⟨_, rfl⟩
  obtain ⟨tk, htk⟩ : ∃ tk, txOk D x = tk := ⟨_, rfl⟩
  have TI2 := hide (TI.out w2 B2)
  rw [htv, htk] at TI2
  rw [htv, htk] at TS HKT
  clear hxs hK TI htv htk
  go_wp2_with fail
  refine TI2.out.mono ?_
  rintro e w3 ⟨rfl, hb3⟩
  have B3 := hide (B2.out.trans (hb3.mono B2.out.size))
  have HROW3 := hide (row_goK HROW.out hb3)
  clear hb3 TI2
  go_wp2_with fail
  refine (TS.out _ B3).mono ?_
  rintro e w4 ⟨rfl, hb4⟩
  have B4 := hide (B3.out.trans (hb4.mono B3.out.size))
  have HROW4 := hide (row_goK HROW3.out hb4)
  clear hb4
  go_wp2_with fail
  refine (KS.out _ B4).mono ?_
  rintro e w5 ⟨sa, sc, rfl, hown, hb5⟩
  have B5 := hide (B4.out.trans (hb5.mono B4.out.size))
  have HROW5 := hide (row_goK HROW4.out hb5)
  have HRS : Hid (RowAt .i64 w5 sa xs w5.heap.size) := hide (by have h := own_rowAt' rfl hown; rw [HXS.out] at h; exact h)
  clear hown hb5
  rw [HXS.out, HKK.out]
  have hK6 : K ≤ 1048576 := by omega
  go_wp2_with fail
  refine (same_same ka sa K kc sc xs _ HKK.out hK6 HROW5.out HRS.out).mono ?_
  rintro e w6 ⟨rfl, q6, rfl⟩
  have B6 := hide (below_drewK B5.out q6)
  have HROW6 : Hid (RowAt .i64 (w5.drewN q6) ka xs (w5.drewN q6).heap.size) := hide (by have h := HROW5.out; exact h)
  obtain ⟨w6, hw6⟩ : ∃ w6, w5.drewN q6 = w6 := ⟨_, rfl⟩
  rw [hw6] at B6 HROW6
  rw [hw6]
  clear hw6
  go_wp2
  have hmI1 : (1 : Int) ≤ (m : Int) := by omega
  obtain ⟨b, off, rfl, hbs, hrow⟩ := HDC.out (by rw [HD.out]; omega)
  have HRD := hide hrow
  clear hrow
  have HKAT := hide (catT_take D xs)
  have hcs : ∀ k, k ≤ K → (catT D (xs.take k)).size ≤ 1048576 * k := by
    intro k hk
    have hlen : (xs.take k).length = k := by rw [List.length_take, HKK.out]; omega
    have h := catT_size D (xs.take k) (fun j hj => by
      obtain ⟨i, hi, rfl⟩ := List.getElem_of_mem (List.mem_of_mem_take hj)
      have h1 := (HKA.out i hi).1
      rw [List.getElem?_eq_getElem hi] at h1
      have h2 := ((dc_sz HTO.out).2 (xs[i]).toNat (by
        have : (some xs[i]).getD 0 = xs[i] := rfl
        omega)).1
      omega)
    rw [hlen] at h
    exact h
  have HCS := hide hcs
  clear hcs
  go_loopw [10, 11] (fun sv iv wr => ∃ k : Nat, k ≤ K ∧ sv = .string (catT D (xs.take k)) ∧ iv = .int .i64 k ∧ ∃ q, wr = w6.drewN q) (fun _ iv _ => K - (intOf iv).toNat)
  case atStart => exact ⟨0, Nat.zero_le _, rfl, rfl, 0, rfl⟩
  case round =>
    obtain ⟨k, hk, rfl, rfl, q, rfl⟩ := hrel
    by_cases hlt : k < K
    · obtain ⟨b9, off9, rfl, hb9, hc9⟩ := HROW6.out (fun h => by have := HKK.out; rw [h] at this; simp at this; omega)
      have k0 := hc9 k (by rw [HKK.out]; exact hlt)
      have hka := HKA.out k (by rw [HKK.out]; exact hlt)
      have HCT := hide (HKAT.out k (by rw [HKK.out]; exact hlt))
      have hsz1 := HCS.out k hk
      have hsz2 := HCS.out (k + 1) (by omega)
      rw [HCT.out, ByteArray.size_append] at hsz2
      obtain ⟨S, hS⟩ : ∃ S, catT D (xs.take k) = S := ⟨_, rfl⟩
      rw [hS] at HCT hsz1 hsz2 ⊢
      have kp := fun (h0 : k ≠ 0) => hc9 (k - 1) (by rw [HKK.out]; omega)
      obtain ⟨v, hv⟩ : ∃ v, xs[k]?.getD 0 = v := ⟨_, rfl⟩
      rw [hv] at k0 hka HCT hsz2
      obtain ⟨⟨hv0, hvn⟩, hvu, hvp⟩ := hka
      rw [HD.out] at hvn
      obtain ⟨ad8, cp8, hc8, -⟩ := HRD.out v.toNat (by rw [HD.out]; omega)
      obtain ⟨c0, c1, c2, c3⟩ := dcCells_go hc8 hbs B6.out
      rw [hvu] at c0
      have hS1 : ¬ 9223372036854775807 < S.size + (D.TX v.toNat).size := by omega
      have hkl : (k : Int) < (K : Int) := by omega
      have hk0 : (0 : Int) ≤ (k : Int) := by omega
      clear hc9 hv hc8 hS hsz1 hsz2
      by_cases hz0 : k = 0
      · have hkd : decide ((0 : Int) < (k : Int)) = false := decide_eq_false (by omega)
        have hkd2 : decide (0 < k) = false := decide_eq_false (by omega)
        clear kp hvp
        have HZ0 := hide hz0
        clear hz0
        go_wp2
        go_quiet (fail)
        go_wp2
        go_roundw
        case rel => exact ⟨k + 1, by omega, by rw [HCT.out], by go_num, q + nq, by simp⟩
        case measure => simp [intOf]; omega
      · have kp1 := kp hz0
        have hvp1 := hvp hz0
        obtain ⟨u, hu⟩ : ∃ u, xs[k - 1]?.getD 0 = u := ⟨_, rfl⟩
        rw [hu] at kp1 hvp1
        clear kp hvp hu
        have hkd : decide ((0 : Int) < (k : Int)) = true := decide_eq_true (by omega)
        have hkd2 : decide (0 < k) = true := decide_eq_true (by omega)
        have hk10 : (0 : Int) ≤ (k : Int) - 1 := by omega
        have hk1K : (k : Int) - 1 < (K : Int) := by omega
        have hkn : ((k : Int) - 1).toNat = k - 1 := by omega
        have hge : decide (v ≤ u) = false := decide_eq_false (by omega)
        go_wp2
        go_quiet (fail)
        go_wp2
        go_roundw
        case rel => exact ⟨k + 1, by omega, by rw [HCT.out], by go_num, q + nq, by simp⟩
        case measure => simp [intOf]; omega
    · have hkK : k = K := by omega
      subst hkK
      have hall : xs.take k = xs := by rw [← HKK.out]; exact List.take_length
      rw [hall]
      have BQ := hide (below_drewK B6.out q)
      obtain ⟨wq, hwq⟩ : ∃ wq, w6.drewN q = wq := ⟨_, rfl⟩
      rw [hwq] at BQ
      rw [hwq]
      clear hwq
      have HAL : Hid (tk = false ∨ tv = catT D xs) := hide (by
        cases tk
        · exact .inl rfl
        · exact .inr (HKT.out rfl))
      have CO := hide (OI.out wq BQ)
      cases hd : docokB D
      · rw [hd] at CO
        have HK0 : Hid (k = 0) := hide (by have h := HNO.out hd; have h2 := HKK.out; rw [h] at h2; exact h2.symm)
        have hk0 : ((k : Int) == 0) = true := by rw [HK0.out]; rfl
        obtain ⟨al, hal⟩ : ∃ al, catT D xs = al := ⟨_, rfl⟩
        rw [hal] at HAL
        rw [hal]
        rcases HAL.out with e | e
        · subst e
          clear hal
          go_wp2_with fail
          refine CO.out.mono ?_
          rintro e w7 ⟨rfl, hb7⟩
          have B7 := hide (B1.out.trans ((BQ.out.trans (hb7.mono BQ.out.size)).mono B1.out.size))
          clear hb7
          go_wp2
          go_ret
          exact ⟨rfl, B7.out⟩
        · subst e
          clear hal
          cases tk
          · go_wp2_with fail
            refine CO.out.mono ?_
            rintro e w7 ⟨rfl, hb7⟩
            have B7 := hide (B1.out.trans ((BQ.out.trans (hb7.mono BQ.out.size)).mono B1.out.size))
            clear hb7
            go_wp2
            go_ret
            exact ⟨rfl, B7.out⟩
          · go_wp2_with fail
            refine CO.out.mono ?_
            rintro e w7 ⟨rfl, hb7⟩
            have B7 := hide (B1.out.trans ((BQ.out.trans (hb7.mono BQ.out.size)).mono B1.out.size))
            clear hb7
            go_wp2
            go_ret
            exact ⟨rfl, B7.out⟩
      · rw [hd] at CO
        obtain ⟨al, hal⟩ : ∃ al, catT D xs = al := ⟨_, rfl⟩
        rw [hal] at HAL
        rw [hal]
        rcases HAL.out with e | e
        · subst e
          clear hal
          go_wp2_with fail
          refine CO.out.mono ?_
          rintro e w7 ⟨rfl, hb7⟩
          have B7 := hide (BQ.out.trans (hb7.mono BQ.out.size))
          clear hb7
          go_wp2
          go_loopw [12, 13] (fun mv iv wr => ∃ i : Nat, i ≤ m ∧ mv = .int .i64 (1 + (kdSum D m i : Nat)) ∧ iv = .int .i64 i ∧ Below w1.heap.size w1 wr) (fun _ iv _ => m - (intOf iv).toNat)
          case atStart => exact ⟨0, Nat.zero_le _, rfl, rfl, B7.out⟩
          case round =>
            obtain ⟨i, hi, rfl, rfl, hbr⟩ := hrel
            have BR := hide hbr
            clear hbr B7
            by_cases hil : i < m
            · have CI := hide (KI.out i _ BR)
              have hv9 : kidsV D i = kd D i m := by rw [kidsV_at hd (by rw [HD.out]; exact hil), HD.out]
              unfold KidsAns at CI
              rw [hv9] at CI
              have hs1 := kdSum_le D m i
              have hs2 := kd_len D i m
              have HSU : Hid (kdSum D m (i + 1) = kdSum D m i + (kd D i m).length) := hide rfl
              obtain ⟨L, hL⟩ : ∃ L, (kd D i m).length = L := ⟨_, rfl⟩
              obtain ⟨Z, hZ⟩ : ∃ Z, kdSum D m i = Z := ⟨_, rfl⟩
              rw [hL] at CI hs2
              rw [hL, hZ] at HSU
              rw [hZ] at hs1 ⊢
              have hz9 : Z ≤ 40 * 40 := Nat.le_trans hs1 (Nat.mul_le_mul hm2 (by omega))
              have hiI : (i : Int) < (m : Int) := by omega
              clear hL hZ hs1 hv9
              go_wp2_with fail
              refine CI.out.mono ?_
              rintro e w8 ⟨ja, jc, rfl, -, hb8⟩
              have B8 := hide (BR.out.trans (hb8.mono BR.out.size))
              clear hb8
              go_wp2
              go_roundw
              case rel => exact ⟨i + 1, by omega, by rw [HSU.out]; go_num, by go_num, B8.out⟩
              case measure => simp [intOf]; omega
            · have him : i = m := by omega
              subst him
              have hsum := kdSum_ok hd
              rw [HD.out] at hsum
              obtain ⟨Z, hZ⟩ : ∃ Z, kdSum D i i = Z := ⟨_, rfl⟩
              rw [hZ] at hsum ⊢
              have hfin : ((1 : Int) + (Z : Int) == (i : Int)) = true := by rw [beq_iff_eq]; omega
              clear hZ
              go_wp2
              go_ret
              exact ⟨rfl, B1.out.trans (BR.out.mono B1.out.size)⟩
        · subst e
          clear hal
          cases tk
          · skip
            go_wp2_with fail
            refine CO.out.mono ?_
            rintro e w7 ⟨rfl, hb7⟩
            have B7 := hide (BQ.out.trans (hb7.mono BQ.out.size))
            clear hb7
            go_wp2
            go_loopw [12, 13] (fun mv iv wr => ∃ i : Nat, i ≤ m ∧ mv = .int .i64 (1 + (kdSum D m i : Nat)) ∧ iv = .int .i64 i ∧ Below w1.heap.size w1 wr) (fun _ iv _ => m - (intOf iv).toNat)
            case atStart => exact ⟨0, Nat.zero_le _, rfl, rfl, B7.out⟩
            case round =>
              obtain ⟨i, hi, rfl, rfl, hbr⟩ := hrel
              have BR := hide hbr
              clear hbr B7
              by_cases hil : i < m
              · have CI := hide (KI.out i _ BR)
                have hv9 : kidsV D i = kd D i m := by rw [kidsV_at hd (by rw [HD.out]; exact hil), HD.out]
                unfold KidsAns at CI
                rw [hv9] at CI
                have hs1 := kdSum_le D m i
                have hs2 := kd_len D i m
                have HSU : Hid (kdSum D m (i + 1) = kdSum D m i + (kd D i m).length) := hide rfl
                obtain ⟨L, hL⟩ : ∃ L, (kd D i m).length = L := ⟨_, rfl⟩
                obtain ⟨Z, hZ⟩ : ∃ Z, kdSum D m i = Z := ⟨_, rfl⟩
                rw [hL] at CI hs2
                rw [hL, hZ] at HSU
                rw [hZ] at hs1 ⊢
                have hz9 : Z ≤ 40 * 40 := Nat.le_trans hs1 (Nat.mul_le_mul hm2 (by omega))
                have hiI : (i : Int) < (m : Int) := by omega
                clear hL hZ hs1 hv9
                go_wp2_with fail
                refine CI.out.mono ?_
                rintro e w8 ⟨ja, jc, rfl, -, hb8⟩
                have B8 := hide (BR.out.trans (hb8.mono BR.out.size))
                clear hb8
                go_wp2
                go_roundw
                case rel => exact ⟨i + 1, by omega, by rw [HSU.out]; go_num, by go_num, B8.out⟩
                case measure => simp [intOf]; omega
              · have him : i = m := by omega
                subst him
                have hsum := kdSum_ok hd
                rw [HD.out] at hsum
                obtain ⟨Z, hZ⟩ : ∃ Z, kdSum D i i = Z := ⟨_, rfl⟩
                rw [hZ] at hsum ⊢
                have hfin : ((1 : Int) + (Z : Int) == (i : Int)) = true := by rw [beq_iff_eq]; omega
                clear hZ
                go_wp2
                go_ret
                exact ⟨rfl, B1.out.trans (BR.out.mono B1.out.size)⟩
          · skip
            go_wp2_with fail
            refine CO.out.mono ?_
            rintro e w7 ⟨rfl, hb7⟩
            have B7 := hide (BQ.out.trans (hb7.mono BQ.out.size))
            clear hb7
            go_wp2
            go_loopw [12, 13] (fun mv iv wr => ∃ i : Nat, i ≤ m ∧ mv = .int .i64 (1 + (kdSum D m i : Nat)) ∧ iv = .int .i64 i ∧ Below w1.heap.size w1 wr) (fun _ iv _ => m - (intOf iv).toNat)
            case atStart => exact ⟨0, Nat.zero_le _, rfl, rfl, B7.out⟩
            case round =>
              obtain ⟨i, hi, rfl, rfl, hbr⟩ := hrel
              have BR := hide hbr
              clear hbr B7
              by_cases hil : i < m
              · have CI := hide (KI.out i _ BR)
                have hv9 : kidsV D i = kd D i m := by rw [kidsV_at hd (by rw [HD.out]; exact hil), HD.out]
                unfold KidsAns at CI
                rw [hv9] at CI
                have hs1 := kdSum_le D m i
                have hs2 := kd_len D i m
                have HSU : Hid (kdSum D m (i + 1) = kdSum D m i + (kd D i m).length) := hide rfl
                obtain ⟨L, hL⟩ : ∃ L, (kd D i m).length = L := ⟨_, rfl⟩
                obtain ⟨Z, hZ⟩ : ∃ Z, kdSum D m i = Z := ⟨_, rfl⟩
                rw [hL] at CI hs2
                rw [hL, hZ] at HSU
                rw [hZ] at hs1 ⊢
                have hz9 : Z ≤ 40 * 40 := Nat.le_trans hs1 (Nat.mul_le_mul hm2 (by omega))
                have hiI : (i : Int) < (m : Int) := by omega
                clear hL hZ hs1 hv9
                go_wp2_with fail
                refine CI.out.mono ?_
                rintro e w8 ⟨ja, jc, rfl, -, hb8⟩
                have B8 := hide (BR.out.trans (hb8.mono BR.out.size))
                clear hb8
                go_wp2
                go_roundw
                case rel => exact ⟨i + 1, by omega, by rw [HSU.out]; go_num, by go_num, B8.out⟩
                case measure => simp [intOf]; omega
              · have him : i = m := by omega
                subst him
                have hsum := kdSum_ok hd
                rw [HD.out] at hsum
                obtain ⟨Z, hZ⟩ : ∃ Z, kdSum D i i = Z := ⟨_, rfl⟩
                rw [hZ] at hsum ⊢
                have hfin : ((1 : Int) + (Z : Int) == (i : Int)) = true := by rw [beq_iff_eq]; omega
                clear hZ
                go_wp2
                go_ret
                exact ⟨rfl, B1.out.trans (BR.out.mono B1.out.size)⟩
end Go.Proofs.YtogeicckbdfldaaDoor
