/-
  Contract: the specification's TimesDec.
-/
import Derived.Test.YtdglamiifcagoacDoorTimesD
import Derived.Test.YtdglamiifcagoacDoorCellI
import Derived.Laws.Cover1
import Derived.Deep.RegionWith
namespace Go.Proofs.YtdglamiifcagoacDoor
open Go.RowKit
set_option linter.unusedSimpArgs false
set_option linter.unusedVariables false
set_option maxHeartbeats 2000000 in
theorem s_times (n m : Bool) (s t : ByteArray) (c d : Int) (w : World) (hs : s.size ≤ maxLen) (ht : t.size ≤ maxLen) :
    Calls Tryd.prog 7 #[.agg #[.bool n, .string s, .int .i64 c], .agg #[.bool m, .string t, .int .i64 d]] w fun e w' =>
      e = .returned (resV (timesB n s c m t d)) ∧ Below w.heap.size w w' := by
  cases h1 : decB n s c
  · have HV := hide (timesB_no1 m t d h1)
    go_enter Tryd.func7, Tryd.ntmps7
    go_wp2_with fail
    refine (s_decok n s c _ hs).mono ?_
    rintro e w1 ⟨rfl, hb1⟩
    have HI := hide (addin_go (addin_new w n s c m t d _) hb1)
    clear hb1
    obtain ⟨⟨a1, a2, a3⟩, _, _, _⟩ := heldN_cells HI.out.1
    obtain ⟨⟨b1, b2, b3⟩, _, _, _⟩ := heldN_cells HI.out.2.1
    obtain ⟨⟨r1, r2, r3⟩, g1, g2, g3⟩ := heldN_cells HI.out.2.2.1
    have HZ := hide (heldN_three HI.out.2.2.1 (.bool false) (.string ⟨#[]⟩) (.int .i64 0))
    go_wp2
    obtain ⟨z0, z1, z2⟩ := HZ.out
    exact bodyPost_ret (v := .tuple #[.agg #[.bool false, .string ⟨#[]⟩, .int .i64 0], .bool false]) (by simp [results, Tryd.results7, go_sem, z0, z1, z2]) rfl ⟨by rw [HV.out]; rfl, below_set3 HI.out.2.2.2 (by omega) _ _ _⟩
  · cases h2 : decB m t d
    · have HV := hide (timesB_no2 n s c h2)
      go_enter Tryd.func7, Tryd.ntmps7
      go_wp2_with fail
      refine (s_decok n s c _ hs).mono ?_
      rintro e w1 ⟨rfl, hb1⟩
      have HI := hide (addin_go (addin_new w n s c m t d _) hb1)
      clear hb1
      obtain ⟨⟨a1, a2, a3⟩, _, _, _⟩ := heldN_cells HI.out.1
      obtain ⟨⟨b1, b2, b3⟩, _, _, _⟩ := heldN_cells HI.out.2.1
      obtain ⟨⟨r1, r2, r3⟩, g1, g2, g3⟩ := heldN_cells HI.out.2.2.1
      go_wp2_with fail
      refine (s_decok m t d _ ht).mono ?_
      rintro e w2 ⟨rfl, hb2⟩
      replace HI := hide (addin_go HI.out hb2)
      clear hb2 a1 a2 a3 b1 b2 b3 r1 r2 r3 g1 g2 g3
      obtain ⟨⟨a1, a2, a3⟩, _, _, _⟩ := heldN_cells HI.out.1
      obtain ⟨⟨b1, b2, b3⟩, _, _, _⟩ := heldN_cells HI.out.2.1
      obtain ⟨⟨r1, r2, r3⟩, g1, g2, g3⟩ := heldN_cells HI.out.2.2.1
      have HZ := hide (heldN_three HI.out.2.2.1 (.bool false) (.string ⟨#[]⟩) (.int .i64 0))
      go_wp2
      obtain ⟨z0, z1, z2⟩ := HZ.out
      exact bodyPost_ret (v := .tuple #[.agg #[.bool false, .string ⟨#[]⟩, .int .i64 0], .bool false]) (by simp [results, Tryd.results7, go_sem, z0, z1, z2]) rfl ⟨by rw [HV.out]; rfl, below_set3 HI.out.2.2.2 (by omega) _ _ _⟩
    · have HV := hide (timesB_yes h1 h2)
      obtain ⟨hs6, hc0, hc1⟩ := decB_bounds h1
      obtain ⟨ht6, hd0, hd1⟩ := decB_bounds h2
      have H1 := hide h1
      have H2 := hide h2
      go_enter Tryd.func7, Tryd.ntmps7
      go_wp2_with fail
      refine (s_decok n s c _ hs).mono ?_
      rintro e w1 ⟨rfl, hb1⟩
      have HI := hide (addin_go (addin_new w n s c m t d _) hb1)
      clear hb1
      obtain ⟨⟨a1, a2, a3⟩, _, _, _⟩ := heldN_cells HI.out.1
      obtain ⟨⟨b1, b2, b3⟩, _, _, _⟩ := heldN_cells HI.out.2.1
      obtain ⟨⟨r1, r2, r3⟩, g1, g2, g3⟩ := heldN_cells HI.out.2.2.1
      go_wp2_with fail
      refine (s_decok m t d _ ht).mono ?_
      rintro e w2 ⟨rfl, hb2⟩
      replace HI := hide (addin_go HI.out hb2)
      clear hb2 a1 a2 a3 b1 b2 b3 r1 r2 r3 g1 g2 g3
      obtain ⟨⟨a1, a2, a3⟩, _, _, _⟩ := heldN_cells HI.out.1
      obtain ⟨⟨b1, b2, b3⟩, _, _, _⟩ := heldN_cells HI.out.2.1
      obtain ⟨⟨r1, r2, r3⟩, g1, g2, g3⟩ := heldN_cells HI.out.2.2.1
      have hmk := run_make_row' (P := Tryd.prog) 36 3 (.int .i64 0) 8 Tryd.underlying36 info64 rfl .i64 .i64 (s.size + t.size + 1) (by omega) (by omega)
      have hnw : IntKind.i64.wrap ((s.size : Int) + (t.size : Int)) = (s.size : Int) + (t.size : Int) := by rw [IntKind.wrap_i64]; omega
      have hnw1 : IntKind.i64.wrap ((s.size : Int) + (t.size : Int) + 1) = (s.size : Int) + (t.size : Int) + 1 := by rw [IntKind.wrap_i64]; omega
      have HST0 := hide (ts_new HI.out (s.size + t.size + 1))
      push_cast at hmk
      go_wp2
      clear h1 h2 hmk hnw hnw1 a1 a2 a3 b1 b2 b3 r1 r2 r3 g1 g2 g3
      have HD1 := hide (decB_digits H1.out)
      have HD2 := hide (decB_digits H2.out)
      go_loopw [7] (fun vi wr => ∃ (i : Nat) (L : List Int), vi = .int .i64 i ∧ i ≤ s.size ∧ Hid (L.length = s.size + t.size + 1) ∧ Hid (cellOK L (81 * (60 * i))) ∧ Hid (bigV L = (valL (s.data.toList.take i) : Int) * 10 ^ (s.data.toList.length - i) * valL t.data.toList) ∧ Hid (TsSt w wr w2.heap.size n s c m t d L)) (fun vi _ => s.size - (intOf vi).toNat)
      case atStart => exact ⟨0, _, rfl, Nat.zero_le _, hide (by simp), hide (cell_zero _ _ (by omega)), hide (by rw [bigV_zeros]; simp [valL]), HST0⟩
      case round =>
        clear HST0
        obtain ⟨i, L, rfl, hi, HL, HC, HV2, HST⟩ := hrel
        obtain ⟨⟨a1, a2, a3⟩, _, _, _⟩ := heldN_cells HST.out.1.1
        by_cases hlt : i < s.size
        · obtain ⟨wo, rfl⟩ : ∃ wo : World, wo = wr := ⟨_, rfl⟩
          go_wp2
          have hv := digsB_at s HD1.out i hlt
          simp only [digitB, decide_eq_true_eq] at hv
          obtain ⟨hx0, hx9⟩ := hv
          obtain ⟨x, hx⟩ : ∃ x : Nat, s[i].toNat = x := ⟨_, rfl⟩
          rw [hx] at hx0 hx9
          go_loopw [8] (fun vk wr2 => ∃ (k : Nat) (L2 : List Int), vk = .int .i64 k ∧ k ≤ t.size ∧ Hid (L2.length = s.size + t.size + 1) ∧ Hid (cellOK L2 (81 * (60 * i + k))) ∧ Hid (bigV L2 = (valL (s.data.toList.take i) : Int) * 10 ^ (s.data.toList.length - i) * valL t.data.toList + ((x : Int) - 48) * 10 ^ (s.data.toList.length - 1 - i) * ((valL (t.data.toList.take k) : Int) * 10 ^ (t.data.toList.length - k))) ∧ Hid (TsSt w wr2 w2.heap.size n s c m t d L2)) (fun vk _ => t.size - (intOf vk).toNat)
          case atStart => exact ⟨0, L, rfl, Nat.zero_le _, HL, hide (by simpa using HC.out), hide (by rw [HV2.out]; simp [valL]), HST⟩
          case round =>
            clear a1 a2 a3
            obtain ⟨k, L2, rfl, hk, HL2, HC2, HV3, HST2⟩ := hrel
            obtain ⟨⟨a1, a2, a3⟩, _, _, _⟩ := heldN_cells HST2.out.1.1
            obtain ⟨⟨b1, b2, b3⟩, _, _, _⟩ := heldN_cells HST2.out.1.2.1
            by_cases hlt2 : k < t.size
            · have hv := digsB_at t HD2.out k hlt2
              simp only [digitB, decide_eq_true_eq] at hv
              obtain ⟨hy0, hy9⟩ := hv
              obtain ⟨y, hy⟩ : ∃ y : Nat, t[k].toNat = y := ⟨_, rfl⟩
              rw [hy] at hy0 hy9
              have hidx : i + k + 2 < L2.length := by rw [HL2.out]; omega
              obtain ⟨hc2, hf2⟩ := ts_cell HST2.out (i + k + 2) hidx
              have hgb := cell_at HC2.out (i + k + 2) hidx
              obtain ⟨g, hg⟩ : ∃ g, L2[i + k + 2]?.getD 0 = g := ⟨_, rfl⟩
              rw [hg] at hgb hc2
              obtain ⟨hg0, hg9⟩ := hgb
              obtain ⟨hm0, hm81⟩ := mul_le81 (x := (x : Int) - 48) (y := (y : Int) - 48) (by omega) (by omega) (by omega) (by omega)
              have HG := hide hg
              have hijt : ((i : Int) + (k : Int) + 2).toNat = i + k + 2 := by omega
              have hij0 : (0 : Int) ≤ (i : Int) + (k : Int) + 2 := by omega
              have hij1 : (i : Int) + (k : Int) + 2 < (s.size : Int) + (t.size : Int) + 1 := by omega
              have hw1 : IntKind.i64.wrap ((i : Int) + (k : Int)) = (i : Int) + (k : Int) := by rw [IntKind.wrap_i64]; omega
              have hw2 : IntKind.i64.wrap ((i : Int) + (k : Int) + 2) = (i : Int) + (k : Int) + 2 := by rw [IntKind.wrap_i64]; omega
              have hw3 : IntKind.i64.wrap (((x : Int) - 48) * ((y : Int) - 48)) = ((x : Int) - 48) * ((y : Int) - 48) := by rw [IntKind.wrap_i64]; omega
              have hw4 : IntKind.i64.wrap (g + ((x : Int) - 48) * ((y : Int) - 48)) = g + ((x : Int) - 48) * ((y : Int) - 48) := by rw [IntKind.wrap_i64]; omega
              clear hg
              go_wp2
              have hyd := dgt_at t k y hlt2 hy (by omega)
              have HSTEP := hide (cells_step L2 _ s.data.toList t.data.toList i k (by simpa using hlt) (by simpa using hlt2) (by rw [HL2.out]; simp) ((x : Int) - 48) g HG.out HV3.out)
              rw [hyd] at HSTEP
              have HOK2 := hide (cell_set (b2 := 81 * (60 * (i : Int) + ((k + 1 : Nat) : Int))) (k := i + k + 2) HC2.out (by push_cast; omega) (show 0 ≤ g + ((x : Int) - 48) * ((y : Int) - 48) by omega) (by push_cast; omega))
              clear hyd
              go_region
              go_wp2
              go_roundw
              case rel => exact ⟨k + 1, _, by go_num, by omega, hide (by rw [List.length_set]; exact HL2.out), HOK2, HSTEP, hide (ts_drew (ts_set HST2.out _ _))⟩
              case measure => simp [intOf]; omega
            · have hkt : k = t.size := by omega
              subst hkt
              have hxd := dgt_at s i x hlt hx (by omega)
              have hrow := HV3.out
              rw [← hxd] at hrow
              have HROW := hide (cells_row L2 s.data.toList t.data.toList i (by simpa using hlt) (by simpa using hrow))
              clear hxd hrow
              go_wp2
              go_roundw
              case rel => exact ⟨i + 1, L2, by go_num, by omega, HL2, hide (fun z hz => by have := HC2.out z hz; push_cast; omega), HROW, HST2⟩
              case measure => simp [intOf]; omega
        · have hit : i = s.size := by omega
          subst hit
          have hval := HV2.out
          rw [show List.take s.size s.data.toList = s.data.toList from List.take_of_length_le (by simp), show s.data.toList.length - s.size = 0 by simp, Int.pow_zero, Int.mul_one] at hval
          have HVAL := hide hval
          clear hval
          have hmk := run_make_row' (P := Tryd.prog) 22 5 (.int .u8 0) 1 Tryd.underlying22 info8 rfl .i64 .i64 (s.size + t.size + 1) (by omega) (by omega)
          push_cast at hmk
          have HOU := hide (ou_new HST.out (s.size + t.size + 1))
          obtain ⟨w5, rfl⟩ : ∃ w5 : World, w5 = wr := ⟨_, rfl⟩
          go_wp2
          clear hmk
          go_loopw [11, 12] (fun vc vi wr => ∃ (j : Nat) (k9 : Int) (U : List Int), vc = .int .i64 k9 ∧ vi = .int .i64 ((j : Int) - 1) ∧ j ≤ s.size + t.size + 1 ∧ 0 ≤ k9 ∧ k9 ≤ 40000 ∧ Hid (U.length = s.size + t.size + 1) ∧ Hid (rowOK ((dgs U).drop j)) ∧ Hid (bigV (L.drop j) = bigV ((dgs U).drop j) + k9 * 10 ^ (L.length - j)) ∧ Hid (OuSt w wr w2.heap.size w5.heap.size n s c m t d L U)) (fun _ vi _ => (intOf vi + 1).toNat)
          case atStart => exact ⟨s.size + t.size + 1, 0, _, rfl, by push_cast; simp, Nat.le_refl _, by omega, by omega, hide (by simp), hide (by rw [List.drop_of_length_le (by simp [dgs])]; intro x hx; cases hx), hide (by rw [List.drop_of_length_le (by rw [HL.out]; exact Nat.le_refl _), List.drop_of_length_le (by simp [dgs])]; simp [bigV]), HOU⟩
          case round =>
            clear HOU
            obtain ⟨j, k9, U, rfl, rfl, hj, hk0, hk9, HUL, HUO, HUV, HOU⟩ := hrel
            rcases j with _ | p
            · have hm1 : ((0 : Nat) : Int) - 1 = -1 := rfl
              rw [hm1]
              have hz := HUV.out
              rw [List.drop_zero, List.drop_zero, Nat.sub_zero] at hz
              have ho := HUO.out
              rw [List.drop_zero] at ho
              have hbl : bigV L < 10 ^ L.length := by
                rw [HVAL.out, HL.out]
                have l1 := valL_lt s.data.toList (cell_dg HD1.out)
                have l2 := valL_lt t.data.toList (cell_dg HD2.out)
                exact prod_lt (by simpa using l1) (by simpa using l2)
              have hbv := carry_end L (dgs U) k9 hk0 ho hbl hz
              obtain ⟨tv, td⟩ := big_txt (dgs U) ho
              have eU : (dgs U).map (fun x => UInt8.ofNat (48 + x).toNat) = (strOfNums U).data.toList := by
                rw [strOfNums_data]
                conv => rhs; rw [← dgs_back U]
                rw [List.map_map]; rfl
              rw [eU] at tv td
              have hvv : valL (strOfNums U).data.toList = valL s.data.toList * valL t.data.toList := by
                have := tv.trans (hbv.trans HVAL.out)
                exact_mod_cast this
              have hu9 : (strOfNums U).size = s.size + t.size + 1 := by rw [strOfNums_size, HUL.out]
              have HVV := hide hvv
              have HDG := hide td
              clear hz ho hbl hbv tv td eU hvv
              obtain ⟨⟨a1, a2, a3⟩, _⟩ := heldN_cells HOU.out.1.1.1
              obtain ⟨⟨b1, b2, b3⟩, _⟩ := heldN_cells HOU.out.1.1.2.1
              obtain ⟨⟨r1, r2, r3⟩, g1, g2, g3⟩ := heldN_cells HOU.out.1.1.2.2.1
              have hcv := run_convert_bytes_arg (P := Tryd.prog) wr 22 5 Tryd.underlying22 Tryd.underlying5 w5.heap.size 0 (s.size + t.size + 1) (s.size + t.size + 1) U HUL.out (fun i hi => by
                rw [Nat.zero_add, (ou_cell HOU.out i (by rw [HUL.out]; exact hi)).1]; simp [List.getD]) 9 Tryd.underlying9
              obtain ⟨V, hV⟩ : ∃ V, strOfNums U = V := ⟨_, rfl⟩
              rw [hV] at hcv hu9 HVV HDG
              obtain ⟨RR, hRR⟩ : ∃ X, decRes (n != m) (valL s.data.toList * valL t.data.toList) (c + d).toNat = X := ⟨_, rfl⟩
              obtain ⟨n9, s9, c9, o9⟩ := RR
              have ERR := hide hRR
              have hcdw : IntKind.i64.wrap (c + d) = c + d := by rw [IntKind.wrap_i64]; omega
              clear hRR hV
              go_wp2_with fail
              refine (s_norm (n != m) V (c + d) _ (by omega) HDG.out (by omega) (by omega)).mono ?_
              rintro e w6 ⟨rfl, hb6⟩
              rw [HVV.out, ERR.out]
              have HI6 := hide (addin_go HOU.out.1.1 hb6)
              clear hb6 a1 a2 a3 b1 b2 b3 r1 r2 r3 g1 g2 g3
              obtain ⟨⟨r1, r2, r3⟩, g1, g2, g3⟩ := heldN_cells HI6.out.2.2.1
              have HZ := hide (heldN_three HI6.out.2.2.1 (.bool n9) (.string s9) (.int .i64 c9))
              simp only [resV]
              go_wp2
              obtain ⟨z0, z1, z2⟩ := HZ.out
              exact bodyPost_ret (v := .tuple #[.agg #[.bool n9, .string s9, .int .i64 c9], .bool o9]) (by simp [results, Tryd.results7, go_sem, z0, z1, z2]) rfl ⟨by rw [HV.out, ERR.out]; rfl, below_set3 HI6.out.2.2.2 (by omega) _ _ _⟩
            · have hp : ((p + 1 : Nat) : Int) - 1 = (p : Int) := by omega
              rw [hp]
              have hpl : p < L.length := by rw [HL.out]; omega
              have hpu : p < U.length := by rw [HUL.out]; omega
              obtain ⟨hc1, _⟩ := ts_cell HOU.out.1 p hpl
              obtain ⟨hc2, hf2⟩ := ou_cell HOU.out p hpu
              obtain ⟨hg0, hg9⟩ := cell_at HC.out p hpl
              obtain ⟨g, hg⟩ : ∃ g, L[p]?.getD 0 = g := ⟨_, rfl⟩
              rw [hg] at hc1 hg0 hg9
              obtain ⟨nn, hnn⟩ : ∃ nn, g + k9 = nn := ⟨_, rfl⟩
              have hn0 : 0 ≤ nn := by omega
              have hn1 : nn ≤ 400000 := by omega
              have hnw : IntKind.i64.wrap (g + k9) = nn := by rw [IntKind.wrap_i64]; omega
              have HS := hide (carry_step L (dgs U) p k9 (nn / 10) (nn % 10) hpl (by simp [dgs, HUL.out, HL.out]) (by rw [hg, hnn]; omega) HUV.out)
              have HO2 := hide (ok_drop (D := dgs U) (i := p) (r := nn % 10) (by simpa [dgs] using hpu) HUO.out (by omega) (by omega))
              rw [← dgs_set] at HS HO2
              go_wp2
              go_roundw
              case rel => exact ⟨p, nn / 10, U.set p (48 + nn % 10), rfl, rfl, by omega, by omega, by omega, hide (by rw [List.length_set]; exact HUL.out), HO2, HS, hide (ou_set HOU.out _ _)⟩
              case measure => simp [intOf]
end Go.Proofs.YtdglamiifcagoacDoor
