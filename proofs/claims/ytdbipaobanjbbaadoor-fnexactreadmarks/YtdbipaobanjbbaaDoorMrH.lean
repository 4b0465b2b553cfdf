/-
  Contract of the program: readMark, at every line.
-/
import Derived.Test.YtdbipaobanjbbaaDoorMrG
import Derived.Test.YtdbipaobanjbbaaDoorMrS
import Derived.Test.YtdbipaobanjbbaaDoorGen
namespace Go.Proofs.YtdbipaobanjbbaaDoor
open Go.RowKit Go.Joins
set_option linter.unusedVariables false
set_option linter.unusedSimpArgs false
theorem ba_arr (s : ByteArray) : (⟨s.data.toList.toArray⟩ : ByteArray) = s := by cases s; simp
theorem arr_list (l : List UInt8) : (⟨l.toArray⟩ : ByteArray).data.toList = l := rfl
theorem arr_size (l : List UInt8) : (⟨l.toArray⟩ : ByteArray).size = l.length := by simp [ByteArray.size]
/-- What is needed of the world. -/
def RmW (w : World) : Prop := Tabs w ∧ Lib.TabIs Tryd.prog w "internal/strconv.uint64pow10" .u64 Lib.pow10Tab ∧ (∃ m, w.cell? ⟨0, 0, none⟩ = some (.int .i64 m)) ∧ ErrV w
theorem rmW_go {w w' : World} (h : RmW w) (hb : Below w.heap.size w w') : RmW w' := by
  obtain ⟨h1, h2, ⟨m, h3⟩, h4⟩ := h
  exact ⟨un_tabs h1 hb, tab_go h2 hb, ⟨m, (hb.cell (World.block_lt_of_cell? _ _ h3)).trans h3⟩, errV_go h4 hb (Nat.le_refl _)⟩
theorem cut_len (c : UInt8) (l : List UInt8) : (cut1 c l).1.length ≤ l.length := by
  cases h : (cut1 c l).2.2 with
  | true => have := congrArg List.length (cut1_yes c l h); simp at this; omega
  | false => rw [cut1_no c l h]; exact Nat.le_refl _
theorem trim_len (l p : List UInt8) : (Lib.trimSuffix l p).length ≤ l.length := by
  unfold Lib.trimSuffix
  split
  · rw [List.length_take]; omega
  · exact Nat.le_refl _
set_option maxRecDepth 100000 in
set_option maxHeartbeats 8000000 in
theorem i_readMark (l : ByteArray) (w : World) (hl : l.size ≤ 1048576) (hW : RmW w) : Calls Tryd.prog 14 #[.string l] w (RdmAns l w) := by
  obtain ⟨t0, hT0⟩ : ∃ t0, Lib.trimSuffix l.data.toList [10] = t0 := ⟨_, rfl⟩
  obtain ⟨x1, hx1⟩ : ∃ x1, cut1 32 t0 = x1 := ⟨_, rfl⟩
  obtain ⟨x2, hx2⟩ : ∃ x2, cut1 32 x1.2.1 = x2 := ⟨_, rfl⟩
  have hl0 : t0.length ≤ l.size := by rw [← hT0, ← bl]; exact trim_len _ _
  have hl1 : x1.1.length ≤ l.size ∧ x1.2.1.length ≤ l.size := by
    rw [← hx1]
    exact ⟨Nat.le_trans (cut_len _ _) hl0, Nat.le_trans (cut1_len _ _) hl0⟩
  have hl2 : x2.1.length ≤ l.size ∧ x2.2.1.length ≤ l.size := by
    rw [← hx2]
    exact ⟨Nat.le_trans (cut_len _ _) hl1.2, Nat.le_trans (cut1_len _ _) hl1.2⟩
  have HQ : Hid (∀ m, okR m = true → lnR m = l.data.toList → x1.1 = ltR m ∧ x2.1 = Lib.itoa m.dc ∧ x2.2.1 = escL true m.vl.data.toList) := hide (fun m h1 h2 => by
    rw [← h2, ln_trim] at hT0
    subst hT0
    rw [bd_cut2] at hx1
    subst hx1
    rw [bd_cut3 h1] at hx2
    subst hx2
    exact ⟨rfl, rfl, rfl⟩)
  have CT := hide (fun W => Tryd.strings_TrimSuffix l ⟨#[10]⟩ W (by omega))
  rw [show (⟨#[10]⟩ : ByteArray).data.toList = [10] from rfl, hT0] at CT
  have C1 : Hid (∀ W, RmW W → Calls Tryd.prog 29 #[.string ⟨t0.toArray⟩, .string ⟨#[32]⟩] W fun e w' => e = .returned (.tuple #[.string ⟨x1.1.toArray⟩, .string ⟨x1.2.1.toArray⟩, .bool x1.2.2]) ∧ ∃ n, w' = W.drewN n) := hide (fun W h => by
    obtain ⟨-, -, ⟨m, h3⟩, -⟩ := h
    exact i_cut ⟨t0.toArray⟩ 32 m W (by rw [arr_size]; omega) h3 x1 hx1)
  have C2 : Hid (∀ W, RmW W → Calls Tryd.prog 29 #[.string ⟨x1.2.1.toArray⟩, .string ⟨#[32]⟩] W fun e w' => e = .returned (.tuple #[.string ⟨x2.1.toArray⟩, .string ⟨x2.2.1.toArray⟩, .bool x2.2.2]) ∧ ∃ n, w' = W.drewN n) := hide (fun W h => by
    obtain ⟨-, -, ⟨m, h3⟩, -⟩ := h
    exact i_cut ⟨x1.2.1.toArray⟩ 32 m W (by rw [arr_size]; omega) h3 x2 hx2)
  have CP := hide (fun W (h : RmW W) => i_parse ⟨x2.1.toArray⟩ W (by rw [arr_size]; omega) h.2.2.2)
  have CU : Hid (∀ W, RmW W → Calls Tryd.prog 32 #[.string ⟨x2.2.1.toArray⟩] W fun e w' => e = .returned (.tuple #[.string (unV ⟨x2.2.1.toArray⟩), .bool (unOk ⟨x2.2.1.toArray⟩)]) ∧ Below W.heap.size W w') := hide (fun W h => by
    obtain ⟨h1, -, ⟨m, h3⟩, -⟩ := h
    exact i_unescape ⟨x2.2.1.toArray⟩ W m (by rw [arr_size]; omega) h1 h3)
  have HUL : Hid ((unV ⟨x2.2.1.toArray⟩).size ≤ l.size) := hide (by have h7 := unV_len ⟨x2.2.1.toArray⟩; have h8 := arr_size x2.2.1; exact Nat.le_trans h7 (by rw [h8]; exact hl2.2))
  have HUO : Hid (∀ m, okR m = true → lnR m = l.data.toList → unOk ⟨x2.2.1.toArray⟩ = true ∧ unV ⟨x2.2.1.toArray⟩ = m.vl) := hide (fun m h1 h2 => by rw [(HQ.out m h1 h2).2.2]; exact bd_un h1)
  have HPO : Hid (∀ m, okR m = true → lnR m = l.data.toList → Lib.parseIntB 64 (⟨x2.1.toArray⟩ : ByteArray).data.toList = .ok m.dc) := hide (fun m h1 h2 => by rw [arr_list, (HQ.out m h1 h2).2.1]; exact parse_itoa (okR_parts h1).1)
  have HLO : Hid (∀ m, okR m = true → lnR m = l.data.toList → decide (0 ≤ Lib.indexByte (⟨x1.1.toArray⟩ : ByteArray).data.toList 103) = m.g ∧ decide (0 ≤ Lib.indexByte (⟨x1.1.toArray⟩ : ByteArray).data.toList 110) = m.nl ∧ decide (0 ≤ Lib.indexByte (⟨x1.1.toArray⟩ : ByteArray).data.toList 100) = m.gv) := hide (fun m h1 h2 => by rw [arr_list, (HQ.out m h1 h2).1]; exact lt_has m)
  obtain ⟨A1, hA1⟩ : ∃ A, (⟨x1.1.toArray⟩ : ByteArray) = A := ⟨_, rfl⟩
  obtain ⟨A2, hA2⟩ : ∃ A, (⟨x1.2.1.toArray⟩ : ByteArray) = A := ⟨_, rfl⟩
  obtain ⟨A3, hA3⟩ : ∃ A, (⟨x2.1.toArray⟩ : ByteArray) = A := ⟨_, rfl⟩
  obtain ⟨A4, hA4⟩ : ∃ A, (⟨x2.2.1.toArray⟩ : ByteArray) = A := ⟨_, rfl⟩
  obtain ⟨A0, hA0⟩ : ∃ A, (⟨t0.toArray⟩ : ByteArray) = A := ⟨_, rfl⟩
  rw [hA1, hA2, hA0] at C1
  rw [hA2, hA3, hA4] at C2
  rw [hA3] at CP HPO
  rw [hA4] at CU HUL HUO
  rw [hA1] at HLO
  rw [hA0] at CT
  obtain ⟨f1, hf1⟩ : ∃ f, x1.2.2 = f := ⟨_, rfl⟩
  obtain ⟨f2, hf2⟩ : ∃ f, x2.2.2 = f := ⟨_, rfl⟩
  rw [hf1] at C1
  rw [hf2] at C2
  have HW := hide hW
  clear hA0 hA1 hA2 hA3 hA4 hf1 hf2 hT0 hx1 hx2 hl0 hl1 hl2 HQ hW
  obtain ⟨UV, hUV⟩ : ∃ U, unV A4 = U := ⟨_, rfl⟩
  obtain ⟨UO, hUO⟩ : ∃ U, unOk A4 = U := ⟨_, rfl⟩
  rw [hUV, hUO] at CU HUO
  rw [hUV] at HUL
  obtain ⟨b0, hb0⟩ : ∃ b, decide (0 ≤ Lib.indexByte A1.data.toList 103) = b := ⟨_, rfl⟩
  obtain ⟨b1, hb1⟩ : ∃ b, decide (0 ≤ Lib.indexByte A1.data.toList 110) = b := ⟨_, rfl⟩
  obtain ⟨b2, hb2⟩ : ∃ b, decide (0 ≤ Lib.indexByte A1.data.toList 100) = b := ⟨_, rfl⟩
  have K0 := hide (fun W => Tryd.strings_Contains_one A1 103 W)
  have K1 := hide (fun W => Tryd.strings_Contains_one A1 110 W)
  have K2 := hide (fun W => Tryd.strings_Contains_one A1 100 W)
  rw [hb0] at K0
  rw [hb1] at K1
  rw [hb2] at K2
  rw [hb0, hb1, hb2] at HLO
  clear hUV hUO hb0 hb1 hb2
  go_enter Tryd.func14, Tryd.ntmps14
  go_wp2_with fail
  refine (CT.out _).mono ?_
  rintro e w9 ⟨rfl, h9⟩
  rw [h9]
  clear h9 w9
  have sx := (Below.refl w.heap.size w).alloc (Nat.le_refl _) (.cells #[.bool false, .int .i64 0, .string ⟨#[]⟩, .bool false, .bool false] 29)
  have HW1 := hide (rmW_go HW.out sx)
  have HB1 := hide sx
  have HC1 := hide (cellsAt_new w #[.bool false, .int .i64 0, .string ⟨#[]⟩, .bool false, .bool false] 29)
  clear sx
  obtain ⟨W1, hW1⟩ : ∃ W1, w.alloc (.cells #[.bool false, .int .i64 0, .string ⟨#[]⟩, .bool false, .bool false] 29) = W1 := ⟨_, rfl⟩
  rw [hW1] at HW1 HB1 HC1 ⊢
  clear hW1
  go_wp2_with fail
  refine (C1.out _ HW1.out).mono ?_
  rintro e w2 ⟨rfl, n2, h9⟩
  rw [h9]
  have HB2 : Hid (Below W1.heap.size W1 (W1.drewN n2)) := hide ⟨rfl, rfl, rfl, Nat.le_refl _, fun _ _ => rfl⟩
  have HW2 := hide (rmW_go HW1.out HB2.out)
  clear h9 w2
  go_wp2_with fail
  refine (C2.out _ HW2.out).mono ?_
  rintro e w3 ⟨rfl, n3, h9⟩
  rw [h9]
  have HB3 : Hid (Below W1.heap.size W1 (W1.drewN (n2 + n3))) := hide ⟨rfl, rfl, rfl, Nat.le_refl _, fun _ _ => rfl⟩
  have HW3 := hide (rmW_go HW1.out HB3.out)
  clear h9 w3
  go_wp2_with fail
  refine (CP.out _ HW3.out).mono ?_
  rintro e w4 ⟨hb4, hP⟩
  have HB4 := hide (HB3.out.trans hb4)
  have HW4 := hide (rmW_go HW1.out HB4.out)
  have HC4 := hide (cellsAt_go HC1.out HB4.out (cellsAt_lt HC1.out))
  clear hb4
  rcases hP with ⟨v, hv, rfl⟩ | ⟨v, tt, pp, hv, rfl⟩
  · have HV := hide hv
    clear hv
    go_wp2_with fail
    refine (CU.out _ HW4.out).mono ?_
    rintro e w5 ⟨rfl, hb5⟩
    have HB5 := hide (HB4.out.trans (hb5.mono HB4.out.size))
    have HBW := hide (HB1.out.trans (HB5.out.mono HB1.out.size))
    have HW5 := hide (rmW_go HW1.out HB5.out)
    have HC5 := hide (cellsAt_go HC1.out HB5.out (cellsAt_lt HC1.out))
    have hlt5 := cellsAt_lt HC5.out
    have c0 := cellsAt_cell HC5.out 0
    have c1 := cellsAt_cell HC5.out 1
    have c2 := cellsAt_cell HC5.out 2
    have c3 := cellsAt_cell HC5.out 3
    have c4 := cellsAt_cell HC5.out 4
    have hf := cellsAt_frozen HC5.out
    simp at c0 c1 c2 c3 c4
    clear hb5
    cases UO
    · have HNO : Hid (¬ ∃ m, okR m = true ∧ lnR m = l.data.toList) := hide (fun ⟨m, h1, h2⟩ => by have := (HUO.out m h1 h2).1; cases this)
      go_wp2
      exact bodyPost_ret (v := .tuple #[.agg #[.bool false, .int .i64 0, .string ⟨#[]⟩, .bool false, .bool false], .bool false]) (by simp [results, Tryd.results14, go_sem, c0, c1, c2, c3, c4]) rfl (rdm_no (HBW.out.setCell (p := ⟨w.heap.size, 0, none⟩) (Nat.le_refl _) _ |>.setCell (p := ⟨w.heap.size, 1, none⟩) (Nat.le_refl _) _ |>.setCell (p := ⟨w.heap.size, 2, none⟩) (Nat.le_refl _) _ |>.setCell (p := ⟨w.heap.size, 3, none⟩) (Nat.le_refl _) _ |>.setCell (p := ⟨w.heap.size, 4, none⟩) (Nat.le_refl _) _) HNO.out)
    · have HME : Hid (∀ m, okR m = true → lnR m = l.data.toList → (⟨b0, v, UV, b1, b2⟩ : Mr) = m) := hide (fun m h1 h2 => by
        have h3 := HPO.out m h1 h2
        rw [HV.out] at h3
        cases h3
        obtain ⟨e0, e1, e2⟩ := HLO.out m h1 h2
        have e3 := (HUO.out m h1 h2).2
        rw [e0, e1, e2, e3])
      go_wp2_with (first | (go_at_call 33; refine (K0.out _).mono ?_; rintro e w9 ⟨rfl, h9⟩; rw [h9]; clear h9 w9 K0) | (go_at_call 33; refine (K1.out _).mono ?_; rintro e w9 ⟨rfl, h9⟩; rw [h9]; clear h9 w9 K1) | (go_at_call 33; refine (K2.out _).mono ?_; rintro e w9 ⟨rfl, h9⟩; rw [h9]; clear h9 w9 K2) | fail)
      have sy := (Below.refl w5.heap.size w5).alloc (Nat.le_refl _) (.cells #[.bool b0, .int .i64 v, .string UV, .bool b1, .bool b2] 29)
      have HW6 := hide (rmW_go HW5.out sy)
      refine (i_markLine b0 v UV b1 b2 _ (Nat.le_trans HUL.out hl) HW6.out.1 HW6.out.2.1).mono ?_
      rintro e w7 ⟨rfl, hb7⟩
      have HE7 := hide (cellsAt_go (cellsAt_new w5 #[.bool b0, .int .i64 v, .string UV, .bool b1, .bool b2] 29) hb7 (by simp))
      have HB57 := hide (sy.trans (hb7.mono sy.size))
      have HC7 := hide (cellsAt_go HC5.out HB57.out hlt5)
      have HBW7 := hide (HBW.out.trans (HB57.out.mono HBW.out.size))
      have hlt7 := cellsAt_lt HC7.out
      have hlt8 := cellsAt_lt HE7.out
      have d0 := cellsAt_cell HC7.out 0
      have d1 := cellsAt_cell HC7.out 1
      have d2 := cellsAt_cell HC7.out 2
      have d3 := cellsAt_cell HC7.out 3
      have d4 := cellsAt_cell HC7.out 4
      have hfd := cellsAt_frozen HC7.out
      have e0 := cellsAt_cell HE7.out 0
      have e1 := cellsAt_cell HE7.out 1
      have e2 := cellsAt_cell HE7.out 2
      have e3 := cellsAt_cell HE7.out 3
      have e4 := cellsAt_cell HE7.out 4
      simp at d0 d1 d2 d3 d4 e0 e1 e2 e3 e4
      clear hb7 sy c0 c1 c2 c3 c4 hf
      have HLV : Hid (mkB v UV = true → lnV b0 v UV b1 b2 = ⟨(lnR ⟨b0, v, UV, b1, b2⟩).toArray⟩) := hide (fun h => by unfold lnV; rw [if_pos h]; rfl)
      have HOK : Hid (okR ⟨b0, v, UV, b1, b2⟩ = mkB v UV) := hide rfl
      obtain ⟨XV, hXV⟩ : ∃ X, lnV b0 v UV b1 b2 = X := ⟨_, rfl⟩
      obtain ⟨ob, hob⟩ : ∃ o, mkB v UV = o := ⟨_, rfl⟩
      rw [hXV, hob] at HLV ⊢
      rw [hob] at HOK
      clear hXV hob
      have hne59 : w5.heap.size ≠ w.heap.size := by omega
      cases ob
      · have HNO : Hid (¬ ∃ m, okR m = true ∧ lnR m = l.data.toList) := hide (fun ⟨m, h1, h2⟩ => by
          rw [← HME.out m h1 h2, HOK.out] at h1
          cases h1)
        clear HLV HOK
        go_wp2
        exact bodyPost_ret (v := .tuple #[.agg #[.bool false, .int .i64 0, .string ⟨#[]⟩, .bool false, .bool false], .bool false]) (by simp [results, Tryd.results14, go_sem, d0, d1, d2, d3, d4]) rfl (rdm_no (HBW7.out.setCell (p := ⟨w.heap.size, 0, none⟩) (Nat.le_refl _) _ |>.setCell (p := ⟨w.heap.size, 1, none⟩) (Nat.le_refl _) _ |>.setCell (p := ⟨w.heap.size, 2, none⟩) (Nat.le_refl _) _ |>.setCell (p := ⟨w.heap.size, 3, none⟩) (Nat.le_refl _) _ |>.setCell (p := ⟨w.heap.size, 4, none⟩) (Nat.le_refl _) _) HNO.out)
      · by_cases hxl : XV = l
        · subst hxl
          have HLN := hide (HLV.out rfl)
          clear HLV
          go_wp2
          refine bodyPost_ret (v := .tuple #[.agg #[.bool b0, .int .i64 v, .string UV, .bool b1, .bool b2], .bool true]) (by simp [results, Tryd.results14, go_sem, d0, d1, d2, d3, d4, e0, e1, e2, e3, e4, hne59]) rfl ⟨(HBW7.out.setCell (p := ⟨w.heap.size, 0, none⟩) (Nat.le_refl _) _ |>.setCell (p := ⟨w.heap.size, 1, none⟩) (Nat.le_refl _) _ |>.setCell (p := ⟨w.heap.size, 2, none⟩) (Nat.le_refl _) _ |>.setCell (p := ⟨w.heap.size, 3, none⟩) (Nat.le_refl _) _ |>.setCell (p := ⟨w.heap.size, 4, none⟩) (Nat.le_refl _) _), ⟨b0, v, UV, b1, b2⟩, true, rfl, fun _ => ⟨HOK.out, by rw [HLN.out], HUL.out⟩, fun h => (by cases h)⟩
        · have hvb : (XV.toList == l.toList) = false := mr_neB hxl
          have hvc : ¬ XV.toList = l.toList := mr_neL hxl
          have HNO : Hid (¬ ∃ m, okR m = true ∧ lnR m = l.data.toList) := hide (fun ⟨m, h1, h2⟩ => by
            rw [← HME.out m h1 h2] at h2
            apply hxl
            rw [HLV.out rfl, h2])
          clear HLV HOK hxl
          go_wp2
          exact bodyPost_ret (v := .tuple #[.agg #[.bool false, .int .i64 0, .string ⟨#[]⟩, .bool false, .bool false], .bool false]) (by simp [results, Tryd.results14, go_sem, d0, d1, d2, d3, d4]) rfl (rdm_no (HBW7.out.setCell (p := ⟨w.heap.size, 0, none⟩) (Nat.le_refl _) _ |>.setCell (p := ⟨w.heap.size, 1, none⟩) (Nat.le_refl _) _ |>.setCell (p := ⟨w.heap.size, 2, none⟩) (Nat.le_refl _) _ |>.setCell (p := ⟨w.heap.size, 3, none⟩) (Nat.le_refl _) _ |>.setCell (p := ⟨w.heap.size, 4, none⟩) (Nat.le_refl _) _) HNO.out)
  · have HNO : Hid (¬ ∃ m, okR m = true ∧ lnR m = l.data.toList) := hide (fun ⟨m, h1, h2⟩ => hv _ (HPO.out m h1 h2))
    clear hv
    go_wp2_with fail
    refine (CU.out _ HW4.out).mono ?_
    rintro e w5 ⟨rfl, hb5⟩
    have HB5 := hide (HB4.out.trans (hb5.mono HB4.out.size))
    have HBW := hide (HB1.out.trans (HB5.out.mono HB1.out.size))
    have HC5 := hide (cellsAt_go HC1.out HB5.out (cellsAt_lt HC1.out))
    have hlt5 := cellsAt_lt HC5.out
    have c0 := cellsAt_cell HC5.out 0
    have c1 := cellsAt_cell HC5.out 1
    have c2 := cellsAt_cell HC5.out 2
    have c3 := cellsAt_cell HC5.out 3
    have c4 := cellsAt_cell HC5.out 4
    have hf := cellsAt_frozen HC5.out
    simp at c0 c1 c2 c3 c4
    clear hb5
    go_wp2
    exact bodyPost_ret (v := .tuple #[.agg #[.bool false, .int .i64 0, .string ⟨#[]⟩, .bool false, .bool false], .bool false]) (by simp [results, Tryd.results14, go_sem, c0, c1, c2, c3, c4]) rfl (rdm_no (HBW.out.setCell (p := ⟨w.heap.size, 0, none⟩) (Nat.le_refl _) _ |>.setCell (p := ⟨w.heap.size, 1, none⟩) (Nat.le_refl _) _ |>.setCell (p := ⟨w.heap.size, 2, none⟩) (Nat.le_refl _) _ |>.setCell (p := ⟨w.heap.size, 3, none⟩) (Nat.le_refl _) _ |>.setCell (p := ⟨w.heap.size, 4, none⟩) (Nat.le_refl _) _) HNO.out)
end Go.Proofs.YtdbipaobanjbbaaDoor
