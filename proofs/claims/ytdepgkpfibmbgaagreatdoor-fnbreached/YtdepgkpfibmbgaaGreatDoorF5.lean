/-
  Contract: the names of a path, by the specification.
-/
import Derived.Test.YtdepgkpfibmbgaaGreatDoorF3
import Derived.Test.YtdepgkpfibmbgaaGreatDoorF1
import Derived.RegionTactic
import Derived.KernelRfl
namespace Go.Proofs.YtdepgkpfibmbgaaGreatDoor
open Go.RowKit
set_option linter.unusedVariables false
set_option linter.unusedSimpArgs false
theorem infoStr : (Tryz.prog.info? 9).map (fun i => (i.zero, i.size, i.bytes)) = some (some (.string ByteArray.empty), 1, 16) := by kernel_rfl
def strV (ps : List (List UInt8)) : List Value := ps.map fun l => Value.string ⟨l.toArray⟩
/-- What the names of a path are told as: the list, in new memory, and two flags. -/
def StepsAns (s : ByteArray) (w : World) (e : Ending) (w' : World) : Prop := Below w.heap.size w w' ∧
  ((allN (restS s).data.toList = true ∧ ∃ ad c, e = .returned (.tuple #[.slice ad (cntN (restS s).data.toList) c, .bool (deepS s), .bool (decide (cntN (restS s).data.toList ≤ 6))]) ∧ w'.ownsRow w.heap.size 9 1 (.slice ad (cntN (restS s).data.toList) c) (cntN (restS s).data.toList) (strV (sg [] (restS s).data.toList))) ∨
   (allN (restS s).data.toList = false ∧ e = .returned (.tuple #[.slice none 0 0, .bool false, .bool false])))
/-- Behind k bytes of the rest: the names so far, and what of the next one was read. -/
def StepsRel (t : ByteArray) (w wr : World) (k : Nat) (C : ByteArray) (m : Nat) (ad : Option Addr) (c : Nat) : Prop :=
  ∃ ps : List (List UInt8), ps.length = m ∧ sg [] t.data.toList = ps ++ tailS t.data.toList C.data.toList k ∧ ps.all nameL = true ∧ C.size ≤ k ∧ m ≤ k ∧
    wr.ownsRow w.heap.size 9 1 (.slice ad m c) m (strV ps) ∧ Below w.heap.size w wr
theorem cmp2 (s : ByteArray) (h : 2 ≤ s.size) : ((s.extract 0 2).toList == [47, 47]) = deepL s.data.toList := by
  rw [ByteArray.toList_eq, Lib.extract_from_zero]
  unfold deepL Lib.hasPrefix
  obtain ⟨⟨l⟩⟩ := s
  have hl : 2 ≤ l.length := h
  match l, hl with
  | a :: b :: r, _ => simp [List.isPrefixOf, List.take, Bool.beq_eq_decide_eq, eq_comm]
theorem steps_start (t : ByteArray) (w : World) : StepsRel t w (w.alloc (.cells #[] 9)) 0 ⟨#[]⟩ 0 (some ⟨w.heap.size, 0, none⟩) 0 :=
  ⟨[], rfl, by show _ = [] ++ tailS _ [] 0; rw [tailS_zero]; rfl, rfl, Nat.zero_le _, Nat.zero_le _, World.ownsRow_made (base := w.heap.size) (e := 9) (size := 1) w #[] 0 (Nat.le_refl _) (Nat.zero_le _) rfl, (Below.refl _ _).alloc (Nat.le_refl _) _⟩
section
variable {t : ByteArray} {w wr : World} {k : Nat} {C : ByteArray} {m : Nat} {ad : Option Addr} {c : Nat}
theorem steps_cur (h : StepsRel t w wr k C m ad c) : C.size ≤ k := by obtain ⟨ps, -, -, -, h, -⟩ := h; exact h
theorem steps_cnt (h : StepsRel t w wr k C m ad c) : m ≤ k := by obtain ⟨ps, -, -, -, -, h, -⟩ := h; exact h
theorem steps_below (h : StepsRel t w wr k C m ad c) : Below w.heap.size w wr := by obtain ⟨ps, -, -, -, -, -, -, h⟩ := h; exact h
theorem steps_own (h : StepsRel t w wr k C m ad c) : wr.ownsRow w.heap.size 9 1 (.slice ad m c) m (strV (Classical.choose h)) := (Classical.choose_spec h).2.2.2.2.2.1
theorem byte_get (t : ByteArray) (k : Nat) (h : k < t.size) : t.data.toList[k]? = some t[k] := by
  have h' : k < t.data.toList.length := by simpa using h
  rw [List.getElem?_eq_getElem h']; rfl
theorem len_data (t : ByteArray) : t.data.toList.length = t.size := by simp
theorem steps_more (h : StepsRel t w wr k C m ad c) (hk : k < t.size) (hc : t[k] ≠ 47) : StepsRel t w wr (k + 1) (C ++ t.extract k (k + 1)) m ad c := by
  obtain ⟨ps, h1, h2, h3, h4, h5, h6, h7⟩ := h
  have e : (C ++ t.extract k (k + 1)).data.toList = C.data.toList ++ [t[k]] := by
    have e1 : (t.extract k (k + 1)).data.toList = [t[k]] := by
      rw [Lib.extract_data]
      have hl : k < t.data.toList.length := by simpa using hk
      rw [List.drop_eq_getElem_cons hl]
      simp
      rfl
    have e2 : (C ++ t.extract k (k + 1)).data.toList = C.data.toList ++ (t.extract k (k + 1)).data.toList := by simp [ByteArray.data_append]
    rw [e2, e1]
  refine ⟨ps, h1, ?_, h3, ?_, by omega, h6, h7⟩
  · rw [h2, e, tailS_more (byte_get t k hk) hc]
  · have h8 := ByteArray.size_append (a := C) (b := t.extract k (k + 1))
    have h9 := ByteArray.size_extract (a := t) (b := k) (e := k + 1)
    omega
theorem tail_now (he : (∃ h : k < t.size, t[k] = 47) ∨ k = t.size) (cur : List UInt8) : tailS t.data.toList cur k = cur :: tailS t.data.toList [] (k + 1) := by
  rcases he with ⟨h, hc⟩ | rfl
  · exact tailS_sign (by rw [byte_get t k h, hc])
  · have := tailS_end t.data.toList cur
    rw [len_data] at this
    have h2 := tailS_out t.data.toList []
    rw [len_data] at h2
    rw [this, h2]
theorem steps_bad (h : StepsRel t w wr k C m ad c) (he : (∃ h : k < t.size, t[k] = 47) ∨ k = t.size) (hn : nameB C = false) : allN t.data.toList = false := by
  obtain ⟨ps, h1, h2, h3, h4, h5, h6, h7⟩ := h
  unfold allN
  rw [h2, tail_now he, List.all_append, List.all_cons, nameL_data, hn]
  simp
theorem steps_name {w2 : World} {ad2 : Option Addr} {c2 : Nat} (h : StepsRel t w wr k C m ad c) (he : (∃ h : k < t.size, t[k] = 47) ∨ k = t.size) (hn : nameB C = true)
    (ho : w2.ownsRow w.heap.size 9 1 (.slice ad2 (m + 1) c2) (m + 1) (strV (Classical.choose h) ++ [.string C])) (hb : Below w.heap.size w w2) : StepsRel t w w2 (k + 1) ⟨#[]⟩ (m + 1) ad2 c2 := by
  obtain ⟨h1, h2, h3, h4, h5, h6, h7⟩ := Classical.choose_spec h
  refine ⟨Classical.choose h ++ [C.data.toList], by rw [List.length_append, h1]; rfl, ?_, ?_, Nat.zero_le _, by omega, ?_, hb⟩
  · show _ = _ ++ tailS _ [] (k + 1)
    rw [List.append_assoc, List.singleton_append, ← tail_now he]
    exact h2
  · rw [List.all_append, h3, List.all_cons, nameL_data, hn]; rfl
  · unfold strV at ho ⊢
    rw [List.map_append]
    exact ho
theorem steps_done {s : ByteArray} {d : Bool} (h : StepsRel t w wr k C m ad c) (he : k = t.size + 1) (hT : restS s = t) (hd : deepS s = d) :
    StepsAns s w (.returned (.tuple #[.slice ad m c, .bool d, .bool (decide ((m : Int) ≤ 6))])) wr := by
  obtain ⟨ps, h1, h2, h3, h4, h5, h6, h7⟩ := h
  subst he
  have e : tailS t.data.toList C.data.toList (t.size + 1) = [] := by
    have := tailS_out t.data.toList C.data.toList
    rw [len_data] at this
    exact this
  rw [e, List.append_nil] at h2
  have hm : cntN t.data.toList = m := by unfold cntN; rw [h2]; exact h1
  refine ⟨h7, .inl ⟨?_, ad, c, ?_, ?_⟩⟩
  · rw [hT]; unfold allN; rw [h2]; exact h3
  · rw [hT, hd, hm]
    have : decide ((m : Int) ≤ 6) = decide (m ≤ 6) := by
      by_cases g : m ≤ 6
      · rw [decide_eq_true g, decide_eq_true (by omega)]
      · rw [decide_eq_false g, decide_eq_false (by omega)]
    rw [this]
  · rw [hT, hm, h2]; exact h6
end
set_option maxRecDepth 100000 in
set_option maxHeartbeats 4000000 in
theorem s_steps (s : ByteArray) (w : World) (hs : s.size ≤ 1048576) : Calls Tryz.prog 74 #[.string s] w (StepsAns s w) := by
  obtain ⟨i0, hi, hz0, hz1, hz2⟩ := info_parts infoStr
  by_cases h2 : 2 < s.size
  · have h2i : (2 : Int) < s.size := by omega
    have h2j : (2 : Int) ≤ s.size := by omega
    cases hd : deepL s.data.toList
    · have hcmp := (cmp2 s (by omega)).trans hd
      have HDP : Hid (deepS s = false) := hide (by unfold deepS; rw [hd]; simp)
      have HT : Hid (restS s = s) := hide (by unfold restS; rw [HDP.out]; rfl)
      clear hd
      go_enter Tryz.func74, Tryz.ntmps74
      go_wp2
      go_loopw [6, 7, 8] (fun v nm iv wr => ∃ (k m : Nat) (C : ByteArray) (ad : Option Addr) (c : Nat), k ≤ s.size + 1 ∧ iv = .int .i64 k ∧ nm = .string C ∧ v = .slice ad m c ∧ StepsRel s w wr k C m ad c) (fun _ _ iv _ => s.size + 1 - (intOf iv).toNat)
      case atStart => exact ⟨0, 0, ⟨#[]⟩, some ⟨w.heap.size, 0, none⟩, 0, Nat.zero_le _, rfl, rfl, rfl, steps_start s w⟩
      case round =>
        obtain ⟨k, m, C, ad, c, hk, rfl, rfl, rfl, hrel⟩ := hrel
        have HR := hide hrel
        have hCk : C.size ≤ k := steps_cur hrel
        have hmk : m ≤ k := steps_cnt hrel
        have hsz : w.heap.size ≤ wr.heap.size := (steps_below hrel).size
        have hCm : C.size ≤ maxLen := by unfold maxLen; omega
        clear hrel
        by_cases hlt : k < s.size
        · have hk1 : (0 : Int) ≤ k := by omega
          have hk2 : (k : Int) < s.size := by omega
          have hk3 : (k : Int) ≤ s.size := by omega
          have hk4 : (k : Int) + 1 ≤ s.size := by omega
          have hk5 : (k : Int) ≤ k + 1 := by omega
          have hk6 : ((k : Int) + 1).toNat = k + 1 := by omega
          by_cases hc : s[k] = 47
          · have hcb : ((s[k].toNat : Int) != 47) = false := by rw [hc]; rfl
            have HC := hide hc
            clear hc
            cases hn : nameB C
            · go_wp2_with (go_at_call 38; refine (s_name _ _ hCm).mono ?_; rintro e w9 ⟨rfl, h9⟩; rw [h9, hn]; clear h9 w9)
              go_ret3
              exact ⟨steps_below HR.out, .inr ⟨by rw [HT.out]; exact steps_bad HR.out (.inl ⟨hlt, HC.out⟩) hn, rfl⟩⟩
            · have HO := hide (steps_own HR.out)
              go_wp2_with (first | (go_at_call 38; refine (s_name _ _ hCm).mono ?_; rintro e w9 ⟨rfl, h9⟩; rw [h9, hn]; clear h9 w9) | (at_builtin; refine wpList_append_own _ rfl (.tmp 47) (.tmp 49) 25 rfl w.heap.size 9 i0 (.string ByteArray.empty) 1 16 Tryz.underlying25 hi hz0 hz1 hz2 rfl (by decide) _ _ _ rfl (HO.out.alloc _) ⟨wr.heap.size, 0, none⟩ 1 1 [.string C] rfl rfl (fun j u hj => gOne_new wr _ _ j u hj) (gStr_list _) (by unfold maxLen; omega) (by omega) (by simp; omega) ?_; intro v2 w2 hown2 hgrow2 _; obtain ⟨ad2, c2', hv2⟩ := gOwn_shape hown2; rw [hv2] at hown2 ⊢; clear hv2; have HB3 := hide (gBelow_one (steps_below HR.out) HO.out hgrow2); have HO2 := hide hown2; clear hown2 hgrow2))
              go_roundw
              case rel => exact ⟨k + 1, m + 1, ⟨#[]⟩, ad2, c2', by omega, by go_num, rfl, rfl, steps_name HR.out (.inl ⟨hlt, HC.out⟩) hn HO2.out HB3.out⟩
              case measure => simp [intOf]; omega
          · have hcb : ((s[k].toNat : Int) != 47) = true := by
              have : s[k].toNat ≠ 47 := fun e => hc (UInt8.toNat_inj.1 e)
              simp; omega
            have HC := hide hc
            have hadd : ¬ 9223372036854775807 < C.size + 1 := by omega
            clear hc
            go_wp2
            go_roundw
            case rel => exact ⟨k + 1, m, _, ad, c, by omega, by go_num, rfl, rfl, steps_more HR.out hlt HC.out⟩
            case measure => simp [intOf]; omega
        · by_cases he : k = s.size
          · have hk2 : (k : Int) = s.size := by omega
            cases hn : nameB C
            · go_wp2_with (go_at_call 38; refine (s_name _ _ hCm).mono ?_; rintro e w9 ⟨rfl, h9⟩; rw [h9, hn]; clear h9 w9)
              go_ret3
              exact ⟨steps_below HR.out, .inr ⟨by rw [HT.out]; exact steps_bad HR.out (.inr he) hn, rfl⟩⟩
            · have HO := hide (steps_own HR.out)
              go_wp2_with (first | (go_at_call 38; refine (s_name _ _ hCm).mono ?_; rintro e w9 ⟨rfl, h9⟩; rw [h9, hn]; clear h9 w9) | (at_builtin; refine wpList_append_own _ rfl (.tmp 47) (.tmp 49) 25 rfl w.heap.size 9 i0 (.string ByteArray.empty) 1 16 Tryz.underlying25 hi hz0 hz1 hz2 rfl (by decide) _ _ _ rfl (HO.out.alloc _) ⟨wr.heap.size, 0, none⟩ 1 1 [.string C] rfl rfl (fun j u hj => gOne_new wr _ _ j u hj) (gStr_list _) (by unfold maxLen; omega) (by omega) (by simp; omega) ?_; intro v2 w2 hown2 hgrow2 _; obtain ⟨ad2, c2', hv2⟩ := gOwn_shape hown2; rw [hv2] at hown2 ⊢; clear hv2; have HB3 := hide (gBelow_one (steps_below HR.out) HO.out hgrow2); have HO2 := hide hown2; clear hown2 hgrow2))
              go_roundw
              case rel => exact ⟨k + 1, m + 1, ⟨#[]⟩, ad2, c2', by omega, by go_num, rfl, rfl, steps_name HR.out (.inr he) hn HO2.out HB3.out⟩
              case measure => simp [intOf]; omega
          · have hk2 : (s.size : Int) < k := by omega
            have he2 : k = s.size + 1 := by omega
            have HE := hide he2
            clear he he2
            go_wp2
            go_ret3
            exact steps_done HR.out HE.out HT.out HDP.out
    · have hcmp := (cmp2 s (by omega)).trans hd
      have HDP : Hid (deepS s = true) := hide (by unfold deepS; rw [hd, decide_eq_true h2]; rfl)
      have ht0 : restS s = s.extract 2 s.size := by unfold restS; rw [HDP.out]; rfl
      go_enter Tryz.func74, Tryz.ntmps74
      go_wp2
      have hts : (s.extract 2 s.size).size ≤ s.size := by rw [ByteArray.size_extract]; omega
      obtain ⟨t, ht⟩ : ∃ t, s.extract 2 s.size = t := ⟨_, rfl⟩
      rw [ht] at ht0 hts ⊢
      have HT := hide ht0
      have HS := hide hs
      have hts2 : t.size ≤ 1048576 := by omega
      clear hd ht ht0 hcmp hts hs h2 h2i h2j
      go_loopw [6, 7, 8] (fun v nm iv wr => ∃ (k m : Nat) (C : ByteArray) (ad : Option Addr) (c : Nat), k ≤ t.size + 1 ∧ iv = .int .i64 k ∧ nm = .string C ∧ v = .slice ad m c ∧ StepsRel t w wr k C m ad c) (fun _ _ iv _ => t.size + 1 - (intOf iv).toNat)
      case atStart => exact ⟨0, 0, ⟨#[]⟩, some ⟨w.heap.size, 0, none⟩, 0, Nat.zero_le _, rfl, rfl, rfl, steps_start t w⟩
      case round =>
        obtain ⟨k, m, C, ad, c, hk, rfl, rfl, rfl, hrel⟩ := hrel
        have HR := hide hrel
        have hCk : C.size ≤ k := steps_cur hrel
        have hmk : m ≤ k := steps_cnt hrel
        have hsz : w.heap.size ≤ wr.heap.size := (steps_below hrel).size
        have hCm : C.size ≤ maxLen := by unfold maxLen; omega
        clear hrel
        by_cases hlt : k < t.size
        · have hk1 : (0 : Int) ≤ k := by omega
          have hk2 : (k : Int) < t.size := by omega
          have hk3 : (k : Int) ≤ t.size := by omega
          have hk4 : (k : Int) + 1 ≤ t.size := by omega
          have hk5 : (k : Int) ≤ k + 1 := by omega
          have hk6 : ((k : Int) + 1).toNat = k + 1 := by omega
          by_cases hc : t[k] = 47
          · have hcb : ((t[k].toNat : Int) != 47) = false := by rw [hc]; rfl
            have HC := hide hc
            clear hc
            cases hn : nameB C
            · go_wp2_with (go_at_call 38; refine (s_name _ _ hCm).mono ?_; rintro e w9 ⟨rfl, h9⟩; rw [h9, hn]; clear h9 w9)
              go_ret3
              exact ⟨steps_below HR.out, .inr ⟨by rw [HT.out]; exact steps_bad HR.out (.inl ⟨hlt, HC.out⟩) hn, rfl⟩⟩
            · have HO := hide (steps_own HR.out)
              go_wp2_with (first | (go_at_call 38; refine (s_name _ _ hCm).mono ?_; rintro e w9 ⟨rfl, h9⟩; rw [h9, hn]; clear h9 w9) | (at_builtin; refine wpList_append_own _ rfl (.tmp 47) (.tmp 49) 25 rfl w.heap.size 9 i0 (.string ByteArray.empty) 1 16 Tryz.underlying25 hi hz0 hz1 hz2 rfl (by decide) _ _ _ rfl (HO.out.alloc _) ⟨wr.heap.size, 0, none⟩ 1 1 [.string C] rfl rfl (fun j u hj => gOne_new wr _ _ j u hj) (gStr_list _) (by unfold maxLen; omega) (by omega) (by simp; omega) ?_; intro v2 w2 hown2 hgrow2 _; obtain ⟨ad2, c2', hv2⟩ := gOwn_shape hown2; rw [hv2] at hown2 ⊢; clear hv2; have HB3 := hide (gBelow_one (steps_below HR.out) HO.out hgrow2); have HO2 := hide hown2; clear hown2 hgrow2))
              go_roundw
              case rel => exact ⟨k + 1, m + 1, ⟨#[]⟩, ad2, c2', by omega, by go_num, rfl, rfl, steps_name HR.out (.inl ⟨hlt, HC.out⟩) hn HO2.out HB3.out⟩
              case measure => simp [intOf]; omega
          · have hcb : ((t[k].toNat : Int) != 47) = true := by
              have : t[k].toNat ≠ 47 := fun e => hc (UInt8.toNat_inj.1 e)
              simp; omega
            have HC := hide hc
            have hadd : ¬ 9223372036854775807 < C.size + 1 := by omega
            clear hc
            go_wp2
            go_roundw
            case rel => exact ⟨k + 1, m, _, ad, c, by omega, by go_num, rfl, rfl, steps_more HR.out hlt HC.out⟩
            case measure => simp [intOf]; omega
        · by_cases he : k = t.size
          · have hk2 : (k : Int) = t.size := by omega
            cases hn : nameB C
            · go_wp2_with (go_at_call 38; refine (s_name _ _ hCm).mono ?_; rintro e w9 ⟨rfl, h9⟩; rw [h9, hn]; clear h9 w9)
              go_ret3
              exact ⟨steps_below HR.out, .inr ⟨by rw [HT.out]; exact steps_bad HR.out (.inr he) hn, rfl⟩⟩
            · have HO := hide (steps_own HR.out)
              go_wp2_with (first | (go_at_call 38; refine (s_name _ _ hCm).mono ?_; rintro e w9 ⟨rfl, h9⟩; rw [h9, hn]; clear h9 w9) | (at_builtin; refine wpList_append_own _ rfl (.tmp 47) (.tmp 49) 25 rfl w.heap.size 9 i0 (.string ByteArray.empty) 1 16 Tryz.underlying25 hi hz0 hz1 hz2 rfl (by decide) _ _ _ rfl (HO.out.alloc _) ⟨wr.heap.size, 0, none⟩ 1 1 [.string C] rfl rfl (fun j u hj => gOne_new wr _ _ j u hj) (gStr_list _) (by unfold maxLen; omega) (by omega) (by simp; omega) ?_; intro v2 w2 hown2 hgrow2 _; obtain ⟨ad2, c2', hv2⟩ := gOwn_shape hown2; rw [hv2] at hown2 ⊢; clear hv2; have HB3 := hide (gBelow_one (steps_below HR.out) HO.out hgrow2); have HO2 := hide hown2; clear hown2 hgrow2))
              go_roundw
              case rel => exact ⟨k + 1, m + 1, ⟨#[]⟩, ad2, c2', by omega, by go_num, rfl, rfl, steps_name HR.out (.inr he) hn HO2.out HB3.out⟩
              case measure => simp [intOf]; omega
          · have hk2 : (t.size : Int) < k := by omega
            have he2 : k = t.size + 1 := by omega
            have HE := hide he2
            clear he he2
            go_wp2
            go_ret3
            exact steps_done HR.out HE.out HT.out HDP.out
  · have h2i : (s.size : Int) ≤ 2 := by omega
    have HDP : Hid (deepS s = false) := hide (by unfold deepS; rw [decide_eq_false h2]; rfl)
    have HT : Hid (restS s = s) := hide (by unfold restS; rw [HDP.out]; rfl)
    go_enter Tryz.func74, Tryz.ntmps74
    go_wp2
    go_loopw [6, 7, 8] (fun v nm iv wr => ∃ (k m : Nat) (C : ByteArray) (ad : Option Addr) (c : Nat), k ≤ s.size + 1 ∧ iv = .int .i64 k ∧ nm = .string C ∧ v = .slice ad m c ∧ StepsRel s w wr k C m ad c) (fun _ _ iv _ => s.size + 1 - (intOf iv).toNat)
    case atStart => exact ⟨0, 0, ⟨#[]⟩, some ⟨w.heap.size, 0, none⟩, 0, Nat.zero_le _, rfl, rfl, rfl, steps_start s w⟩
    case round =>
      obtain ⟨k, m, C, ad, c, hk, rfl, rfl, rfl, hrel⟩ := hrel
      have HR := hide hrel
      have hCk : C.size ≤ k := steps_cur hrel
      have hmk : m ≤ k := steps_cnt hrel
      have hsz : w.heap.size ≤ wr.heap.size := (steps_below hrel).size
      have hCm : C.size ≤ maxLen := by unfold maxLen; omega
      clear hrel
      by_cases hlt : k < s.size
      · have hk1 : (0 : Int) ≤ k := by omega
        have hk2 : (k : Int) < s.size := by omega
        have hk3 : (k : Int) ≤ s.size := by omega
        have hk4 : (k : Int) + 1 ≤ s.size := by omega
        have hk5 : (k : Int) ≤ k + 1 := by omega
        have hk6 : ((k : Int) + 1).toNat = k + 1 := by omega
        by_cases hc : s[k] = 47
        · have hcb : ((s[k].toNat : Int) != 47) = false := by rw [hc]; rfl
          have HC := hide hc
          clear hc
          cases hn : nameB C
          · go_wp2_with (go_at_call 38; refine (s_name _ _ hCm).mono ?_; rintro e w9 ⟨rfl, h9⟩; rw [h9, hn]; clear h9 w9)
            go_ret3
            exact ⟨steps_below HR.out, .inr ⟨by rw [HT.out]; exact steps_bad HR.out (.inl ⟨hlt, HC.out⟩) hn, rfl⟩⟩
          · have HO := hide (steps_own HR.out)
            go_wp2_with (first | (go_at_call 38; refine (s_name _ _ hCm).mono ?_; rintro e w9 ⟨rfl, h9⟩; rw [h9, hn]; clear h9 w9) | (at_builtin; refine wpList_append_own _ rfl (.tmp 47) (.tmp 49) 25 rfl w.heap.size 9 i0 (.string ByteArray.empty) 1 16 Tryz.underlying25 hi hz0 hz1 hz2 rfl (by decide) _ _ _ rfl (HO.out.alloc _) ⟨wr.heap.size, 0, none⟩ 1 1 [.string C] rfl rfl (fun j u hj => gOne_new wr _ _ j u hj) (gStr_list _) (by unfold maxLen; omega) (by omega) (by simp; omega) ?_; intro v2 w2 hown2 hgrow2 _; obtain ⟨ad2, c2', hv2⟩ := gOwn_shape hown2; rw [hv2] at hown2 ⊢; clear hv2; have HB3 := hide (gBelow_one (steps_below HR.out) HO.out hgrow2); have HO2 := hide hown2; clear hown2 hgrow2))
            go_roundw
            case rel => exact ⟨k + 1, m + 1, ⟨#[]⟩, ad2, c2', by omega, by go_num, rfl, rfl, steps_name HR.out (.inl ⟨hlt, HC.out⟩) hn HO2.out HB3.out⟩
            case measure => simp [intOf]; omega
        · have hcb : ((s[k].toNat : Int) != 47) = true := by
            have : s[k].toNat ≠ 47 := fun e => hc (UInt8.toNat_inj.1 e)
            simp; omega
          have HC := hide hc
          have hadd : ¬ 9223372036854775807 < C.size + 1 := by omega
          clear hc
          go_wp2
          go_roundw
          case rel => exact ⟨k + 1, m, _, ad, c, by omega, by go_num, rfl, rfl, steps_more HR.out hlt HC.out⟩
          case measure => simp [intOf]; omega
      · by_cases he : k = s.size
        · have hk2 : (k : Int) = s.size := by omega
          cases hn : nameB C
          · go_wp2_with (go_at_call 38; refine (s_name _ _ hCm).mono ?_; rintro e w9 ⟨rfl, h9⟩; rw [h9, hn]; clear h9 w9)
            go_ret3
            exact ⟨steps_below HR.out, .inr ⟨by rw [HT.out]; exact steps_bad HR.out (.inr he) hn, rfl⟩⟩
          · have HO := hide (steps_own HR.out)
            go_wp2_with (first | (go_at_call 38; refine (s_name _ _ hCm).mono ?_; rintro e w9 ⟨rfl, h9⟩; rw [h9, hn]; clear h9 w9) | (at_builtin; refine wpList_append_own _ rfl (.tmp 47) (.tmp 49) 25 rfl w.heap.size 9 i0 (.string ByteArray.empty) 1 16 Tryz.underlying25 hi hz0 hz1 hz2 rfl (by decide) _ _ _ rfl (HO.out.alloc _) ⟨wr.heap.size, 0, none⟩ 1 1 [.string C] rfl rfl (fun j u hj => gOne_new wr _ _ j u hj) (gStr_list _) (by unfold maxLen; omega) (by omega) (by simp; omega) ?_; intro v2 w2 hown2 hgrow2 _; obtain ⟨ad2, c2', hv2⟩ := gOwn_shape hown2; rw [hv2] at hown2 ⊢; clear hv2; have HB3 := hide (gBelow_one (steps_below HR.out) HO.out hgrow2); have HO2 := hide hown2; clear hown2 hgrow2))
            go_roundw
            case rel => exact ⟨k + 1, m + 1, ⟨#[]⟩, ad2, c2', by omega, by go_num, rfl, rfl, steps_name HR.out (.inr he) hn HO2.out HB3.out⟩
            case measure => simp [intOf]; omega
        · have hk2 : (s.size : Int) < k := by omega
          have he2 : k = s.size + 1 := by omega
          have HE := hide he2
          clear he he2
          go_wp2
          go_ret3
          exact steps_done HR.out HE.out HT.out HDP.out
end Go.Proofs.YtdepgkpfibmbgaaGreatDoor
