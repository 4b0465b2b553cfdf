/-
  Contract: the program's right number of digits and a scale.
-/
import Derived.Test.YtdglamiifcagoacDoorNormS
import Derived.Test.YtdglamiifcagoacDoorShelf
namespace Go.Proofs.YtdglamiifcagoacDoor
open Go.RowKit
set_option linter.unusedSimpArgs false
set_option linter.unusedVariables false
theorem drop_val : ∀ l : List UInt8, valL (l.dropWhile (· == 48)) = valL l
  | [] => rfl
  | c :: l => by
    by_cases h : c = 48
    · subst h
      have e : (List.dropWhile (· == (48 : UInt8)) (48 :: l)) = List.dropWhile (· == 48) l := by simp [List.dropWhile_cons]
      rw [e, drop_val l, valL_cons, show dgt 48 = 0 from rfl]; omega
    · have e : (List.dropWhile (· == (48 : UInt8)) (c :: l)) = c :: l := by simp [List.dropWhile_cons, h]
      rw [e]
theorem drop_noLead : ∀ l : List UInt8, noLead (l.dropWhile (· == 48))
  | [] => fun c l h => by simp at h
  | c :: l => by
    by_cases h : c = 48
    · subst h
      have e : (List.dropWhile (· == (48 : UInt8)) (48 :: l)) = List.dropWhile (· == 48) l := by simp [List.dropWhile_cons]
      rw [e]; exact drop_noLead l
    · have e : (List.dropWhile (· == (48 : UInt8)) (c :: l)) = c :: l := by simp [List.dropWhile_cons, h]
      rw [e]
      intro d m hd
      have : d = c := (List.cons.inj hd).1.symm
      subst this
      intro hc
      exact h (UInt8.toNat_inj.1 hc)
theorem i_trimL (t : ByteArray) (w : World) (hd : dgL t.data.toList) :
    Calls Tryd.prog 27 #[.string t, .string ⟨#[48]⟩] w fun e w' => ∃ u : ByteArray, u.size ≤ t.size ∧ Hid (dgL u.data.toList) ∧ Hid (valL u.data.toList = valL t.data.toList) ∧ Hid (noLead u.data.toList) ∧ e = .returned (.string u) ∧ w' = w := by
  refine (Tryd.strings_TrimLeft_one t 48 (by decide) w).mono fun e w' ⟨he, hw⟩ => ?_
  have hs : (Lib.trimLeftB t.data.toList 48).Sublist t.data.toList := List.dropWhile_sublist _
  refine ⟨⟨(Lib.trimLeftB t.data.toList 48).toArray⟩, ?_, hide (fun c hc => hd c (hs.subset (by simpa using hc))), hide (drop_val t.data.toList), hide (drop_noLead t.data.toList), he, hw⟩
  have h1 := hs.length_le
  have h2 : t.data.toList.length = t.size := by simp
  have h3 : (⟨(Lib.trimLeftB t.data.toList 48).toArray⟩ : ByteArray).size = (Lib.trimLeftB t.data.toList 48).length := by show (Lib.trimLeftB t.data.toList 48).toArray.size = _; simp only [List.size_toArray]
  omega
def endsZ (t : ByteArray) : Bool := Lib.hasSuffix t.data.toList [48]
theorem endsZ_none (t : ByteArray) (h : t.size = 0) : endsZ t = false := by
  have e : t.data.toList = [] := by apply List.length_eq_zero_iff.1; simpa using h
  rw [endsZ, e]; rfl
theorem endsZ_last (t : ByteArray) (h : 0 < t.size) : endsZ t = decide ((t[t.size - 1].toNat : Int) = 48) := by
  have e := list_snoc t h
  rw [endsZ, Lib.hasSuffix, Bool.eq_iff_iff, List.isSuffixOf_iff_suffix, decide_eq_true_eq]
  constructor
  · rintro ⟨u, hu⟩
    rw [e] at hu
    have := (List.append_inj' hu rfl).2
    have h2 : (48 : UInt8) = t[t.size - 1] := by simpa using this
    rw [← h2]; rfl
  · intro hz
    refine ⟨t.data.toList.take (t.size - 1), ?_⟩
    have h2 : (48 : UInt8) = t[t.size - 1] := UInt8.toNat_inj.1 (by show (48 : Nat) = _; omega)
    conv => rhs; rw [e]
    rw [← h2]
theorem i_hasS (t : ByteArray) (w : World) (hs : t.size ≤ 400) : Calls Tryd.prog 28 #[.string t, .string ⟨#[48]⟩] w fun e w' => e = .returned (.bool (endsZ t)) ∧ w' = w :=
  Tryd.strings_HasSuffix t ⟨#[48]⟩ w (by omega)
theorem i_trimS (t : ByteArray) (w : World) (hs : t.size ≤ 400) (h0 : 0 < t.size) (hz : endsZ t = true) : Calls Tryd.prog 29 #[.string t, .string ⟨#[48]⟩] w fun e w' => e = .returned (.string (t.extract 0 (t.size - 1))) ∧ w' = w := by
  refine (Tryd.strings_TrimSuffix t ⟨#[48]⟩ w (by omega)).mono fun e w' ⟨he, hw⟩ => ⟨?_, hw⟩
  rw [he]
  have hl : t.data.toList.length = t.size := by simp
  have e : (⟨(Lib.trimSuffix t.data.toList (⟨#[48]⟩ : ByteArray).data.toList).toArray⟩ : ByteArray) = t.extract 0 (t.size - 1) := by
    apply ba_ext
    have e2 : Lib.trimSuffix t.data.toList (⟨#[48]⟩ : ByteArray).data.toList = t.data.toList.take (t.data.toList.length - 1) := if_pos hz
    rw [ext_list, e2, hl]
    simp
  rw [e]
theorem noLead_cut (t : ByteArray) (h0 : 0 < t.size) (hn : noLead t.data.toList) : noLead (t.extract 0 (t.size - 1)).data.toList := by
  have e := list_snoc t h0
  intro c l hc
  have e1 : (t.extract 0 (t.size - 1)).data.toList = t.data.toList.take (t.size - 1) := by rw [ext_list]; simp
  rw [e1] at hc
  exact hn c (l ++ [t[t.size - 1]]) (by rw [e, hc]; rfl)
set_option maxHeartbeats 2000000 in
theorem i_decOf (n : Bool) (t : ByteArray) (c : Int) (w : World) (ht : t.size ≤ 400) (hd : dgL t.data.toList) (hc0 : 0 ≤ c) (hc1 : c ≤ 200) :
    Calls Tryd.prog 13 #[.bool n, .string t, .int .i64 c] w fun e w' => e = .returned (resV (decRes n (valL t.data.toList) c.toNat)) ∧ Below w.heap.size w w' := by
  obtain ⟨v, hv⟩ : ∃ v, valL t.data.toList = v := ⟨_, rfl⟩
  obtain ⟨q, hq⟩ : ∃ q, c.toNat = q := ⟨_, rfl⟩
  obtain ⟨R, hR⟩ : ∃ R, decRes n v q = R := ⟨_, rfl⟩
  rw [hv, hq, hR]
  have HV := hide hv
  have HQ := hide hq
  have HR := hide hR
  have HD := hide hd
  clear hv hq hR hd
  go_enter Tryd.func13, Tryd.ntmps13
  go_wp2_with fail
  refine (i_trimL t _ HD.out).mono ?_
  rintro e w1 ⟨x, hx, HDX, HVX, HNX, rfl, rfl⟩
  have hx4 : x.size ≤ 400 := by omega
  go_wp2
  go_loop [1, 2] (fun vt vc => ∃ (u : ByteArray) (k : Nat), vt = .string u ∧ vc = .int .i64 k ∧ u.size ≤ 400 ∧ k ≤ 200 ∧ Hid (dgL u.data.toList) ∧ Hid (canonV (valL u.data.toList) k = canonV v q) ∧ Hid (noLead u.data.toList)) (fun _ vc => (intOf vc).toNat)
  case atStart => exact ⟨x, c.toNat, rfl, by rw [show ((c.toNat : Nat) : Int) = c by omega], hx4, by omega, HDX, hide (by rw [HVX.out, HV.out, HQ.out]), HNX⟩
  case round =>
    clear HD HV HQ HDX HVX HNX hx hx4
    obtain ⟨u, k, rfl, rfl, hu, hk, HDu, HVu, HNu⟩ := hrel
    rcases (show k = 0 ∨ 0 < k by omega) with hk0 | hk0
    · subst hk0
      have HLu : Hid (0 = 0 ∨ u.size = 0 ∨ ∀ a b, u.data.toList = a ++ [b] → b.toNat ≠ 48) := hide (.inl rfl)
      rcases (show u.size = 0 ∨ 0 < u.size by omega) with hu0 | hu0
      · have HRE : Hid (R = (false, ByteArray.empty, 0, true)) := hide (HR.out.symm.trans (res_zero (norm_exit n u 0 v q HDu.out HNu.out HLu.out HVu.out) hu0))
        have := empty_of u hu0
        subst this
        have HC := hide (heap_alloc_new w (.cells #[.bool false, .string ⟨#[]⟩, .int .i64 0] 25))
        go_wp2_with (fail)
        exact bodyPost_ret (v := .tuple #[.agg #[.bool false, .string ⟨#[]⟩, .int .i64 0], .bool true]) (by simp [results, Tryd.results13, go_sem]) rfl ⟨by rw [HRE.out]; rfl, (Below.refl _ _).alloc (Nat.le_refl _) _⟩
      · have hue := ne_list u hu0
        have HF := hide (norm_exit n u 0 v q HDu.out HNu.out HLu.out HVu.out)
        go_wp2_with (first | fail | fail)
        refine (i_decok n u 0 _ (by unfold maxLen; omega)).mono ?_
        rintro e w1 ⟨rfl, hb1⟩
        obtain ⟨hx1, hx2, hbb⟩ := boxed_two hb1
        obtain ⟨f0, f1, f2⟩ := res_frozen hb1
        have HB := hide hbb
        obtain ⟨a0, a1, a2, a3⟩ := hx1
        obtain ⟨b0, b1, b2, b3⟩ := hx2
        have HC := hide (res_done hb1 (.bool false) (.string ⟨#[]⟩) (.int .i64 0))
        have HC2 := hide (res_done hb1 (.bool n) (.string u) (.int .i64 (0 : Int)))
        clear hb1 hbb
        cases hdb : decB n u (0 : Int)
        · have HRE : Hid (R = (false, ByteArray.empty, 0, false)) := hide (HR.out.symm.trans (res_no HF.out (by omega) hdb))
          go_wp2
          obtain ⟨c0, c1, c2⟩ := HC.out
          exact bodyPost_ret (v := .tuple #[.agg #[.bool false, .string ⟨#[]⟩, .int .i64 0], .bool false]) (by simp [results, Tryd.results13, go_sem, c0, c1, c2]) rfl ⟨by rw [HRE.out]; rfl, below_three HB.out _ _ _⟩
        · have HRE : Hid (R = (n, u, (0 : Int), true)) := hide (HR.out.symm.trans (res_yes HF.out (by omega) hdb))
          go_wp2
          obtain ⟨c0, c1, c2⟩ := HC2.out
          exact bodyPost_ret (v := .tuple #[.agg #[.bool n, .string u, .int .i64 (0 : Int)], .bool true]) (by simp [results, Tryd.results13, go_sem, c0, c1, c2]) rfl ⟨by rw [HRE.out]; rfl, below_three HB.out _ _ _⟩
    · have hkk : (0 : Int) < (k : Int) := by omega
      cases hz : endsZ u
      · have HLu : Hid (k = 0 ∨ u.size = 0 ∨ ∀ a b, u.data.toList = a ++ [b] → b.toNat ≠ 48) := hide (by
          rcases (show u.size = 0 ∨ 0 < u.size by omega) with h | h
          · exact .inr (.inl h)
          · refine .inr (.inr (last_ne u h ?_))
            rw [endsZ_last u h] at hz
            simpa using hz)
        rcases (show u.size = 0 ∨ 0 < u.size by omega) with hu0 | hu0
        · have HRE : Hid (R = (false, ByteArray.empty, 0, true)) := hide (HR.out.symm.trans (res_zero (norm_exit n u k v q HDu.out HNu.out HLu.out HVu.out) hu0))
          have := empty_of u hu0
          subst this
          have HC := hide (heap_alloc_new w (.cells #[.bool false, .string ⟨#[]⟩, .int .i64 0] 25))
          go_wp2_with ((go_at_call 28; refine (i_hasS _ _ hu).mono ?_; rintro e w9 ⟨rfl, rfl⟩))
          exact bodyPost_ret (v := .tuple #[.agg #[.bool false, .string ⟨#[]⟩, .int .i64 0], .bool true]) (by simp [results, Tryd.results13, go_sem]) rfl ⟨by rw [HRE.out]; rfl, (Below.refl _ _).alloc (Nat.le_refl _) _⟩
        · have hue := ne_list u hu0
          have HF := hide (norm_exit n u k v q HDu.out HNu.out HLu.out HVu.out)
          go_wp2_with (first | (go_at_call 28; refine (i_hasS _ _ hu).mono ?_; rintro e w9 ⟨rfl, rfl⟩) | fail)
          refine (i_decok n u k _ (by unfold maxLen; omega)).mono ?_
          rintro e w1 ⟨rfl, hb1⟩
          obtain ⟨hx1, hx2, hbb⟩ := boxed_two hb1
          obtain ⟨f0, f1, f2⟩ := res_frozen hb1
          have HB := hide hbb
          obtain ⟨a0, a1, a2, a3⟩ := hx1
          obtain ⟨b0, b1, b2, b3⟩ := hx2
          have HC := hide (res_done hb1 (.bool false) (.string ⟨#[]⟩) (.int .i64 0))
          have HC2 := hide (res_done hb1 (.bool n) (.string u) (.int .i64 (k : Int)))
          clear hb1 hbb
          cases hdb : decB n u (k : Int)
          · have HRE : Hid (R = (false, ByteArray.empty, 0, false)) := hide (HR.out.symm.trans (res_no HF.out (by omega) hdb))
            go_wp2
            obtain ⟨c0, c1, c2⟩ := HC.out
            exact bodyPost_ret (v := .tuple #[.agg #[.bool false, .string ⟨#[]⟩, .int .i64 0], .bool false]) (by simp [results, Tryd.results13, go_sem, c0, c1, c2]) rfl ⟨by rw [HRE.out]; rfl, below_three HB.out _ _ _⟩
          · have HRE : Hid (R = (n, u, (k : Int), true)) := hide (HR.out.symm.trans (res_yes HF.out (by omega) hdb))
            go_wp2
            obtain ⟨c0, c1, c2⟩ := HC2.out
            exact bodyPost_ret (v := .tuple #[.agg #[.bool n, .string u, .int .i64 (k : Int)], .bool true]) (by simp [results, Tryd.results13, go_sem, c0, c1, c2]) rfl ⟨by rw [HRE.out]; rfl, below_three HB.out _ _ _⟩
      · have hu0 : 0 < u.size := by
          rcases (show u.size = 0 ∨ 0 < u.size by omega) with h | h
          · rw [endsZ_none u h] at hz; simp at hz
          · exact h
        have hz2 : (u[u.size - 1].toNat : Int) = 48 := by
          have := hz
          rw [endsZ_last u hu0] at this
          simpa using this
        obtain ⟨g1, g2⟩ := cut_last u k v q hu0 hk0 HDu.out hz2 HVu.out
        have G1 := hide g1
        have G2 := hide g2
        have G3 := hide (noLead_cut u hu0 HNu.out)
        have HZ := hide hz
        clear g1 g2 hz2
        go_wp2_with (first | (go_at_call 28; refine (i_hasS _ _ hu).mono ?_; rintro e w9 ⟨rfl, rfl⟩) | (go_at_call 29; refine (i_trimS _ _ hu hu0 HZ.out).mono ?_; rintro e w9 ⟨rfl, rfl⟩))
        go_round
        case rel => exact ⟨_, k - 1, rfl, by go_num, by simp; omega, by omega, G1, G2, G3⟩
        case measure => simp [intOf]; omega
end Go.Proofs.YtdglamiifcagoacDoor
