/-
  Contract of the specification: l1Int at every text.
-/
import Derived.Test.YtdbipaobanjbbaaDoorMrD
import Derived.Lib.Strings
namespace Go.Proofs.YtdbipaobanjbbaaDoor
open Go.RowKit Go.Joins
set_option linter.unusedVariables false
set_option linter.unusedSimpArgs false
theorem bget (t : ByteArray) (k : Nat) (hk : k < t.size) : t.data.toList[k]? = some t[k] := by
  have hl : k < t.data.toList.length := by simpa using hk
  rw [List.getElem?_eq_getElem hl]
  simp
  rfl
theorem bmem (t : ByteArray) (k : Nat) (hk : k < t.size) : t[k] ∈ t.data.toList := List.mem_of_getElem? (bget t k hk)
theorem btake (t : ByteArray) (k : Nat) (hk : k < t.size) : t.data.toList.take (k + 1) = t.data.toList.take k ++ [t[k]] := by
  rw [List.take_add_one, bget t k hk]
  rfl
/-- What a text that is no number of marks fails by. -/
def BadB (l : List UInt8) : Prop := l.length < 1 ∨ 9 < l.length ∨ (l[0]? = some 48 ∧ 1 < l.length) ∨ ∃ b ∈ l, ¬ (48 ≤ b.toNat ∧ b.toNat ≤ 57)
theorem form_of {dc : Int} (h : -1 ≤ dc ∧ dc ≤ 30) (hn : dc ≠ -1) : ∃ u : Nat, u < 31 ∧ dc = (u : Int) ∧ Lib.itoa dc = (if u < 10 then [UInt8.ofNat (48 + u)] else [UInt8.ofNat (48 + u / 10), UInt8.ofNat (48 + u % 10)]) := by
  have h1 := itoa_nat dc.toNat (by omega)
  rw [show ((dc.toNat : Nat) : Int) = dc by omega] at h1
  exact ⟨dc.toNat, by omega, by omega, h1⟩
theorem form_len (u : Nat) : 1 ≤ (if u < 10 then [UInt8.ofNat (48 + u)] else [UInt8.ofNat (48 + u / 10), UInt8.ofNat (48 + u % 10)]).length ∧ (if u < 10 then [UInt8.ofNat (48 + u)] else [UInt8.ofNat (48 + u / 10), UInt8.ofNat (48 + u % 10)]).length ≤ 2 := by
  split <;> simp
theorem intB_bad {l : List UInt8} (hB : ¬ (1 < l.length ∧ l[0]? = some 45)) (hb : BadB l) : IntA l 0 false := by
  intro dc hd hl
  exfalso
  have hn : dc ≠ -1 := fun e => by
    subst e
    rw [itoa_m1] at hl
    subst hl
    exact hB ⟨by decide, rfl⟩
  obtain ⟨u, hu, -, hf⟩ := form_of hd hn
  rw [hf] at hl
  subst hl
  have h1 := form_len u
  rcases hb with h | h | h | ⟨b, hb, h⟩
  · omega
  · omega
  · exact head_dec u hu h
  · exact h (dig_dec u hu b hb)
theorem intB_ok {l : List UInt8} (hB : ¬ (1 < l.length ∧ l[0]? = some 45)) : IntA l (dV l) true := by
  intro dc hd hl
  have hn : dc ≠ -1 := fun e => by
    subst e
    rw [itoa_m1] at hl
    subst hl
    exact hB ⟨by decide, rfl⟩
  obtain ⟨u, hu, he, hf⟩ := form_of hd hn
  rw [hf] at hl
  subst hl
  exact ⟨(dV_dec u hu).trans he.symm, rfl⟩
theorem itoa_minus {l : List UInt8} {dc : Int} (h0 : l[0]? = some 45) (hd : -1 ≤ dc ∧ dc ≤ 30) (hl : l = Lib.itoa dc) : dc = -1 ∧ l = [45, 49] := by
  by_cases e : dc = -1
  · subst e
    rw [itoa_m1] at hl
    exact ⟨rfl, hl⟩
  · obtain ⟨u, hu, -, hf⟩ := form_of hd e
    rw [hf] at hl
    have := dig_dec u hu 45 (by rw [← hl]; exact List.mem_of_getElem? h0)
    exact absurd this (by decide)
theorem intA_bad {l : List UInt8} (h0 : l[0]? = some 45) (hb : 9 < (l.drop 1).length ∨ (l.drop 1)[0]? = some 48 ∨ ∃ b ∈ l.drop 1, ¬ (48 ≤ b.toNat ∧ b.toNat ≤ 57)) : IntA l 0 false := by
  intro dc hd hl
  exfalso
  obtain ⟨-, rfl⟩ := itoa_minus h0 hd hl
  revert hb
  decide
theorem intA_ok {l : List UInt8} (h0 : l[0]? = some 45) : IntA l (-(dV (l.drop 1))) true := by
  intro dc hd hl
  obtain ⟨rfl, rfl⟩ := itoa_minus h0 hd hl
  exact ⟨by decide, rfl⟩
theorem p10_le : ∀ k : Nat, k ≤ 9 → p10 k ≤ 1000000000 := by decide
/-- What l1Int answers. -/
def IntAns (s : ByteArray) (w : World) (e : Ending) (w' : World) : Prop := ∃ (v : Int) (b : Bool), e = .returned (.tuple #[.int .i64 v, .bool b]) ∧ w' = w ∧ IntA s.data.toList v b
theorem int_ret {v v' : Int} {b : Bool} (h : v = v') : Ending.returned (.tuple #[.int .i64 v, .bool b]) = .returned (.tuple #[.int .i64 v', .bool b]) := by rw [h]
set_option maxRecDepth 100000 in
set_option maxHeartbeats 4000000 in
theorem s_int (s : ByteArray) (w : World) (hs : s.size ≤ 1048576) : Calls Tryd.prog 9 #[.string s] w (IntAns s w) := by
  have hsz : s.data.toList.length = s.size := by simp
  by_cases h1 : 1 < s.size
  · have h1i : (1 : Int) < s.size := by omega
    have h1j : (1 : Int) ≤ s.size := by omega
    by_cases hm : s[0] = 45
    · have hmb : ((s[0].toNat : Int) == 45) = true := by rw [hm]; rfl
      have H0 : Hid (s.data.toList[0]? = some 45) := hide (by rw [bget s 0 (by omega), hm])
      obtain ⟨t, ht⟩ : ∃ t, s.extract 1 s.size = t := ⟨_, rfl⟩
      have HTD : Hid (t.data.toList = s.data.toList.drop 1) := hide (by rw [← ht, Lib.extract_data]; exact List.take_of_length_le (by simp))
      have hts : t.size = s.size - 1 := by
        have := congrArg List.length HTD.out
        simp at this
        omega
      have ht1 : ¬ (t.size : Int) < 1 := by omega
      have ht0 : (0 : Int) < t.size := by omega
      have ht0n : 0 < t.size := by omega
      have HTS := hide hts
      clear hts
      by_cases h9 : 9 < t.size
      · have h9i : (9 : Int) < t.size := by omega
        go_enter Tryd.func9, Tryd.ntmps9
        go_wp2
        go_ret2
        exact ⟨0, false, rfl, rfl, intA_bad H0.out (.inl (by rw [← HTD.out]; simp; omega))⟩
      have h9i : (t.size : Int) ≤ 9 := by omega
      by_cases hz : t[0] = 48
      · have hzb : ((t[0].toNat : Int) == 48) = true := by rw [hz]; rfl
        go_enter Tryd.func9, Tryd.ntmps9
        go_wp2
        all_goals (go_ret2; exact ⟨0, false, rfl, rfl, intA_bad H0.out (.inr (.inl (by rw [← HTD.out, bget t 0 ht0n, hz])))⟩)
      have hzb : ((t[0].toNat : Int) == 48) = false := by
        have : t[0].toNat ≠ 48 := fun e => hz (UInt8.toNat_inj.1 e)
        rw [beq_eq_false_iff_ne]; omega
      go_enter Tryd.func9, Tryd.ntmps9
      go_wp2
      go_loop [5, 6] (fun nv iv => ∃ (k : Nat) (v : Int), k ≤ t.size ∧ iv = .int .i64 k ∧ nv = .int .i64 v ∧ 0 ≤ v ∧ v + 1 ≤ p10 k ∧ Hid (v = dV (t.data.toList.take k))) (fun _ iv => t.size - (intOf iv).toNat)
      case atStart => exact ⟨0, 0, Nat.zero_le _, rfl, rfl, Int.le_refl _, by decide, hide rfl⟩
      case round =>
        obtain ⟨k, v, hk, rfl, rfl, hv0, hv1, HV⟩ := hrel
        by_cases hlt : k < t.size
        · have hk1 : (0 : Int) ≤ k := by omega
          have hk2 : (k : Int) < t.size := by omega
          by_cases hd : 48 ≤ (t[k].toNat : Int) ∧ (t[k].toNat : Int) ≤ 57
          · have hp := p10_le k (by omega)
            have hdd := decide_eq_true hd
            have HP := hide (show p10 (k + 1) = 10 * p10 k from rfl)
            have HD := hide (btake t k hlt)
            obtain ⟨P, hP⟩ : ∃ P, p10 k = P := ⟨_, rfl⟩
            rw [hP] at hv1 hp HP
            obtain ⟨d, hdv⟩ : ∃ d : Int, (t[k].toNat : Int) = d := ⟨_, rfl⟩
            have HDV := hide hdv
            rw [hdv] at hd hdd
            obtain ⟨hd1, hd2⟩ := hd
            have CD := hide (s_dg d w)
            rw [hdd] at CD
            clear hP
            go_wp2_with (go_at_call 17; (try rw [hdv]); refine CD.out.mono ?_; rintro e w9 ⟨rfl, h9w⟩; rw [h9w]; clear h9w w9)
            go_round
            case rel => exact ⟨k + 1, v * 10 + (d - 48), by omega, by go_num, by first | rfl | go_num | (congr 1; omega), by omega, by rw [HP.out]; omega, hide (by rw [HD.out, dV_snoc, ← HV.out, HDV.out])⟩
            case measure => simp [intOf]; omega
          · have hdd := decide_eq_false hd
            have HNB : Hid (∃ b ∈ t.data.toList, ¬ (48 ≤ b.toNat ∧ b.toNat ≤ 57)) := hide ⟨t[k], bmem _ _ hlt, fun h => hd ⟨by omega, by omega⟩⟩
            obtain ⟨d, hdv⟩ : ∃ d : Int, (t[k].toNat : Int) = d := ⟨_, rfl⟩
            rw [hdv] at hd hdd
            have CD := hide (s_dg d w)
            rw [hdd] at CD
            clear hd
            go_wp2_with (go_at_call 17; (try rw [hdv]); refine CD.out.mono ?_; rintro e w9 ⟨rfl, h9w⟩; rw [h9w]; clear h9w w9)
            go_ret2
            exact ⟨0, false, rfl, rfl, intA_bad H0.out (.inr (.inr (by rw [← HTD.out]; exact HNB.out)))⟩
        · have hke : k = t.size := by omega
          have HVE : Hid (v = dV t.data.toList) := hide (by rw [HV.out, hke]; congr 1; exact List.take_of_length_le (by simp))
          have hk2 : ¬ (k : Int) < t.size := by omega
          have hp := p10_le k (by omega)
          clear hke
          go_wp2
          go_ret2
          exact ⟨_, true, rfl, rfl, by rw [HVE.out]; exact (by rw [HTD.out]; exact intA_ok H0.out)⟩
    · have hmb : ((s[0].toNat : Int) == 45) = false := by
        have : s[0].toNat ≠ 45 := fun e => hm (UInt8.toNat_inj.1 e)
        rw [beq_eq_false_iff_ne]; omega
      have HB : Hid (¬ (1 < s.data.toList.length ∧ s.data.toList[0]? = some 45)) := hide (fun h => by rw [bget s 0 (by omega)] at h; exact hm (by simpa using h.2))
      have ht1 : ¬ (s.size : Int) < 1 := by omega
      have ht0 : (0 : Int) < s.size := by omega
      clear hm
      by_cases h9 : 9 < s.size
      · have h9i : (9 : Int) < s.size := by omega
        go_enter Tryd.func9, Tryd.ntmps9
        go_wp2
        go_ret2
        exact ⟨0, false, rfl, rfl, intB_bad HB.out (.inr (.inl (by rw [hsz]; exact h9)))⟩
      have h9i : (s.size : Int) ≤ 9 := by omega
      by_cases hz : s[0] = 48
      · have hzb : ((s[0].toNat : Int) == 48) = true := by rw [hz]; rfl
        go_enter Tryd.func9, Tryd.ntmps9
        go_wp2
        all_goals (go_ret2; exact ⟨0, false, rfl, rfl, intB_bad HB.out (.inr (.inr (.inl ⟨by rw [bget s 0 (by omega), hz], by rw [hsz]; exact h1⟩)))⟩)
      have hzb : ((s[0].toNat : Int) == 48) = false := by
        have : s[0].toNat ≠ 48 := fun e => hz (UInt8.toNat_inj.1 e)
        rw [beq_eq_false_iff_ne]; omega
      go_enter Tryd.func9, Tryd.ntmps9
      go_wp2
      go_loop [5, 6] (fun nv iv => ∃ (k : Nat) (v : Int), k ≤ s.size ∧ iv = .int .i64 k ∧ nv = .int .i64 v ∧ 0 ≤ v ∧ v + 1 ≤ p10 k ∧ Hid (v = dV (s.data.toList.take k))) (fun _ iv => s.size - (intOf iv).toNat)
      case atStart => exact ⟨0, 0, Nat.zero_le _, rfl, rfl, Int.le_refl _, by decide, hide rfl⟩
      case round =>
        obtain ⟨k, v, hk, rfl, rfl, hv0, hv1, HV⟩ := hrel
        by_cases hlt : k < s.size
        · have hk1 : (0 : Int) ≤ k := by omega
          have hk2 : (k : Int) < s.size := by omega
          by_cases hd : 48 ≤ (s[k].toNat : Int) ∧ (s[k].toNat : Int) ≤ 57
          · have hp := p10_le k (by omega)
            have hdd := decide_eq_true hd
            have HP := hide (show p10 (k + 1) = 10 * p10 k from rfl)
            have HD := hide (btake s k hlt)
            obtain ⟨P, hP⟩ : ∃ P, p10 k = P := ⟨_, rfl⟩
            rw [hP] at hv1 hp HP
            obtain ⟨d, hdv⟩ : ∃ d : Int, (s[k].toNat : Int) = d := ⟨_, rfl⟩
            have HDV := hide hdv
            rw [hdv] at hd hdd
            obtain ⟨hd1, hd2⟩ := hd
            have CD := hide (s_dg d w)
            rw [hdd] at CD
            clear hP
            go_wp2_with (go_at_call 17; (try rw [hdv]); refine CD.out.mono ?_; rintro e w9 ⟨rfl, h9w⟩; rw [h9w]; clear h9w w9)
            go_round
            case rel => exact ⟨k + 1, v * 10 + (d - 48), by omega, by go_num, by first | rfl | go_num | (congr 1; omega), by omega, by rw [HP.out]; omega, hide (by rw [HD.out, dV_snoc, ← HV.out, HDV.out])⟩
            case measure => simp [intOf]; omega
          · have hdd := decide_eq_false hd
            have HNB : Hid (∃ b ∈ s.data.toList, ¬ (48 ≤ b.toNat ∧ b.toNat ≤ 57)) := hide ⟨s[k], bmem _ _ hlt, fun h => hd ⟨by omega, by omega⟩⟩
            obtain ⟨d, hdv⟩ : ∃ d : Int, (s[k].toNat : Int) = d := ⟨_, rfl⟩
            rw [hdv] at hd hdd
            have CD := hide (s_dg d w)
            rw [hdd] at CD
            clear hd
            go_wp2_with (go_at_call 17; (try rw [hdv]); refine CD.out.mono ?_; rintro e w9 ⟨rfl, h9w⟩; rw [h9w]; clear h9w w9)
            go_ret2
            exact ⟨0, false, rfl, rfl, intB_bad HB.out (.inr (.inr (.inr HNB.out)))⟩
        · have hke : k = s.size := by omega
          have HVE : Hid (v = dV s.data.toList) := hide (by rw [HV.out, hke]; congr 1; exact List.take_of_length_le (by simp))
          have hk2 : ¬ (k : Int) < s.size := by omega
          have hp := p10_le k (by omega)
          clear hke
          go_wp2
          go_ret2
          exact ⟨_, true, rfl, rfl, by rw [HVE.out]; exact intB_ok HB.out⟩
  · have h1i : ¬ (1 : Int) < s.size := by omega
    have HB : Hid (¬ (1 < s.data.toList.length ∧ s.data.toList[0]? = some 45)) := hide (fun h => by rw [hsz] at h; exact h1 h.1)
    by_cases h0 : s.size = 0
    · have ht1 : (s.size : Int) < 1 := by omega
      have HSZ := hide hsz
      have HZ := hide h0
      clear h0 hsz
      go_enter Tryd.func9, Tryd.ntmps9
      go_wp2
      go_ret2
      exact ⟨0, false, rfl, rfl, intB_bad HB.out (.inl (by rw [HSZ.out, HZ.out]; decide))⟩
    · have ht1 : ¬ (s.size : Int) < 1 := by omega
      have ht0 : (0 : Int) < s.size := by omega
      by_cases h9 : 9 < s.size
      · have h9i : (9 : Int) < s.size := by omega
        go_enter Tryd.func9, Tryd.ntmps9
        go_wp2
        go_ret2
        exact ⟨0, false, rfl, rfl, intB_bad HB.out (.inr (.inl (by rw [hsz]; exact h9)))⟩
      have h9i : (s.size : Int) ≤ 9 := by omega
      have hzc : ((s[0].toNat : Int) == 48) = false ∨ ((s[0].toNat : Int) == 48) = true := by cases ((s[0].toNat : Int) == 48) <;> simp
      rcases hzc with hzb | hzb
      · go_enter Tryd.func9, Tryd.ntmps9
        go_wp2
        go_loop [5, 6] (fun nv iv => ∃ (k : Nat) (v : Int), k ≤ s.size ∧ iv = .int .i64 k ∧ nv = .int .i64 v ∧ 0 ≤ v ∧ v + 1 ≤ p10 k ∧ Hid (v = dV (s.data.toList.take k))) (fun _ iv => s.size - (intOf iv).toNat)
        case atStart => exact ⟨0, 0, Nat.zero_le _, rfl, rfl, Int.le_refl _, by decide, hide rfl⟩
        case round =>
          obtain ⟨k, v, hk, rfl, rfl, hv0, hv1, HV⟩ := hrel
          by_cases hlt : k < s.size
          · have hk1 : (0 : Int) ≤ k := by omega
            have hk2 : (k : Int) < s.size := by omega
            by_cases hd : 48 ≤ (s[k].toNat : Int) ∧ (s[k].toNat : Int) ≤ 57
            · have hp := p10_le k (by omega)
              have hdd := decide_eq_true hd
              have HP := hide (show p10 (k + 1) = 10 * p10 k from rfl)
              have HD := hide (btake s k hlt)
              obtain ⟨P, hP⟩ : ∃ P, p10 k = P := ⟨_, rfl⟩
              rw [hP] at hv1 hp HP
              obtain ⟨d, hdv⟩ : ∃ d : Int, (s[k].toNat : Int) = d := ⟨_, rfl⟩
              have HDV := hide hdv
              rw [hdv] at hd hdd
              obtain ⟨hd1, hd2⟩ := hd
              have CD := hide (s_dg d w)
              rw [hdd] at CD
              clear hP
              go_wp2_with (go_at_call 17; (try rw [hdv]); refine CD.out.mono ?_; rintro e w9 ⟨rfl, h9w⟩; rw [h9w]; clear h9w w9)
              go_round
              case rel => exact ⟨k + 1, v * 10 + (d - 48), by omega, by go_num, by first | rfl | go_num | (congr 1; omega), by omega, by rw [HP.out]; omega, hide (by rw [HD.out, dV_snoc, ← HV.out, HDV.out])⟩
              case measure => simp [intOf]; omega
            · have hdd := decide_eq_false hd
              have HNB : Hid (∃ b ∈ s.data.toList, ¬ (48 ≤ b.toNat ∧ b.toNat ≤ 57)) := hide ⟨s[k], bmem _ _ hlt, fun h => hd ⟨by omega, by omega⟩⟩
              obtain ⟨d, hdv⟩ : ∃ d : Int, (s[k].toNat : Int) = d := ⟨_, rfl⟩
              rw [hdv] at hd hdd
              have CD := hide (s_dg d w)
              rw [hdd] at CD
              clear hd
              go_wp2_with (go_at_call 17; (try rw [hdv]); refine CD.out.mono ?_; rintro e w9 ⟨rfl, h9w⟩; rw [h9w]; clear h9w w9)
              go_ret2
              exact ⟨0, false, rfl, rfl, intB_bad HB.out (.inr (.inr (.inr HNB.out)))⟩
          · have hke : k = s.size := by omega
            have HVE : Hid (v = dV s.data.toList) := hide (by rw [HV.out, hke]; congr 1; exact List.take_of_length_le (by simp))
            have hk2 : ¬ (k : Int) < s.size := by omega
            have hp := p10_le k (by omega)
            clear hke
            go_wp2
            go_ret2
            exact ⟨_, true, rfl, rfl, by rw [HVE.out]; exact intB_ok HB.out⟩
      · go_enter Tryd.func9, Tryd.ntmps9
        go_wp2
        go_loop [5, 6] (fun nv iv => ∃ (k : Nat) (v : Int), k ≤ s.size ∧ iv = .int .i64 k ∧ nv = .int .i64 v ∧ 0 ≤ v ∧ v + 1 ≤ p10 k ∧ Hid (v = dV (s.data.toList.take k))) (fun _ iv => s.size - (intOf iv).toNat)
        case atStart => exact ⟨0, 0, Nat.zero_le _, rfl, rfl, Int.le_refl _, by decide, hide rfl⟩
        case round =>
          obtain ⟨k, v, hk, rfl, rfl, hv0, hv1, HV⟩ := hrel
          by_cases hlt : k < s.size
          · have hk1 : (0 : Int) ≤ k := by omega
            have hk2 : (k : Int) < s.size := by omega
            by_cases hd : 48 ≤ (s[k].toNat : Int) ∧ (s[k].toNat : Int) ≤ 57
            · have hp := p10_le k (by omega)
              have hdd := decide_eq_true hd
              have HP := hide (show p10 (k + 1) = 10 * p10 k from rfl)
              have HD := hide (btake s k hlt)
              obtain ⟨P, hP⟩ : ∃ P, p10 k = P := ⟨_, rfl⟩
              rw [hP] at hv1 hp HP
              obtain ⟨d, hdv⟩ : ∃ d : Int, (s[k].toNat : Int) = d := ⟨_, rfl⟩
              have HDV := hide hdv
              rw [hdv] at hd hdd
              obtain ⟨hd1, hd2⟩ := hd
              have CD := hide (s_dg d w)
              rw [hdd] at CD
              clear hP
              go_wp2_with (go_at_call 17; (try rw [hdv]); refine CD.out.mono ?_; rintro e w9 ⟨rfl, h9w⟩; rw [h9w]; clear h9w w9)
              go_round
              case rel => exact ⟨k + 1, v * 10 + (d - 48), by omega, by go_num, by first | rfl | go_num | (congr 1; omega), by omega, by rw [HP.out]; omega, hide (by rw [HD.out, dV_snoc, ← HV.out, HDV.out])⟩
              case measure => simp [intOf]; omega
            · have hdd := decide_eq_false hd
              have HNB : Hid (∃ b ∈ s.data.toList, ¬ (48 ≤ b.toNat ∧ b.toNat ≤ 57)) := hide ⟨s[k], bmem _ _ hlt, fun h => hd ⟨by omega, by omega⟩⟩
              obtain ⟨d, hdv⟩ : ∃ d : Int, (s[k].toNat : Int) = d := ⟨_, rfl⟩
              rw [hdv] at hd hdd
              have CD := hide (s_dg d w)
              rw [hdd] at CD
              clear hd
              go_wp2_with (go_at_call 17; (try rw [hdv]); refine CD.out.mono ?_; rintro e w9 ⟨rfl, h9w⟩; rw [h9w]; clear h9w w9)
              go_ret2
              exact ⟨0, false, rfl, rfl, intB_bad HB.out (.inr (.inr (.inr HNB.out)))⟩
          · have hke : k = s.size := by omega
            have HVE : Hid (v = dV s.data.toList) := hide (by rw [HV.out, hke]; congr 1; exact List.take_of_length_le (by simp))
            have hk2 : ¬ (k : Int) < s.size := by omega
            have hp := p10_le k (by omega)
            clear hke
            go_wp2
            go_ret2
            exact ⟨_, true, rfl, rfl, by rw [HVE.out]; exact intB_ok HB.out⟩
end Go.Proofs.YtdbipaobanjbbaaDoor
