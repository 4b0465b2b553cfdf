/-
  Texts put together: UnS, UnSS.
-/
import Derived.Test.YthcggdjkfebemaaGreatDoorB9
/-
  Contracts: what the specification takes a mark for.
-/
namespace Go.Proofs.YthcggdjkfebemaaGreatDoor
open Go.RowKit
set_option linter.unusedVariables false
set_option linter.unusedSimpArgs false
def digZ (c : Int) : Bool := decide (48 ≤ c ∧ c ≤ 57)
set_option maxHeartbeats 2000000 in
theorem s_digZ (c : Int) (w : World) : Calls Tryz.prog 113 #[.int .u8 c] w fun e w' => e = .returned (.bool (digZ c)) ∧ w' = w := by
  rcases (show c ≤ 47 ∨ (48 ≤ c ∧ c ≤ 57) ∨ 58 ≤ c by omega) with h | ⟨h, h'⟩ | h
  all_goals
    go_enter Tryz.func113, Tryz.ntmps113
    go_wp2
    go_ret
    exact ⟨ret_bool (by first | decide | (rw [Bool.eq_iff_iff]; simp only [digZ, Bool.or_eq_true, Bool.and_eq_true, decide_eq_true_eq, beq_iff_eq, true_iff, false_iff, iff_true, iff_false, Bool.false_eq_true]; omega)), rfl⟩
/-- What stands behind an &: the character, and how many bytes it takes. -/
def refT (t : List UInt8) : Option (List UInt8) := if (cut1 59 t).2.2 = true then refB (cut1 59 t).1 else none
def refN (t : List UInt8) : Nat := if (refT t).isSome = true then (cut1 59 t).1.length + 1 else 0
def refZ (R : Option (List UInt8)) (k : Nat) : Int := if R.isSome = true then (k : Int) + 1 else 0
theorem refZ_none (k : Nat) : refZ none k = 0 := rfl
theorem refZ_some (x : List UInt8) (k : Nat) : refZ (some x) k = (k : Int) + 1 := rfl
theorem refN_none {t : List UInt8} (h : refT t = none) : refN t = 0 := by unfold refN; rw [h]; rfl
theorem refT_open {t : List UInt8} (h : ∀ b ∈ t, b ≠ 59) : refT t = none := by unfold refT; rw [cut1_none 59 t h]; rfl
theorem refT_at {t : List UInt8} {k : Nat} (h : ∀ j, j < k → t[j]? ≠ some 59) (hk : t[k]? = some 59) : refT t = refB (t.take k) := by unfold refT; rw [cut1_at 59 t k h hk]; rfl
theorem refN_at {t : List UInt8} {k : Nat} (h : ∀ j, j < k → t[j]? ≠ some 59) (hk : t[k]? = some 59) (hl : k ≤ t.length) : (refN t : Int) = refZ (refT t) k := by
  unfold refN refZ
  rw [cut1_at 59 t k h hk]
  split
  · simp only [List.length_take, Nat.min_eq_left hl]; omega
  · rfl
theorem at_some {s : ByteArray} {k : Nat} (h : k < s.size) : s.data.toList[k]? = some s[k] := by
  have hl : k < s.data.toList.length := by rw [Array.length_toList]; exact h
  rw [List.getElem?_eq_getElem hl]
  rfl
theorem at_tail {M X : ByteArray} {c : UInt8} {j : Nat} (h : M.data.toList = c :: X.data.toList) (hj : j < X.size) (hk : j + 1 < M.size) : M[j + 1] = X[j] := by
  have h1 := at_some hk
  rw [h, List.getElem?_cons_succ, at_some hj] at h1
  exact (Option.some.inj h1).symm
theorem at_head {M X : ByteArray} {c : UInt8} (h : M.data.toList = c :: X.data.toList) (hk : 0 < M.size) : M[0] = c := by
  have h1 := at_some hk
  rw [h, List.getElem?_cons_zero] at h1
  exact (Option.some.inj h1).symm
theorem head_ne {M : ByteArray} (hk : 0 < M.size) (h : M[0] ≠ 35) : ∀ c ds, M.data.toList = c :: ds → c ≠ 35 := by
  intro c ds hm e
  have h1 := at_some hk
  rw [hm, List.getElem?_cons_zero] at h1
  exact h ((Option.some.inj h1).symm.trans e)
theorem head_is {M : ByteArray} (hk : 0 < M.size) (h : M[0] = 35) : M.data.toList = 35 :: (M.extract 1 M.size).data.toList := by
  rw [ex_tail]
  have h1 := drop_next (s := M) (k := 0) hk
  rw [List.drop_zero, h] at h1
  exact h1
theorem refB_short {M : ByteArray} (h1 : M.data.toList ≠ [97, 109, 112]) (h2 : M.data.toList ≠ [108, 116]) (h3 : M.data.toList ≠ [103, 116]) (h4 : M.data.toList ≠ [113, 117, 111, 116]) (h5 : M.data.toList ≠ [97, 112, 111, 115]) (h : M.size < 2) : refB M.data.toList = none := by
  by_cases h0 : 0 < M.size
  · by_cases hc : M[0] = 35
    · have hh := head_is h0 hc
      have hz : (M.extract 1 M.size).data.toList = [] := by
        rw [ex_tail]; exact drop_all (by omega)
      rw [hh, hz]
      exact refD_doc (ds := []) (v := 0) rfl (by decide)
    · exact refB_none h1 h2 h3 h4 h5 (head_ne h0 hc)
  · exact refB_none h1 h2 h3 h4 h5 (hash_nil (by omega))
theorem no59 {s : ByteArray} (h : ∀ j (h : j < s.size), s[j] ≠ 59) : ∀ b ∈ s.data.toList, b ≠ 59 := by
  intro b hb e
  obtain ⟨j, hj, hq⟩ := List.mem_iff_getElem.1 hb
  have hj2 : j < s.size := by rw [Array.length_toList] at hj; exact hj
  exact h j hj2 (by rw [← e, ← hq]; rfl)
theorem no59k {s : ByteArray} {k : Nat} (hk : k ≤ s.size) (h : ∀ j (h : j < s.size), j < k → s[j] ≠ 59) : ∀ j, j < k → s.data.toList[j]? ≠ some 59 := by
  intro j hj e
  rw [at_some (by omega)] at e
  exact h j (by omega) hj (Option.some.inj e)
set_option maxHeartbeats 8000000 in
set_option maxRecDepth 100000 in
theorem s_ref (t : ByteArray) (ht : t.size ≤ 1048576) (w : World) :
    Calls Tryz.prog 114 #[.string t] w fun e w' => e = .returned (.tuple #[.string (strO (refT t.data.toList)), .int .i64 (refN t.data.toList)]) ∧ Below w.heap.size w w' := by
  obtain ⟨R, hR⟩ : ∃ R, refT t.data.toList = R := ⟨_, rfl⟩
  obtain ⟨N, hN⟩ : ∃ N : Int, (refN t.data.toList : Int) = N := ⟨_, rfl⟩
  have HR := hide hR
  have HN := hide hN
  rw [hR, hN]
  clear hR hN
  go_enter Tryz.func114, Tryz.ntmps114
  go_wp2
  go_loop [4] (fun iv => ∃ k : Nat, k ≤ t.size ∧ iv = .int .i64 k ∧ Hid (∀ j (h : j < t.size), j < k → t[j] ≠ 59)) (fun iv => t.size - (intOf iv).toNat)
  case atStart => exact ⟨0, Nat.zero_le _, rfl, hide (fun j h b => by omega)⟩
  case round =>
    obtain ⟨k, hk, rfl, HJ⟩ := hrel
    by_cases hlt : k < t.size
    · by_cases h59 : (t[k].toNat : Int) = 59
      · have f59 : ((t[k].toNat : Int) != 59) = false := by simp [h59]
        have h59b : t[k] = 59 := u8i.1 h59
        have hA := at_some hlt
        rw [h59b] at hA
        have hB := no59k hk HJ.out
        have hll : k ≤ t.data.toList.length := by rw [Array.length_toList]; exact hk
        have hRk := HR.out
        rw [refT_at hB hA] at hRk
        have hNk := HN.out
        rw [refN_at hB hA hll, HR.out] at hNk
        have hkt : ((k : Int) == (t.size : Int)) = false := by rw [beq_eq_false_iff_ne]; omega
        obtain ⟨M, hM⟩ : ∃ M, t.extract 0 k = M := ⟨_, rfl⟩
        have hMl : M.data.toList = t.data.toList.take k := by rw [← hM, ex_list]; simp
        have hMs : M.size = k := by
          have h : M.data.toList.length = M.size := Array.length_toList
          rw [← h, hMl, take_len hk]
        rw [← hMl] at hRk
        clear HJ h59 h59b hA hB hll
        by_cases h8 : 8 < k
        · have h81 : 8 < (k : Int) := by omega
          have HV : Hid (R = none ∧ N = 0) := hide (by
            have hl : M.data.toList.length = M.size := Array.length_toList
            have e : R = none := by rw [← hRk, refB_long (by omega)]
            exact ⟨e, by rw [← hNk, e]; rfl⟩)
          clear hMl hMs hRk hNk
          go_wp2
          go_ret2
          exact ⟨un_ret2 (by rw [HV.out.1]; rfl) HV.out.2.symm, Below.refl _ _⟩
        · have h81 : (k : Int) ≤ 8 := by omega
          have hm8 : M.size ≤ 8 := by omega
          have HMS := hide hMs
          clear hMl hMs h8
          by_cases h1 : M.data.toList = [97, 109, 112]
          · have HV : Hid (R = some [38] ∧ N = (k : Int) + 1) := hide (by
              have e : R = some [38] := by rw [← hRk, h1]; rfl
              exact ⟨e, by rw [← hNk, e]; rfl⟩)
            have f1 := eq_lit h1
            clear h1 hRk hNk
            go_wp2
            go_ret2
            exact ⟨un_ret2 (by rw [HV.out.1]; rfl) HV.out.2.symm, Below.refl _ _⟩
          by_cases h2 : M.data.toList = [108, 116]
          · have HV : Hid (R = some [60] ∧ N = (k : Int) + 1) := hide (by
              have e : R = some [60] := by rw [← hRk, h2]; rfl
              exact ⟨e, by rw [← hNk, e]; rfl⟩)
            have f1 := ne_lit h1
            have f2 := eq_lit h2
            clear h1 h2 hRk hNk
            go_wp2
            go_ret2
            exact ⟨un_ret2 (by rw [HV.out.1]; rfl) HV.out.2.symm, Below.refl _ _⟩
          by_cases h3 : M.data.toList = [103, 116]
          · have HV : Hid (R = some [62] ∧ N = (k : Int) + 1) := hide (by
              have e : R = some [62] := by rw [← hRk, h3]; rfl
              exact ⟨e, by rw [← hNk, e]; rfl⟩)
            have f1 := ne_lit h1
            have f2 := ne_lit h2
            have f3 := eq_lit h3
            clear h1 h2 h3 hRk hNk
            go_wp2
            go_ret2
            exact ⟨un_ret2 (by rw [HV.out.1]; rfl) HV.out.2.symm, Below.refl _ _⟩
          by_cases h4 : M.data.toList = [113, 117, 111, 116]
          · have HV : Hid (R = some [34] ∧ N = (k : Int) + 1) := hide (by
              have e : R = some [34] := by rw [← hRk, h4]; rfl
              exact ⟨e, by rw [← hNk, e]; rfl⟩)
            have f1 := ne_lit h1
            have f2 := ne_lit h2
            have f3 := ne_lit h3
            have f4 := eq_lit h4
            clear h1 h2 h3 h4 hRk hNk
            go_wp2
            go_ret2
            exact ⟨un_ret2 (by rw [HV.out.1]; rfl) HV.out.2.symm, Below.refl _ _⟩
          by_cases h5 : M.data.toList = [97, 112, 111, 115]
          · have HV : Hid (R = some [39] ∧ N = (k : Int) + 1) := hide (by
              have e : R = some [39] := by rw [← hRk, h5]; rfl
              exact ⟨e, by rw [← hNk, e]; rfl⟩)
            have f1 := ne_lit h1
            have f2 := ne_lit h2
            have f3 := ne_lit h3
            have f4 := ne_lit h4
            have f5 := eq_lit h5
            clear h1 h2 h3 h4 h5 hRk hNk
            go_wp2
            go_ret2
            exact ⟨un_ret2 (by rw [HV.out.1]; rfl) HV.out.2.symm, Below.refl _ _⟩
          have f1 := ne_lit h1
          have f2 := ne_lit h2
          have f3 := ne_lit h3
          have f4 := ne_lit h4
          have f5 := ne_lit h5
          by_cases h6 : M.size < 2
          · have h61 : (M.size : Int) < 2 := by omega
            have HV : Hid (R = none ∧ N = 0) := hide (by
              have e : R = none := by rw [← hRk, refB_short h1 h2 h3 h4 h5 h6]
              exact ⟨e, by rw [← hNk, e]; rfl⟩)
            clear h1 h2 h3 h4 h5 hRk hNk h6
            go_wp2
            go_ret2
            exact ⟨un_ret2 (by rw [HV.out.1]; rfl) HV.out.2.symm, Below.refl _ _⟩
          have h61 : 2 ≤ (M.size : Int) := by omega
          have h0 : 0 < M.size := by omega
          by_cases h35 : (M[0].toNat : Int) = 35
          · have f35 : ((M[0].toNat : Int) != 35) = false := by simp [h35]
            have hy := head_is h0 (u8i.1 h35)
            obtain ⟨X, hX⟩ : ∃ X, M.extract 1 M.size = X := ⟨_, rfl⟩
            rw [hX] at hy
            have hXs : X.size + 1 = M.size := by
              have h : M.data.toList.length = M.size := Array.length_toList
              have h' : X.data.toList.length = X.size := Array.length_toList
              rw [← h, hy]; simp [h']
            have hxl : X.data.toList.length = X.size := Array.length_toList
            rw [hy, refB_hash (by omega)] at hRk
            have HY := hide hy
            have HXS := hide hXs
            have HRk := hide hRk
            have HNk := hide hNk
            have hxm : X.size < M.size := by omega
            have hmx : M.size ≤ X.size + 1 := by omega
            clear h1 h2 h3 h4 h5 h35 hy hXs hxl hRk hNk h6 hX
            go_wp2
            go_loop [6, 7] (fun nv iv => ∃ (j v : Nat), j ≤ X.size ∧ iv = .int .i64 ((j : Int) + 1) ∧ nv = .int .i64 v ∧ v ≤ 9999999 ∧ Hid ((X.data.toList.take j).all digB = true ∧ numA 0 (X.data.toList.take j) = v)) (fun _ iv => M.size - (intOf iv).toNat)
            case atStart => exact ⟨0, 0, Nat.zero_le _, rfl, rfl, by omega, hide ⟨rfl, rfl⟩⟩
            case round =>
              obtain ⟨j, v, hj, rfl, rfl, hv, HV⟩ := hrel
              by_cases hjl : j < X.size
              · have hj1 : (j : Int) + 1 < (M.size : Int) := by omega
                have hj2 : j + 1 < M.size := by omega
                have HE := hide (at_tail HY.out hjl hj2)
                obtain ⟨c, hc⟩ : ∃ c, M[j + 1] = c := ⟨_, rfl⟩
                have HC := hide (HE.out.symm.trans hc)
                cases hd : digZ (c.toNat : Int)
                · have HW : Hid (R = none ∧ N = 0) := hide (by
                    have h := of_decide_eq_false hd
                    have e : R = none := by rw [← HRk.out]; exact refD_bad (at_mem hjl) (dig_no (by rw [HC.out]; omega))
                    exact ⟨e, by rw [← HNk.out, e]; rfl⟩)
                  go_wp2_with (go_at_call 113; refine (s_digZ _ _).mono ?_; rintro e w' ⟨rfl, rfl⟩)
                  go_ret2
                  exact ⟨un_ret2 (by rw [HW.out.1]; rfl) HW.out.2.symm, Below.refl _ _⟩
                · have h := of_decide_eq_true hd
                  obtain ⟨h3, h4⟩ := h
                  go_wp2_with (go_at_call 113; refine (s_digZ _ _).mono ?_; rintro e w' ⟨rfl, rfl⟩)
                  go_round
                  case rel =>
                    have hD := dig_yes h3 h4
                    have ha := all_next HV.out.1 hD
                    have hn := num_next (X.data.toList.take j) c
                    have htn := take_next hjl
                    rw [HC.out] at htn
                    rw [← htn] at ha hn
                    rw [HV.out.2] at hn
                    have hb := num_bd ha (by rw [take_len (by omega)]; omega)
                    rw [hn] at hb
                    exact ⟨j + 1, v * 10 + (c.toNat - 48), by omega, congrArg (Value.int .i64) (by omega), congrArg (Value.int .i64) (by omega), hb, hide ⟨ha, hn⟩⟩
                  case measure => simp [intOf]; omega
              · have hj1 : (M.size : Int) ≤ (j : Int) + 1 := by omega
                have HT : Hid ((X.data.toList).all digB = true ∧ numA 0 (X.data.toList) = v) := hide (by have h := HV.out; rw [take_all (by omega)] at h; exact h)
                cases hc : docB (v : Int)
                · have HW : Hid (R = none ∧ N = 0) := hide (by
                    have e : R = none := by rw [← HRk.out]; exact refD_doc HT.out.2 hc
                    exact ⟨e, by rw [← HNk.out, e]; rfl⟩)
                  go_wp2_with (go_at_call 64; refine (s_doc _ _).mono ?_; rintro e w' ⟨rfl, rfl⟩)
                  go_ret2
                  exact ⟨un_ret2 (by rw [HW.out.1]; rfl) HW.out.2.symm, Below.refl _ _⟩
                · have HW : Hid (R = some (encL v) ∧ N = (k : Int) + 1) := hide (by
                    have e : R = some (encL v) := by rw [← HRk.out]; exact refD_yes HT.out.2 HT.out.1 hc
                    exact ⟨e, by rw [← HNk.out, e]; rfl⟩)
                  have HEn := hide (fun (w : World) => s_enc v w hc)
                  go_wp2_with (first | (go_at_call 64; refine (s_doc _ _).mono ?_; rintro e w' ⟨rfl, rfl⟩) | (go_at_call 129; refine (HEn.out _).mono ?_; rintro e w2 ⟨rfl, hb2⟩; have HB2 := hide hb2; clear hb2))
                  go_ret2
                  exact ⟨un_ret2 (by rw [HW.out.1]; rfl) HW.out.2.symm, HB2.out⟩
          · have f35 : ((M[0].toNat : Int) != 35) = true := by simpa using h35
            have HV : Hid (R = none ∧ N = 0) := hide (by
              have e : R = none := by rw [← hRk, refB_none h1 h2 h3 h4 h5 (head_ne h0 (fun e => h35 (by rw [e]; rfl)))]
              exact ⟨e, by rw [← hNk, e]; rfl⟩)
            clear h1 h2 h3 h4 h5 hRk hNk h6 h35
            go_wp2
            go_ret2
            exact ⟨un_ret2 (by rw [HV.out.1]; rfl) HV.out.2.symm, Below.refl _ _⟩
      · have f59 : ((t[k].toNat : Int) != 59) = true := by simpa using h59
        have HX : Hid (t[k] ≠ 59) := hide (fun e => h59 (by rw [e]; rfl))
        clear h59
        go_wp2
        go_round
        case rel =>
          refine ⟨k + 1, by omega, by go_num, hide (fun j h b => ?_)⟩
          by_cases e : j = k
          · subst e; exact HX.out
          · exact HJ.out j h (by omega)
        case measure => simp [intOf]; omega
    · have hkn : k = t.size := by omega
      subst hkn
      have HV : Hid (R = none ∧ N = 0) := hide (by
        have e : refT t.data.toList = none := refT_open (no59 (fun j h => HJ.out j h h))
        exact ⟨HR.out.symm.trans e, by rw [← HN.out, refN_none e]; rfl⟩)
      go_wp2
      go_ret2
      exact ⟨un_ret2 (by rw [HV.out.1]; rfl) HV.out.2.symm, Below.refl _ _⟩
end Go.Proofs.YthcggdjkfebemaaGreatDoor

/-
  Contracts: the specification's Unescape.
-/
namespace Go.Proofs.YthcggdjkfebemaaGreatDoor
open Go.RowKit
set_option linter.unusedVariables false
set_option linter.unusedSimpArgs false
def unOk (s : ByteArray) : Bool := plainB s && (unesc s.data.toList).isSome
def unV (s : ByteArray) : ByteArray := if plainB s = true then strO (unesc s.data.toList) else ⟨#[]⟩
theorem unV_no {s : ByteArray} (h : plainB s = false) : unV s = ⟨#[]⟩ ∧ unOk s = false := by unfold unV unOk; rw [h]; exact ⟨rfl, rfl⟩
theorem unV_yes {s : ByteArray} (h : plainB s = true) : unV s = strO (unesc s.data.toList) ∧ unOk s = (unesc s.data.toList).isSome := by unfold unV unOk; rw [h]; exact ⟨rfl, rfl⟩
theorem un_fail {s : ByteArray} (h : plainB s = true) (hn : unesc s.data.toList = none) : unV s = ⟨#[]⟩ ∧ unOk s = false := by
  rw [(unV_yes h).1, (unV_yes h).2, hn]; exact ⟨rfl, rfl⟩
theorem un_done {s : ByteArray} {l : List UInt8} (h : plainB s = true) (hn : unesc s.data.toList = some l) : unV s = ⟨l.toArray⟩ ∧ unOk s = true := by
  rw [(unV_yes h).1, (unV_yes h).2, hn]; exact ⟨rfl, rfl⟩
theorem app_list (a b : ByteArray) : (a ++ b).data.toList = a.data.toList ++ b.data.toList := by simp
theorem size_list (a : ByteArray) : a.data.toList.length = a.size := Array.length_toList
theorem map_app {o : Option (List UInt8)} {u : List UInt8} (a b : List UInt8) (h : u = a ++ b) : (o.map (b ++ ·)).map (a ++ ·) = o.map (u ++ ·) := by
  subst h
  rw [Option.map_map]
  congr 1
  funext x
  simp
theorem ba_of {a : ByteArray} {l : List UInt8} (h : a.data.toList = l) : a = ⟨l.toArray⟩ := by
  subst h
  cases a
  simp
theorem drop_cut {t a r : List UInt8} (h : t = a ++ 59 :: r) : t.drop (a.length + 1) = r := by
  subst h
  rw [show a ++ 59 :: r = (a ++ [59]) ++ r by simp, List.drop_left' (by simp)]
theorem refT_some {t x : List UInt8} (h : refT t = some x) : (cut1 59 t).2.2 = true ∧ refB (cut1 59 t).1 = some x ∧ refN t = (cut1 59 t).1.length + 1 := by
  have hN : refN t = (cut1 59 t).1.length + 1 := by unfold refN; rw [h]; rfl
  unfold refT at h
  split at h
  · rename_i h1; exact ⟨h1, h, hN⟩
  · cases h
theorem refT_none {t : List UInt8} (h : refT t = none) : unesc (38 :: t) = none := by
  unfold refT at h
  split at h
  · exact unesc_bad h
  · rename_i h1; exact unesc_open (by simpa using h1)
set_option maxHeartbeats 8000000 in
set_option maxRecDepth 100000 in
theorem s_unescape (s : ByteArray) (w : World) (hs : s.size ≤ 1048576) :
    Calls Tryz.prog 91 #[.string s] w fun e w' => e = .returned (.tuple #[.string (unV s), .bool (unOk s)]) ∧ Below w.heap.size w w' := by
  have CP := hide (s_text s w hs)
  cases hp : plainB s
  · have HV := hide (unV_no hp)
    rw [hp] at CP
    go_enter Tryz.func91, Tryz.ntmps91
    go_wp2_with (go_at_call 32; refine CP.out.mono ?_; rintro e w1 ⟨rfl, hb1⟩; have HB := hide hb1; clear hb1)
    go_ret2
    exact ⟨un_ret HV.out.1.symm HV.out.2.symm, HB.out⟩
  · have HP := hide hp
    rw [hp] at CP
    clear hp
    go_enter Tryz.func91, Tryz.ntmps91
    go_wp2_with (go_at_call 32; refine CP.out.mono ?_; rintro e w1 ⟨rfl, hb1⟩; have HB := hide hb1; clear hb1)
    go_loopw [4, 5] (fun ov iv wr => ∃ (k : Nat) (o : ByteArray), k ≤ s.size ∧ iv = .int .i64 k ∧ ov = .string o ∧ o.size ≤ k ∧ Hid (Below w.heap.size w wr) ∧ Hid (unesc s.data.toList = (unesc (s.data.toList.drop k)).map (o.data.toList ++ ·))) (fun _ iv _ => s.size - (intOf iv).toNat)
    case atStart => exact ⟨0, ⟨#[]⟩, Nat.zero_le _, rfl, rfl, Nat.le_refl _, hide HB.out, hide (by simp)⟩
    case round =>
      obtain ⟨k, o, hk, rfl, rfl, ho, HBr, HU⟩ := hrel
      by_cases hlt : k < s.size
      · have hdn := drop_next hlt
        by_cases h60 : (s[k].toNat : Int) = 60
        · have f60 : ((s[k].toNat : Int) == 60) = true := by simp [h60]
          have HV := hide (un_fail HP.out (by rw [HU.out, hdn, (u8i (c := 60)).1 h60, unesc_lt]; rfl))
          clear h60 hdn
          go_wp2
          go_ret2
          exact ⟨un_ret HV.out.1.symm HV.out.2.symm, HBr.out⟩
        · have f60 : ((s[k].toNat : Int) == 60) = false := by simpa using h60
          have n60 : s[k] ≠ 60 := fun e => h60 (by rw [e]; rfl)
          by_cases h38 : (s[k].toNat : Int) = 38
          · have f38 : ((s[k].toNat : Int) != 38) = false := by simp [h38]
            have e38 := (u8i (c := 38)).1 h38
            rw [e38] at hdn
            obtain ⟨X, hX⟩ : ∃ X, s.extract (k + 1) s.size = X := ⟨_, rfl⟩
            have hXl : X.data.toList = s.data.toList.drop (k + 1) := by rw [← hX, ex_tail]
            have hXs : X.size + (k + 1) = s.size := by
              rw [← size_list X, hXl, List.length_drop, size_list]; omega
            have hX1 : X.size ≤ 1048576 := by omega
            have CR := hide (fun (w : World) => s_ref X hX1 w)
            rw [← hXl] at hdn
            cases hr : refT X.data.toList with
            | none =>
              have HV := hide (un_fail HP.out (by rw [HU.out, hdn, refT_none hr]; rfl))
              rw [hr, refN_none hr] at CR
              clear h60 hdn n60 h38 e38 hXl hXs hr
              go_wp2_with (go_at_call 114; refine (CR.out _).mono ?_; rintro e w2 ⟨rfl, hb2⟩; have HB2 := hide (HBr.out.trans (hb2.mono HBr.out.size)); clear hb2)
              go_ret2
              exact ⟨un_ret HV.out.1.symm HV.out.2.symm, HB2.out⟩
            | some x =>
              obtain ⟨g1, g2, g3⟩ := refT_some hr
              have hb := refB_len g2
              have hc := cut1_yes 59 X.data.toList g1
              have hcl := congrArg List.length hc
              rw [List.length_append, List.length_cons, size_list] at hcl
              have hdr : s.data.toList.drop (k + 1 + refN X.data.toList) = (cut1 59 X.data.toList).2.1 := by
                rw [← List.drop_drop, ← hXl, g3]
                exact drop_cut hc
              have hu := HU.out
              rw [hdn, unesc_ref g1 g2, ← hdr] at hu
              obtain ⟨n, hn⟩ : ∃ n, refN X.data.toList = n := ⟨_, rfl⟩
              rw [hn] at hdr hu g3
              rw [hr, hn] at CR
              have hn0 : ((n : Int) == 0) = false := by rw [beq_eq_false_iff_ne]; omega
              have hn1 : k + 1 + n ≤ s.size := by omega
              obtain ⟨Y, hY⟩ : ∃ Y : ByteArray, strO (some x) = Y := ⟨_, rfl⟩
              have hYl : Y.data.toList = x := by rw [← hY]; simp [strO]
              have hYs : Y.size = x.length := by rw [← size_list, hYl]
              have hY1 : Y.size ≤ n + 1 := by omega
              have HN : Hid (unesc s.data.toList = (unesc (s.data.toList.drop (k + 1 + n))).map ((o ++ Y).data.toList ++ ·)) := hide (by
                rw [hu]; exact map_app _ _ (by rw [app_list, hYl]))
              rw [hY] at CR
              clear h60 hdn n60 h38 e38 hXl hXs hr hu hdr hcl hc hb g1 g2 g3 hn hYl hYs hY
              go_wp2_with (go_at_call 114; refine (CR.out _).mono ?_; rintro e w2 ⟨rfl, hb2⟩; have HB2 := hide (HBr.out.trans (hb2.mono HBr.out.size)); clear hb2)
              go_roundw
              case rel => exact ⟨k + 1 + n, o ++ Y, by omega, by go_num, rfl, by rw [ByteArray.size_append]; omega, hide HB2.out, HN⟩
              case measure => simp [intOf]; omega
          · have f38 : ((s[k].toNat : Int) != 38) = true := by simpa using h38
            have n38 : s[k] ≠ 38 := fun e => h38 (by rw [e]; rfl)
            obtain ⟨Y, hY⟩ : ∃ Y : ByteArray, s.extract k (k + 1) = Y := ⟨_, rfl⟩
            have hYl : Y.data.toList = [s[k]] := by
              rw [← hY, ex_list, take_next hlt, List.drop_append, take_len (by omega)]
              simp
            have hY1 : Y.size ≤ 1 := by rw [← size_list, hYl]; simp
            have HN : Hid (unesc s.data.toList = (unesc (s.data.toList.drop (k + 1))).map ((o ++ Y).data.toList ++ ·)) := hide (by
              rw [HU.out, hdn, unesc_chr _ n60 n38]; exact map_app _ [s[k]] (by rw [app_list, hYl]))
            have hsl := fun wx => slice_mid s k hlt wx
            rw [hY] at hsl
            clear h60 hdn n60 h38 n38 hYl hY
            go_wp2
            go_roundw
            case rel => exact ⟨k + 1, o ++ Y, by omega, by go_num, rfl, by rw [ByteArray.size_append]; omega, HBr, HN⟩
            case measure => simp [intOf]; omega
      · have HV := hide (un_done (l := o.data.toList) HP.out (by rw [HU.out, drop_all (by omega), unesc_nil]; simp))
        go_wp2
        go_ret2
        exact ⟨un_ret ((ba_of (a := o) rfl).trans HV.out.1.symm) HV.out.2.symm, HBr.out⟩
end Go.Proofs.YthcggdjkfebemaaGreatDoor
