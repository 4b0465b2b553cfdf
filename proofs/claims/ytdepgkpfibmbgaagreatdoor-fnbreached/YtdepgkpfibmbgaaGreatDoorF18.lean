/-
  Texts put together: FdS, PtW.
-/
import Derived.Test.YtdepgkpfibmbgaaGreatDoorF4
import Derived.Test.YtdepgkpfibmbgaaGreatDoorF5
import Derived.Test.YtdepgkpfibmbgaaGreatDoorF6
/-
  Contract: what a field tells, by the specification.
-/
namespace Go.Proofs.YtdepgkpfibmbgaaGreatDoor
open Go.RowKit
set_option linter.unusedVariables false
set_option linter.unusedSimpArgs false
/-- What a field is told as by the specification: the path to an element, the attribute, whether it is one. -/
def FieldAns (s : ByteArray) (w : World) (e : Ending) (w' : World) : Prop := Below w.heap.size w w' ∧
  ∃ U A : ByteArray, e = .returned (.tuple #[.string U, .string A, .bool (fld s.data.toList).isSome]) ∧
    ∀ x, fld s.data.toList = some x → A.data.toList = x.2 ∧ U.size ≤ s.size ∧ ((x.1 = [] ∧ U.size = 0) ∨ (pathF U.data.toList = true ∧ sg [] U.data.toList = x.1))
theorem dot_cmp (s : ByteArray) : (s.toList == [46]) = decide (s.data.toList = [46]) := by
  rw [ByteArray.toList_eq]
  cases h : s.data.toList == [46]
  · rw [eq_comm, decide_eq_false_iff_not]; intro e; rw [e] at h; simp at h
  · rw [eq_comm, decide_eq_true_iff]; simpa using h
theorem get_byte (s : ByteArray) (k : Nat) (h : k < s.size) (c : UInt8) : s.data.toList[k]? = some c ↔ s[k] = c := by
  rw [byte_get s k h, Option.some.injEq]
theorem ex_from (s : ByteArray) (a : Nat) : (s.extract a s.size).data.toList = s.data.toList.drop a := by
  rw [Lib.extract_to_end]
theorem ex_to (s : ByteArray) (b : Nat) : (s.extract 0 b).data.toList = s.data.toList.take b := by
  rw [Lib.extract_from_zero]
section
variable {s : ByteArray} {w w' : World}
theorem fa_dot (h : s.data.toList = [46]) : FieldAns s w (.returned (.tuple #[.string ⟨#[]⟩, .string ⟨#[]⟩, .bool true])) w := by
  refine ⟨Below.refl _ _, ⟨#[]⟩, ⟨#[]⟩, by rw [h, fld_dot]; rfl, fun x hx => ?_⟩
  rw [h, fld_dot] at hx
  cases hx
  exact ⟨rfl, Nat.zero_le _, .inl ⟨rfl, rfl⟩⟩
theorem fa_no (hb : Below w.heap.size w w') (h : fld s.data.toList = none) (U A : ByteArray) : FieldAns s w (.returned (.tuple #[.string U, .string A, .bool false])) w' :=
  ⟨hb, U, A, by rw [h]; rfl, fun x hx => by rw [h] at hx; cases hx⟩
theorem fa_down (hb : Below w.heap.size w w') (h0 : s.data.toList ≠ [46]) (h : LastA s.data.toList s.data.toList.length (-1)) : FieldAns s w (.returned (.tuple #[.string s, .string ⟨#[]⟩, .bool (pathF s.data.toList)])) w' := by
  have hc := last_none h
  have hf := fld_down h0 (by rw [hc])
  refine ⟨hb, s, ⟨#[]⟩, ?_, fun x hx => ?_⟩
  · rw [hf]
    cases pathF s.data.toList <;> rfl
  · rw [hf] at hx
    split at hx
    · rename_i hp
      cases hx
      exact ⟨rfl, Nat.le_refl _, .inr ⟨hp, rfl⟩⟩
    · cases hx
theorem fa_name (hb : Below w.heap.size w w') {n : Nat} (h : LastA s.data.toList s.data.toList.length n) (hn : nameB (s.extract (n + 1) s.size) = false) : fld s.data.toList = none := by
  rw [fld_last h]
  unfold fldS
  rw [if_neg]
  rw [← ex_from, nameL_data, hn]
  decide
theorem fa_here (hb : Below w.heap.size w w') (h : LastA s.data.toList s.data.toList.length (0 : Nat)) (hn : nameB (s.extract 1 s.size) = true) : FieldAns s w (.returned (.tuple #[.string ⟨#[]⟩, .string (s.extract 1 s.size), .bool true])) w' := by
  have hf := fld_last h
  unfold fldS at hf
  rw [if_pos (by rw [← ex_from, nameL_data]; exact hn), if_pos rfl] at hf
  refine ⟨hb, ⟨#[]⟩, s.extract 1 s.size, by rw [hf]; rfl, fun x hx => ?_⟩
  rw [hf] at hx
  cases hx
  exact ⟨ex_from s 1, Nat.zero_le _, .inl ⟨rfl, rfl⟩⟩
theorem fa_bare {n : Nat} (h : LastA s.data.toList s.data.toList.length n) (h0 : n ≠ 0) (hk : n - 1 < s.size) (hn : nameB (s.extract (n + 1) s.size) = true) (h7 : s[n - 1] ≠ 47) : fld s.data.toList = none := by
  rw [fld_last h]
  unfold fldS
  rw [if_pos (by rw [← ex_from, nameL_data]; exact hn), if_neg h0, if_neg]
  rw [get_byte s _ hk]
  exact h7
theorem fa_up (hb : Below w.heap.size w w') {n : Nat} (h : LastA s.data.toList s.data.toList.length n) (h0 : n ≠ 0) (hk : n - 1 < s.size) (hn : nameB (s.extract (n + 1) s.size) = true) (h7 : s[n - 1] = 47) :
    FieldAns s w (.returned (.tuple #[.string (s.extract 0 (n - 1)), .string (s.extract (n + 1) s.size), .bool (pathF (s.extract 0 (n - 1)).data.toList)])) w' := by
  have hf := fld_last h
  unfold fldS at hf
  rw [if_pos (by rw [← ex_from, nameL_data]; exact hn), if_neg h0, if_pos (by rw [get_byte s _ hk]; exact h7)] at hf
  have e := ex_to s (n - 1)
  refine ⟨hb, s.extract 0 (n - 1), s.extract (n + 1) s.size, ?_, fun x hx => ?_⟩
  · rw [hf, e]
    cases pathF (s.data.toList.take (n - 1)) <;> rfl
  · rw [hf] at hx
    split at hx
    · rename_i hp
      cases hx
      refine ⟨ex_from s _, ?_, .inr ⟨by rw [e]; exact hp, by rw [e]⟩⟩
      rw [ByteArray.size_extract]; omega
    · cases hx
end
/-- The names' answer, as a field asks it. -/
theorem s_stepsF (s : ByteArray) (w : World) (hs : s.size ≤ 1048576) : Calls Tryz.prog 74 #[.string s] w fun e w' => Below w.heap.size w w' ∧ ∃ sl d o, e = .returned (.tuple #[sl, .bool d, .bool o]) ∧ (o && !d) = pathF s.data.toList := by
  refine (s_steps s w hs).mono ?_
  rintro e w' ⟨hb, h⟩
  refine ⟨hb, ?_⟩
  have hp := pathF_steps s
  rcases h with ⟨ha, ad, c, rfl, -⟩ | ⟨ha, rfl⟩
  · rw [ha] at hp
    exact ⟨_, _, _, rfl, by rw [← hp]; simp⟩
  · rw [ha] at hp
    exact ⟨_, _, _, rfl, by rw [← hp]; rfl⟩
set_option maxRecDepth 100000 in
set_option maxHeartbeats 4000000 in
theorem s_field (s : ByteArray) (w : World) (hs : s.size ≤ 1048576) : Calls Tryz.prog 40 #[.string s] w (FieldAns s w) := by
  have hdc := dot_cmp s
  by_cases hd : s.data.toList = [46]
  · rw [decide_eq_true hd] at hdc
    have HD := hide hd
    clear hd
    go_enter Tryz.func40, Tryz.ntmps40
    go_wp2
    go_ret3
    exact fa_dot HD.out
  · rw [decide_eq_false hd] at hdc
    have HD := hide hd
    clear hd
    have HL : Hid (s.data.toList.length = s.size) := hide (len_data s)
    go_enter Tryz.func40, Tryz.ntmps40
    go_wp2
    go_loop [5, 6] (fun a i => ∃ (k : Nat) (z : Int), k ≤ s.size ∧ i = .int .i64 k ∧ a = .int .i64 z ∧ (-1 ≤ z ∧ z < k) ∧ Hid (LastA s.data.toList k z)) (fun _ i => s.size - (intOf i).toNat)
    case atStart => exact ⟨0, -1, Nat.zero_le _, rfl, rfl, by omega, lastA_zero _⟩
    case round =>
      obtain ⟨k, z, hk, rfl, rfl, hz, HA⟩ := hrel
      by_cases hlt : k < s.size
      · have hk2 : (k : Int) < s.size := by omega
        by_cases hc : s[k] = 64
        · have hcb : ((s[k].toNat : Int) == 64) = true := by rw [hc]; rfl
          have HA2 := hide (lastA_yes HA.out ((get_byte s k hlt 64).2 hc))
          clear hc
          go_wp2
          go_round
          case rel => exact ⟨k + 1, k, by omega, by go_num, rfl, by omega, HA2.out⟩
          case measure => simp [intOf]; omega
        · have hcb : ((s[k].toNat : Int) == 64) = false := by
            have : s[k].toNat ≠ 64 := fun e => hc (UInt8.toNat_inj.1 e)
            simp; omega
          have HA2 := hide (lastA_no HA.out (fun e => hc ((get_byte s k hlt 64).1 e)))
          clear hc
          go_wp2
          go_round
          case rel => exact ⟨k + 1, z, by omega, by go_num, rfl, by omega, HA2.out⟩
          case measure => simp [intOf]; omega
      · have hkm : k = s.size := by omega
        have HA2 : Hid (LastA s.data.toList s.data.toList.length z) := hide (by rw [HL.out, ← hkm]; exact HA.out)
        clear HA
        by_cases hz0 : z = -1
        · have HZ := hide hz0
          have C := hide (s_stepsF s w hs)
          have hz1 : z < 0 := by omega
          clear hz0
          go_wp2_with fail
          refine C.out.mono ?_
          rintro e w2 ⟨hb, sl, d, o, rfl, ho⟩
          have HO := hide ho
          have HB := hide hb
          clear ho hb
          cases o <;> cases d
          all_goals
            go_wp2
            go_ret3
            have h := fa_down (s := s) HB.out HD.out (by rw [← HZ.out]; exact HA2.out)
            rw [← HO.out] at h
            exact h
        · obtain ⟨n, rfl⟩ : ∃ n : Nat, z = n := ⟨z.toNat, by omega⟩
          have hz1 : (0 : Int) ≤ n := by omega
          have hns : n < s.size := by omega
          have h1 : (n : Int) + 1 ≤ s.size := by omega
          have h2 : ((n : Int) + 1).toNat = n + 1 := by omega
          have hes : (s.extract (n + 1) s.size).size ≤ maxLen := by rw [ByteArray.size_extract]; unfold maxLen; omega
          cases hn : nameB (s.extract (n + 1) s.size)
          · go_wp2_with (go_at_call 38; refine (s_name _ _ hes).mono ?_; rintro e w9 ⟨rfl, h9⟩; rw [h9, hn]; clear h9 w9)
            go_ret3
            exact fa_no (Below.refl _ _) (fa_name (Below.refl w.heap.size _) HA2.out hn) _ _
          · have HN := hide hn
            by_cases h0 : n = 0
            · subst h0
              have HN2 : Hid (nameB (s.extract 1 s.size) = true) := hide hn
              go_wp2_with (go_at_call 38; refine (s_name _ _ hes).mono ?_; rintro e w9 ⟨rfl, h9⟩; rw [h9, hn]; clear h9 w9)
              go_ret3
              exact fa_here (Below.refl _ _) HA2.out HN2.out
            · have h3 : (0 : Int) ≤ (n : Int) - 1 := by omega
              have h4 : ((n : Int) - 1).toNat = n - 1 := by omega
              have h5 : (n : Int) - 1 < s.size := by omega
              have h6 : (n : Int) - 1 ≤ s.size := by omega
              have h8 : n - 1 < s.size := by omega
              have H0 := hide h0
              by_cases hc : s[n - 1] = 47
              · have hcb : ((s[n - 1].toNat : Int) != 47) = false := by rw [hc]; rfl
                have HC := hide hc
                clear hc
                have hu : (s.extract 0 (n - 1)).size ≤ 1048576 := by rw [ByteArray.size_extract]; omega
                have C := hide (s_stepsF (s.extract 0 (n - 1)) w hu)
                go_wp2_with (go_at_call 38; refine (s_name _ _ hes).mono ?_; rintro e w9 ⟨rfl, h9⟩; rw [h9, hn]; clear h9 w9)
                refine C.out.mono ?_
                rintro e w2 ⟨hb, sl, d, o, rfl, ho⟩
                have HO := hide ho
                have HB := hide hb
                clear ho hb
                cases o <;> cases d
                all_goals
                  go_wp2
                  go_ret3
                  have h := fa_up HB.out HA2.out H0.out h8 HN.out HC.out
                  rw [← HO.out] at h
                  exact h
              · have hcb : ((s[n - 1].toNat : Int) != 47) = true := by
                  have : s[n - 1].toNat ≠ 47 := fun e => hc (UInt8.toNat_inj.1 e)
                  simp; omega
                have HC := hide hc
                clear hc
                go_wp2_with (go_at_call 38; refine (s_name _ _ hes).mono ?_; rintro e w9 ⟨rfl, h9⟩; rw [h9, hn]; clear h9 w9)
                go_ret3
                exact fa_no (Below.refl _ _) (fa_bare HA2.out H0.out h8 HN.out HC.out) _ _
end Go.Proofs.YtdepgkpfibmbgaaGreatDoor

/-
  Contracts: which texts are paths, by the specification and by the program; the walk of the law.
-/
namespace Go.Proofs.YtdepgkpfibmbgaaGreatDoor
open Go.RowKit
set_option linter.unusedVariables false
set_option linter.unusedSimpArgs false
theorem route_s (s : ByteArray) : routeB s = (allN (restS s).data.toList && decide (cntN (restS s).data.toList ≤ 6) && decide (s.size ≤ 20000)) := by
  obtain ⟨h1, h2⟩ := rest_same s
  unfold routeB
  cases h : allN (restL s.data.toList)
  · rw [h1, h]; simp
  · obtain ⟨h3, -⟩ := h2 h
    rw [h3, h]
    cases decide (s.size ≤ 20000) <;> cases decide (cntN (restL s.data.toList) ≤ 6) <;> rfl
set_option maxHeartbeats 1000000 in
theorem s_path (s : ByteArray) (w : World) (hs : s.size ≤ 1048576) : Calls Tryz.prog 39 #[.string s] w fun e w' => e = .returned (.bool (routeB s)) ∧ Below w.heap.size w w' := by
  have C := hide (s_steps s w hs)
  have HR := hide (route_s s)
  cases ha : allN (restS s).data.toList
  · have HF : Hid (routeB s = false) := hide (by rw [HR.out, ha]; rfl)
    have HA := hide ha
    clear ha
    go_enter Tryz.func39, Tryz.ntmps39
    go_wp2_with fail
    refine C.out.mono ?_
    rintro e w2 ⟨hb, h | ⟨-, rfl⟩⟩
    · exact absurd (HA.out.symm.trans h.1) (by decide)
    have HB := hide hb
    clear hb
    go_wp2
    go_ret
    exact ⟨ret_bool HF.out.symm, HB.out⟩
  · have HA := hide ha
    rw [ha] at HR
    clear ha
    obtain ⟨m, hm⟩ : ∃ m, cntN (restS s).data.toList = m := ⟨_, rfl⟩
    have HMM := hide hm
    clear hm
    by_cases h6 : m ≤ 6
    all_goals
      by_cases h2 : s.size ≤ 20000
      all_goals
        have h2i : (s.size : Int) ≤ 20000 ∨ (20000 : Int) < s.size := by omega
        go_enter Tryz.func39, Tryz.ntmps39
        go_wp2_with fail
        refine C.out.mono ?_
        rintro e w2 ⟨hb, ⟨-, ad, c, rfl, -⟩ | h⟩
        rotate_left
        · exact absurd (HA.out.symm.trans h.1) (by decide)
        rw [HMM.out] at HR ⊢
        have HB := hide hb
        clear hb
        first | rw [decide_eq_true h6] at HR ⊢ | rw [decide_eq_false h6] at HR ⊢
        first | rw [decide_eq_true h2] at HR | rw [decide_eq_false h2] at HR
        go_wp2
        go_ret
        refine ⟨ret_bool ?_, HB.out⟩
        rw [HR.out]
        first | rfl | (simp; omega)
end Go.Proofs.YtdepgkpfibmbgaaGreatDoor
