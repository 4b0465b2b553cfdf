/-
  Plain facts on paths, of no program: the pieces of a text between the signs /, told by what was read so far, and as Go's own Split has them.
-/
import Derived.Test.YtfbahffljhnjbaaGreatDoorX1
import Derived.Lib.SplitLaws
import Derived.Lib.Strings
namespace Go.Proofs.YtfbahffljhnjbaaGreatDoor
set_option linter.unusedVariables false
/-- The pieces of a text, 'cur' being what of the first one was read already. -/
def sg (cur : List UInt8) : List UInt8 → List (List UInt8)
  | [] => [cur]
  | c :: t => if c = 47 then cur :: sg [] t else sg (cur ++ [c]) t
theorem sg_sign (cur t : List UInt8) : sg cur (47 :: t) = cur :: sg [] t := by rw [sg, if_pos rfl]
theorem sg_more {c : UInt8} (h : c ≠ 47) (cur t : List UInt8) : sg cur (c :: t) = sg (cur ++ [c]) t := by rw [sg, if_neg h]
theorem sg_len : ∀ (l cur : List UInt8), (sg cur l).length ≤ l.length + 1
  | [], cur => by simp [sg]
  | c :: t, cur => by
    by_cases h : c = 47
    · subst h; rw [sg_sign]; have := sg_len t []; simp; omega
    · rw [sg_more h]; have := sg_len t (cur ++ [c]); simp; omega
def nameL (l : List UInt8) : Bool := nameB ⟨l.toArray⟩
theorem nameL_data (C : ByteArray) : nameL C.data.toList = nameB C := rfl
theorem splitK_ne (k : Nat) (l : List UInt8) : ∃ h t, Lib.splitK [47] 0 k l = h :: t := by
  cases k with
  | zero => exact ⟨_, _, rfl⟩
  | succ k => unfold Lib.splitK; split <;> exact ⟨_, _, rfl⟩
theorem sg_split : ∀ (l cur : List UInt8), ∃ h t, Lib.splitK [47] 0 (Lib.count l [47]) l = h :: t ∧ sg cur l = (cur ++ h) :: t
  | [], cur => by
    rw [Lib.count_miss (by simp [Lib.index])]
    exact ⟨[], [], rfl, by simp [sg]⟩
  | c :: t, cur => by
    by_cases e : c = 47
    · subst e
      obtain ⟨h, r, h1, h2⟩ := sg_split t []
      have hix : Lib.index (47 :: t) [47] = 0 := by rw [Lib.index]; simp [List.isPrefixOf]
      refine ⟨[], h :: r, ?_, ?_⟩
      · rw [Lib.count_cons_eq, Nat.add_comm, Lib.splitK, hix, if_neg (by decide)]
        simp [h1]
      · rw [sg_sign, h2]; simp
    · obtain ⟨h, r, h1, h2⟩ := sg_split t (cur ++ [c])
      have hp : ([47] : List UInt8).isPrefixOf (c :: t) = false := by simp [List.isPrefixOf, Ne.symm e]
      have hix : Lib.index (c :: t) [47] = if Lib.index t [47] == -1 then -1 else Lib.index t [47] + 1 := by rw [Lib.index, hp]; simp
      refine ⟨c :: h, r, ?_, ?_⟩
      · rw [Lib.count_cons_ne c 47 t e]
        cases hk : Lib.count t [47] with
        | zero =>
          rw [hk] at h1
          rw [Lib.splitK] at h1 ⊢
          simp only [List.cons.injEq] at h1
          obtain ⟨rfl, rfl⟩ := h1
          rfl
        | succ k =>
          rw [hk] at h1
          by_cases hm : Lib.index t [47] = -1
          · have := Lib.count_miss hm; omega
          · have hge := Lib.index_ge t [47]
            have hm2 : ¬ ((Lib.index t [47] == -1) = true) := fun h => hm (beq_iff_eq.1 h)
            have hm3 : ¬ ((Lib.index t [47] + 1 == -1) = true) := fun h => by have := beq_iff_eq.1 h; omega
            rw [Lib.splitK, if_neg hm2] at h1
            rw [Lib.splitK, hix, if_neg hm2, if_neg hm3]
            simp only [List.cons.injEq] at h1
            obtain ⟨h3, h4⟩ := h1
            have e1 : (Lib.index t [47] + 1).toNat = (Lib.index t [47]).toNat + 1 := by omega
            obtain ⟨i, hi⟩ : ∃ i, (Lib.index t [47]).toNat = i := ⟨_, rfl⟩
            rw [hi] at h3 h4 e1
            rw [e1]
            simp only [List.length_cons, List.length_nil, Nat.add_zero, Nat.zero_add] at h3 h4 ⊢
            rw [List.take_succ_cons, List.drop_succ_cons, h3, h4]
      · rw [sg_more e, h2]; simp
theorem split_sg (s : ByteArray) : (Lib.splitB ⟨#[47]⟩ 0 (Lib.countB s ⟨#[47]⟩) s).map (·.data.toList) = sg [] s.data.toList := by
  rw [Lib.splitB_data]
  obtain ⟨h, t, h1, h2⟩ := sg_split s.data.toList []
  rw [h2]
  exact h1
theorem split_len (s : ByteArray) : Lib.countB s ⟨#[47]⟩ + 1 = (sg [] s.data.toList).length := by
  rw [← split_sg, List.length_map]
  exact (Lib.splitB_all ⟨#[47]⟩ (by decide) 0 _ s rfl).symm
theorem split_all (s : ByteArray) : (sg [] s.data.toList).all nameL = (Lib.splitB ⟨#[47]⟩ 0 (Lib.countB s ⟨#[47]⟩) s).all nameB := by
  rw [← split_sg, List.all_map]
  rfl
/-- The names of a path that is read without the two signs ahead: all of them are names. -/
def allN (l : List UInt8) : Bool := (sg [] l).all nameL
def cntN (l : List UInt8) : Nat := (sg [] l).length
def deepL (l : List UInt8) : Bool := Lib.hasPrefix l [47, 47]
def restL (l : List UInt8) : List UInt8 := Lib.trimPrefix l [47, 47]
def routeB (s : ByteArray) : Bool := decide (s.size ≤ 20000) && (decide (cntN (restL s.data.toList) ≤ 6) && allN (restL s.data.toList))
/-- What the specification takes for the rest. -/
def deepS (s : ByteArray) : Bool := decide (2 < s.size) && deepL s.data.toList
def restS (s : ByteArray) : ByteArray := if deepS s = true then s.extract 2 s.size else s
theorem rest_same (s : ByteArray) : (allN (restS s).data.toList = allN (restL s.data.toList)) ∧ (allN (restL s.data.toList) = true → (restS s).data.toList = restL s.data.toList ∧ deepS s = deepL s.data.toList) := by
  obtain ⟨⟨l⟩⟩ := s
  by_cases hd : deepL l = true
  · by_cases hl : 2 < l.length
    · have h1 : deepS ⟨⟨l⟩⟩ = true := by unfold deepS; rw [show (⟨⟨l⟩⟩ : ByteArray).data.toList = l from rfl, hd]; simp [ByteArray.size]; exact hl
      have h2 : (restS ⟨⟨l⟩⟩).data.toList = restL l := by
        unfold restS; rw [if_pos h1]
        unfold restL Lib.trimPrefix
        rw [if_pos (show Lib.hasPrefix l [47, 47] = true from hd)]
        have h3 : (ByteArray.extract ⟨⟨l⟩⟩ 2 (ByteArray.size ⟨⟨l⟩⟩)).data.toList = l.drop 2 := by
          rw [Lib.extract_to_end]
        exact h3
      exact ⟨by rw [h2], fun _ => ⟨h2, h1.trans hd.symm⟩⟩
    · have e : l = [47, 47] := by
        have hp : ([47, 47] : List UInt8) <+: l := List.isPrefixOf_iff_prefix.1 hd
        obtain ⟨r, rfl⟩ := hp
        simp at hl
        subst hl
        rfl
      subst e
      have a1 : allN (restL [47, 47]) = false := by decide
      exact ⟨by decide, fun h => by rw [show (⟨⟨[47, 47]⟩⟩ : ByteArray).data.toList = [47, 47] from rfl, a1] at h; cases h⟩
  · have hd' : deepL l = false := by simpa using hd
    have h1 : deepS ⟨⟨l⟩⟩ = false := by unfold deepS; rw [show (⟨⟨l⟩⟩ : ByteArray).data.toList = l from rfl, hd']; simp
    have h2 : (restS ⟨⟨l⟩⟩).data.toList = restL l := by
      unfold restS; rw [if_neg (by rw [h1]; decide)]
      unfold restL Lib.trimPrefix
      rw [if_neg (show ¬ Lib.hasPrefix l [47, 47] = true from hd)]
    exact ⟨by rw [h2], fun _ => ⟨h2, h1.trans hd'.symm⟩⟩
/-- What is left of the pieces at place k. -/
def tailS (l cur : List UInt8) (k : Nat) : List (List UInt8) := if k ≤ l.length then sg cur (l.drop k) else []
theorem tailS_more {l cur : List UInt8} {k : Nat} {c : UInt8} (hk : l[k]? = some c) (hc : c ≠ 47) : tailS l cur k = tailS l (cur ++ [c]) (k + 1) := by
  have hl : k < l.length := by
    rcases Nat.lt_or_ge k l.length with h | h
    · exact h
    · rw [List.getElem?_eq_none h] at hk; cases hk
  have hc' : l[k] = c := by rw [List.getElem?_eq_getElem hl] at hk; exact Option.some.inj hk
  unfold tailS
  rw [if_pos (by omega), if_pos (by omega), List.drop_eq_getElem_cons hl, hc', sg_more hc]
theorem tailS_sign {l cur : List UInt8} {k : Nat} (hk : l[k]? = some 47) : tailS l cur k = cur :: tailS l [] (k + 1) := by
  have hl : k < l.length := by
    rcases Nat.lt_or_ge k l.length with h | h
    · exact h
    · rw [List.getElem?_eq_none h] at hk; cases hk
  have hc' : l[k] = 47 := by rw [List.getElem?_eq_getElem hl] at hk; exact Option.some.inj hk
  unfold tailS
  rw [if_pos (by omega), if_pos (by omega), List.drop_eq_getElem_cons hl, hc', sg_sign]
theorem tailS_end (l cur : List UInt8) : tailS l cur l.length = [cur] := by
  unfold tailS
  rw [if_pos (Nat.le_refl _), List.drop_length, sg]
theorem tailS_out (l cur : List UInt8) : tailS l cur (l.length + 1) = [] := by
  unfold tailS
  rw [if_neg (by omega)]
theorem tailS_zero (l : List UInt8) : tailS l [] 0 = sg [] l := by
  unfold tailS
  rw [if_pos (Nat.zero_le _), List.drop_zero]
end Go.Proofs.YtfbahffljhnjbaaGreatDoor
