/-
  Plain facts on line ends: what the library's ReplaceAll makes, from the front on; two of them make what Lines asks.
-/
import Derived.Lib.Replace
import Derived.Lib.CountLaws
namespace Go.Proofs.YteoncponebmnbacDoor
open Go.Lib

theorem rep_nil (old new : List UInt8) (ho : old ≠ []) (hne : old ≠ new) : replaceAll [] old new = [] := by
  have hi : index [] old = -1 := by unfold index; cases old with | nil => exact absurd rfl ho | cons a t => rfl
  unfold replaceAll replace
  rw [if_neg (by simpa using hne)]
  unfold replaceNum
  rw [if_pos (by omega), count_miss hi]; rfl

theorem rep_eq (s old new : List UInt8) (hne : old ≠ new) : replaceAll s old new = replaceK old new (count s old) s := by
  unfold replaceAll replace
  rw [if_neg (by simpa using hne)]
  unfold replaceNum
  rw [if_pos (by omega)]

theorem rep_hit (s old new : List UInt8) (ho : old ≠ []) (hne : old ≠ new) (hp : index s old = 0) : replaceAll s old new = new ++ replaceAll (s.drop old.length) old new := by
  have hp' : index s old = ((0 : Nat) : Int) := hp
  rw [rep_eq _ _ _ hne, rep_eq _ _ _ hne, count_hit ho hp', Nat.add_comm 1, replaceK_hit _ _ _ _ _ hp']
  simp

theorem rep_skip (b : UInt8) (t old new : List UInt8) (ho : old ≠ []) (hne : old ≠ new) (hp : old.isPrefixOf (b :: t) = false) : replaceAll (b :: t) old new = b :: replaceAll t old new := by
  rw [rep_eq _ _ _ hne, rep_eq _ _ _ hne]
  have hge := index_ge t old
  by_cases hm : index t old = -1
  · have hm' : index (b :: t) old = -1 := by unfold index; rw [if_neg (by simp [hp]), if_pos (by simp [hm])]
    rw [count_miss hm, count_miss hm']; rfl
  · obtain ⟨i, hi⟩ : ∃ i : Nat, index t old = i := ⟨(index t old).toNat, by omega⟩
    have hi' : index (b :: t) old = ((i + 1 : Nat) : Int) := by unfold index; rw [if_neg (by simp [hp]), if_neg (by simpa using hm), hi]; omega
    rw [count_hit ho hi, count_hit ho hi', Nat.add_comm 1, Nat.add_comm 1, replaceK_hit _ _ _ _ _ hi, replaceK_hit _ _ _ _ _ hi']
    have e : i + 1 + old.length = (i + old.length) + 1 := by omega
    rw [e]
    simp

/-- What Lines asks: a 10 for each 13 that a 10 follows, and that 10, and for each other 13. -/
def linesB : List UInt8 → List UInt8
  | [] => []
  | b :: r => if b = 13 then (if r.head? = some 10 then linesB r else 10 :: linesB r) else b :: linesB r

theorem pre2 (b : UInt8) (t : List UInt8) (h : ¬ (b = 13 ∧ t.head? = some 10)) : ([13, 10] : List UInt8).isPrefixOf (b :: t) = false := by
  cases t with
  | nil => simp [List.isPrefixOf]
  | cons c u =>
    simp only [List.isPrefixOf, Bool.and_true]
    simp at h
    rw [Bool.and_eq_false_iff]
    by_cases e : b = 13
    · right; have := h e; simpa using fun x => this x.symm
    · left; simpa using fun x => e x.symm
theorem rep2_hit (t : List UInt8) : replaceAll (13 :: 10 :: t) [13, 10] [10] = 10 :: replaceAll t [13, 10] [10] := by
  rw [rep_hit _ _ _ (by simp) (by decide) (by unfold index; simp [List.isPrefixOf])]; rfl
theorem rep1_hit (t : List UInt8) : replaceAll (13 :: t) [13] [10] = 10 :: replaceAll t [13] [10] := by
  rw [rep_hit _ _ _ (by simp) (by decide) (by unfold index; simp [List.isPrefixOf])]; rfl
theorem rep1_skip (b : UInt8) (t : List UInt8) (h : b ≠ 13) : replaceAll (b :: t) [13] [10] = b :: replaceAll t [13] [10] :=
  rep_skip _ _ _ _ (by simp) (by decide) (by simp [List.isPrefixOf]; exact fun e => h e.symm)

theorem lines_eq : ∀ (n : Nat) (l : List UInt8), l.length ≤ n → replaceAll (replaceAll l [13, 10] [10]) [13] [10] = linesB l
  | 0, [], _ => by rw [rep_nil _ _ (by simp) (by decide), rep_nil _ _ (by simp) (by decide)]; rfl
  | 0, _ :: _, h => by simp at h
  | n + 1, [], _ => by rw [rep_nil _ _ (by simp) (by decide), rep_nil _ _ (by simp) (by decide)]; rfl
  | n + 1, b :: t, h => by
    by_cases hc : b = 13 ∧ t.head? = some 10
    · obtain ⟨rfl, ht⟩ := hc
      cases t with
      | nil => simp at ht
      | cons c u =>
        simp at ht
        subst ht
        rw [rep2_hit, rep1_skip _ _ (by decide), lines_eq n u (by simp at h; omega)]
        simp [linesB]
    · rw [rep_skip _ _ _ _ (by simp) (by decide) (pre2 b t hc)]
      by_cases e : b = 13
      · subst e
        rw [rep1_hit, lines_eq n t (by simp at h; omega)]
        have : ¬ t.head? = some 10 := fun x => hc ⟨rfl, x⟩
        simp [linesB, this]
      · rw [rep1_skip _ _ e, lines_eq n t (by simp at h; omega)]
        simp [linesB, e]

theorem rep2_len : ∀ (n : Nat) (l : List UInt8), l.length ≤ n → (replaceAll l [13, 10] [10]).length ≤ l.length
  | 0, [], _ => by rw [rep_nil _ _ (by simp) (by decide)]; simp
  | 0, _ :: _, h => by simp at h
  | n + 1, [], _ => by rw [rep_nil _ _ (by simp) (by decide)]; simp
  | n + 1, b :: t, h => by
    by_cases hc : b = 13 ∧ t.head? = some 10
    · obtain ⟨rfl, ht⟩ := hc
      cases t with
      | nil => simp at ht
      | cons c u =>
        simp at ht
        subst ht
        rw [rep2_hit]
        have := rep2_len n u (by simp at h; omega)
        simp; omega
    · rw [rep_skip _ _ _ _ (by simp) (by decide) (pre2 b t hc)]
      have := rep2_len n t (by simp at h; omega)
      simp; omega
theorem countFrom_le (sub : List UInt8) : ∀ (fuel : Nat) (s : List UInt8), countFrom sub fuel s ≤ fuel
  | 0, _ => Nat.le_refl _
  | fuel + 1, s => by
    unfold countFrom
    split
    · omega
    · have := countFrom_le sub fuel (s.drop ((index s sub).toNat + sub.length)); omega
theorem count_le (s sub : List UInt8) : count s sub ≤ s.length + 1 := countFrom_le _ _ _

/-- From the left: what the first k bytes have given, and the rest. -/
theorem linesB_len : ∀ (l : List UInt8), (linesB l).length ≤ l.length
  | [] => by simp [linesB]
  | b :: r => by
    have := linesB_len r
    unfold linesB
    split
    · split <;> simp <;> omega
    · simp; omega
end Go.Proofs.YteoncponebmnbacDoor
