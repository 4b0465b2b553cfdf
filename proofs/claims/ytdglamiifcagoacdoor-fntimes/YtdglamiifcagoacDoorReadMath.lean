/-
  Plain facts, of no program: the number that a text is: its sign, what stands ahead of the point and behind it.
-/
import Derived.Test.YtdglamiifcagoacDoorNormCut
import Derived.Lib.IndexMore
namespace Go.Proofs.YtdglamiifcagoacDoor
/-- Where the first point stands; the end where there is none. -/
def dotL : List UInt8 → Nat
  | [] => 0
  | b :: l => if b = 46 then 0 else dotL l + 1
theorem dotL_le : ∀ l, dotL l ≤ l.length
  | [] => Nat.le_refl _
  | b :: l => by unfold dotL; have := dotL_le l; split <;> simp <;> omega
theorem dotL_is : ∀ (l : List UInt8) (k : Nat), k ≤ l.length → (∀ j, j < k → l[j]? ≠ some 46) → (k = l.length ∨ l[k]? = some 46) → dotL l = k
  | [], k, h, _, _ => by have : k = 0 := by simpa using h
                         subst this; rfl
  | b :: l, 0, _, _, h2 => by
    rcases h2 with h2 | h2
    · simp at h2
    · have : b = 46 := by simpa using h2
      unfold dotL; rw [if_pos this]
  | b :: l, k + 1, h, h1, h2 => by
    have hb : b ≠ 46 := fun e => h1 0 (by omega) (by simp [e])
    unfold dotL
    rw [if_neg hb, dotL_is l k (by simpa using h) (fun j hj => by have := h1 (j + 1) (by omega); simpa using this) (by simpa using h2)]
theorem index_dot : ∀ l : List UInt8, Lib.index l [46] = if dotL l < l.length then (dotL l : Int) else -1
  | [] => rfl
  | b :: l => by
    rw [Lib.index, index_dot l]
    by_cases h : b = 46
    · subst h
      have e : ([46] : List UInt8).isPrefixOf (46 :: l) = true := by simp
      rw [if_pos e]
      simp [dotL]
    · have e : ([46] : List UInt8).isPrefixOf (b :: l) = false := by
        rw [List.isPrefixOf]
        have : ((46 : UInt8) == b) = false := by simpa using fun e => h e.symm
        rw [this]; rfl
      rw [e]
      by_cases hd : dotL l < l.length
      · have h1 : ((dotL l : Int) == -1) = false := by simp
        have h2 : dotL (b :: l) < (b :: l).length := by simp [dotL, h, hd]
        rw [if_pos hd, if_pos h2, h1]
        simp [dotL, h]
      · have h2 : ¬ dotL (b :: l) < (b :: l).length := by simp [dotL, h, hd]
        rw [if_neg hd, if_neg h2]
        rfl
theorem cut_dot (l : List UInt8) : (Lib.cut l [46]).1 = l.take (dotL l) ∧ (Lib.cut l [46]).2.1 = l.drop (dotL l + 1) := by
  unfold Lib.cut
  rw [index_dot]
  by_cases h : dotL l < l.length
  · rw [if_pos h, if_pos (by omega)]; simp
  · have hl := dotL_le l
    rw [if_neg h, if_neg (by omega)]
    exact ⟨(List.take_of_length_le (show l.length ≤ dotL l by omega)).symm, (List.drop_eq_nil_of_le (show l.length ≤ dotL l + 1 by omega)).symm⟩
def wholeA (r : ByteArray) : ByteArray := r.extract 0 (dotL r.data.toList)
def partA (r : ByteArray) : ByteArray := r.extract (dotL r.data.toList + 1) r.size
theorem whole_list (r : ByteArray) : (wholeA r).data.toList = r.data.toList.take (dotL r.data.toList) := by rw [wholeA, ext_list]; simp
theorem part_list (r : ByteArray) : (partA r).data.toList = r.data.toList.drop (dotL r.data.toList + 1) := by
  have hl : r.data.toList.length = r.size := by simp
  rw [partA, ext_list, List.take_of_length_le (by rw [List.length_drop]; omega)]
theorem cut_whole (r : ByteArray) : (⟨(Lib.cut r.data.toList (⟨#[46]⟩ : ByteArray).data.toList).1.toArray⟩ : ByteArray) = wholeA r := by
  apply ba_ext; rw [whole_list]; exact (cut_dot _).1
theorem cut_part (r : ByteArray) : (⟨(Lib.cut r.data.toList (⟨#[46]⟩ : ByteArray).data.toList).2.1.toArray⟩ : ByteArray) = partA r := by
  apply ba_ext; rw [part_list]; exact (cut_dot _).2
theorem digs_iff (s : ByteArray) : digsB s = true ↔ dgL s.data.toList := by
  refine ⟨dgL_of s, fun h => digsB_yes s (fun j hj => ?_)⟩
  have := h s[j] (by have e : s[j] = s.data.toList[j]'(by simpa using hj) := rfl; rw [e]; exact List.getElem_mem _)
  simp only [digitB, decide_eq_true_eq]; omega
theorem digs_app (a b : ByteArray) : digsB (a ++ b) = (digsB a && digsB b) := by
  rw [Bool.eq_iff_iff, Bool.and_eq_true, digs_iff, digs_iff, digs_iff, ba_toList_append]
  exact ⟨fun h => ⟨fun c hc => h c (List.mem_append_left _ hc), fun c hc => h c (List.mem_append_right _ hc)⟩, fun h => dgL_app h.1 h.2⟩
def badA (r : ByteArray) : Bool := decide (180 < r.size) || (!digsB (wholeA r) || (!digsB (partA r) || decide ((wholeA r ++ partA r).size = 0)))
def readA (n : Bool) (r : ByteArray) : Bool × ByteArray × Int × Bool :=
  if badA r = true then (false, ByteArray.empty, 0, false) else decRes n (valL (wholeA r ++ partA r).data.toList) (partA r).size
def negA (s : ByteArray) : Bool := decide (0 < s.size ∧ at8 s 0 = 45)
def restA (s : ByteArray) : ByteArray := if 0 < s.size ∧ (at8 s 0 = 45 ∨ at8 s 0 = 43) then s.extract 1 s.size else s
def readDecA (s : ByteArray) : Bool × ByteArray × Int × Bool := readA (negA s) (restA s)
theorem rest_size (s : ByteArray) : (restA s).size ≤ s.size := by unfold restA; split <;> simp
theorem wp_size (r : ByteArray) : (wholeA r).size ≤ r.size ∧ (partA r).size ≤ r.size ∧ (wholeA r ++ partA r).size ≤ r.size := by
  have h1 : (wholeA r).size = min (dotL r.data.toList) r.size := by simp [wholeA]
  have h2 : (partA r).size = r.size - (dotL r.data.toList + 1) := by simp [partA]
  have h3 := dotL_le r.data.toList
  have hl : r.data.toList.length = r.size := by simp
  rw [ByteArray.size_append]; omega
theorem pref_one (s : ByteArray) (c : UInt8) : Lib.hasPrefix s.data.toList [c] = decide (0 < s.size ∧ at8 s 0 = (c.toNat : Int)) := by
  rw [Bool.eq_iff_iff, decide_eq_true_eq]
  rcases (show s.size = 0 ∨ 0 < s.size by omega) with h | h
  · have e : s.data.toList = [] := by apply List.length_eq_zero_iff.1; simpa using h
    rw [e]
    simp [Lib.hasPrefix, h]
  · have e := list_head s h
    rw [at8_eq s 0 h, e]
    simp only [Lib.hasPrefix, List.isPrefixOf, Bool.and_true, beq_iff_eq]
    constructor
    · intro h2; exact ⟨h, by rw [← h2]⟩
    · rintro ⟨_, h2⟩; exact UInt8.toNat_inj.1 (by omega)
theorem trimP_one (s : ByteArray) (c : UInt8) : (⟨(Lib.trimPrefix s.data.toList [c]).toArray⟩ : ByteArray) = if Lib.hasPrefix s.data.toList [c] = true then s.extract 1 s.size else s := by
  have hl : s.data.toList.length = s.size := by simp
  unfold Lib.trimPrefix
  split
  · apply ba_ext
    rw [ext_list, List.take_of_length_le (by rw [List.length_drop]; omega)]
    rfl
  · apply ba_ext; simp
end Go.Proofs.YtdglamiifcagoacDoor
