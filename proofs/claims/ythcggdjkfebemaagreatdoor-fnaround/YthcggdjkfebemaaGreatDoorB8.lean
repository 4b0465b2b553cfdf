/-
  Texts put together: UnMath, UnLit, UnI.
-/
import Derived.Test.YthcggdjkfebemaaGreatDoorB6
import Derived.Lib.IndexMore
import Derived.Lib.RuneBytes
import Derived.Laws.BytesArg
/-
  Marks: what stands between & and ;, and a text with its marks taken away. No step of the program in this text.
-/
namespace Go.Proofs.YthcggdjkfebemaaGreatDoor
open Go.RowKit
set_option linter.unusedVariables false
set_option linter.unusedSimpArgs false
/-- A text around the first byte c of it. -/
def cut1 (c : UInt8) : List UInt8 → List UInt8 × List UInt8 × Bool
  | [] => ([], [], false)
  | b :: l => if b = c then ([], l, true) else (b :: (cut1 c l).1, (cut1 c l).2.1, (cut1 c l).2.2)
theorem cut1_len (c : UInt8) : ∀ l, (cut1 c l).2.1.length ≤ l.length
  | [] => by simp [cut1]
  | b :: l => by
    have := cut1_len c l
    unfold cut1
    split
    · simp
    · simp; omega
theorem idx_cons (c b : UInt8) (l : List UInt8) : Lib.index (b :: l) [c] = if b = c then 0 else if Lib.index l [c] == -1 then -1 else Lib.index l [c] + 1 := by
  show (if [c].isPrefixOf (b :: l) then (0 : Int) else if Lib.index l [c] == -1 then -1 else Lib.index l [c] + 1) = _
  by_cases h : b = c
  · subst h; simp [List.isPrefixOf]
  · have h2 : (c == b) = false := by rw [beq_eq_false_iff_ne]; exact fun e => h e.symm
    simp [List.isPrefixOf, h, h2]
theorem idx_ge (c : UInt8) : ∀ l, -1 ≤ Lib.index l [c]
  | [] => by simp [Lib.index]
  | b :: l => by
    have := idx_ge c l
    rw [idx_cons]
    split
    · omega
    · split
      · omega
      · omega
theorem cut1_eq (c : UInt8) : ∀ l, Lib.cut l [c] = cut1 c l
  | [] => by simp [Lib.cut, cut1, Lib.index]
  | b :: l => by
    have ih := cut1_eq c l
    have hg := idx_ge c l
    unfold Lib.cut at ih ⊢
    rw [idx_cons]
    unfold cut1
    by_cases h : b = c
    · rw [if_pos h, if_pos h]; simp
    · rw [if_neg h, if_neg h, ← ih]
      by_cases h1 : Lib.index l [c] = -1
      · rw [h1]; simp
      · have h2 : (Lib.index l [c] == -1) = false := by rw [beq_eq_false_iff_ne]; exact h1
        obtain ⟨n, hn⟩ : ∃ n : Nat, Lib.index l [c] = n := ⟨(Lib.index l [c]).toNat, by omega⟩
        rw [h2, hn]
        have e1 : (0 : Int) ≤ (n : Int) + 1 := by omega
        have e2 : (0 : Int) ≤ (n : Int) := by omega
        have e3 : ((n : Int) + 1).toNat = n + 1 := by omega
        have e4 : ((n : Int)).toNat = n := by omega
        simp only [Bool.false_eq_true, if_false, if_pos e1, if_pos e2, e3, e4, List.length_cons, List.length_nil, List.take_succ_cons, Nat.zero_add]
        rw [show n + 1 + 1 = (n + 1) + 1 from rfl, List.drop_succ_cons]
theorem cut1_yes (c : UInt8) : ∀ l, (cut1 c l).2.2 = true → l = (cut1 c l).1 ++ c :: (cut1 c l).2.1
  | [], h => by simp [cut1] at h
  | b :: l, h => by
    unfold cut1 at h ⊢
    by_cases e : b = c
    · simp [e]
    · rw [if_neg e] at h ⊢
      have := cut1_yes c l h
      simpa using this
theorem cut1_no (c : UInt8) : ∀ l, (cut1 c l).2.2 = false → (cut1 c l).1 = l
  | [], h => by simp [cut1]
  | b :: l, h => by
    unfold cut1 at h ⊢
    by_cases e : b = c
    · rw [if_pos e] at h; simp at h
    · rw [if_neg e] at h ⊢
      have := cut1_no c l h
      simpa using this
theorem cut1_free (c : UInt8) : ∀ l, ∀ b ∈ (cut1 c l).1, b ≠ c
  | [], b, h => by simp [cut1] at h
  | a :: l, b, h => by
    unfold cut1 at h
    by_cases e : a = c
    · rw [if_pos e] at h; simp at h
    · rw [if_neg e] at h
      rcases List.mem_cons.1 h with rfl | h
      · exact e
      · exact cut1_free c l b h
theorem cut1_at (c : UInt8) : ∀ (l : List UInt8) (k : Nat), (∀ j, j < k → l[j]? ≠ some c) → l[k]? = some c → cut1 c l = (l.take k, l.drop (k + 1), true)
  | [], k, _, h => by simp at h
  | b :: l, 0, _, h => by
    simp at h
    unfold cut1
    rw [if_pos h]; simp
  | b :: l, k + 1, h1, h => by
    have hb : b ≠ c := fun e => h1 0 (by omega) (by simp [e])
    have ih := cut1_at c l k (fun j hj => by have := h1 (j + 1) (by omega); simpa using this) (by simpa using h)
    unfold cut1
    rw [if_neg hb, ih]; simp
theorem cut1_none (c : UInt8) : ∀ (l : List UInt8), (∀ b ∈ l, b ≠ c) → cut1 c l = (l, [], false)
  | [], _ => rfl
  | b :: l, h => by
    have ih := cut1_none c l (fun x hx => h x (List.mem_cons_of_mem _ hx))
    unfold cut1
    rw [if_neg (h b (List.mem_cons_self ..)), ih]
/-- The number of digits, greatest first, behind n. -/
def numA (n : Nat) (ds : List UInt8) : Nat := ds.foldl (fun n d => n * 10 + (d.toNat - 48)) n
def digB (d : UInt8) : Bool := decide (48 ≤ d.toNat ∧ d.toNat ≤ 57)
def encL (n : Nat) : List UInt8 := (strOfNums (Lib.encodeRuneZ (n : Int))).data.toList
def refD (ds : List UInt8) : Option (List UInt8) := if ds.all digB = true ∧ docB (numA 0 ds : Nat) = true then some (encL (numA 0 ds)) else none
/-- What the mark m stands for. -/
def refB (m : List UInt8) : Option (List UInt8) :=
  if m = [97, 109, 112] then some [38] else if m = [108, 116] then some [60] else if m = [103, 116] then some [62] else if m = [113, 117, 111, 116] then some [34] else if m = [97, 112, 111, 115] then some [39]
  else match m with
  | [] => none
  | c :: ds => if c = 35 ∧ ds.length ≤ 7 then refD ds else none
theorem doc_zero : docB ((0 : Nat) : Int) = false := by decide
theorem encL_len (n : Nat) : 1 ≤ (encL n).length ∧ (encL n).length ≤ 4 := by
  have := Lib.encodeRuneZ_length (n : Int)
  have e : (encL n).length = (Lib.encodeRuneZ (n : Int)).length := by simp [encL, strOfNums]
  omega
theorem refD_len {ds x : List UInt8} (h : refD ds = some x) : 1 ≤ x.length ∧ x.length ≤ 4 ∧ 1 ≤ ds.length := by
  unfold refD at h
  split at h
  · rename_i h0
    cases h
    refine ⟨(encL_len _).1, (encL_len _).2, ?_⟩
    cases ds with
    | nil => exact absurd h0.2 (by show ¬ docB ((0 : Nat) : Int) = true; rw [doc_zero]; decide)
    | cons a l => simp
  · cases h
theorem refB_len {m x : List UInt8} (h : refB m = some x) : 1 ≤ x.length ∧ x.length ≤ m.length + 2 ∧ x.length ≤ 4 ∧ m.length ≤ 8 := by
  unfold refB at h
  repeat' split at h
  all_goals first
    | (cases h; subst_vars; simp; done)
    | (cases h; done)
    | (rename_i h0; have := refD_len h; simp; omega)
theorem refB_long {m : List UInt8} (h : 8 < m.length) : refB m = none := by
  cases hr : refB m with
  | none => rfl
  | some x => have := refB_len hr; omega
theorem refB_lt {m : List UInt8} (h : (60 : UInt8) ∈ m) : refB m = none := by
  unfold refB
  repeat' split
  all_goals first
    | rfl
    | (subst_vars; revert h; decide)
    | skip
  rename_i c ds h5 h4 h3 h2 h1 h0
  have hm : (60 : UInt8) ∈ ds := by
    rcases List.mem_cons.1 h with e | e
    · exact absurd (e.trans h0.1) (by decide)
    · exact e
  unfold refD
  rw [if_neg]
  rintro ⟨ha, _⟩
  exact absurd (List.all_eq_true.1 ha 60 hm) (by decide)
/-- A text with its marks taken away; none: it has a < or a mark that is none. -/
def unesc (l : List UInt8) : Option (List UInt8) :=
  match l with
  | [] => some []
  | c :: t => if c = 60 then none else if c = 38 then (if (cut1 59 t).2.2 = true then match refB (cut1 59 t).1 with | none => none | some x => (unesc (cut1 59 t).2.1).map (x ++ ·) else none) else (unesc t).map (c :: ·)
termination_by l.length
decreasing_by
  · have := cut1_len 59 t; simp; omega
  · simp
theorem unesc_nil : unesc [] = some [] := by rw [unesc]
theorem unesc_lt (t : List UInt8) : unesc (60 :: t) = none := by rw [unesc, if_pos rfl]
theorem unesc_chr {c : UInt8} (t : List UInt8) (h1 : c ≠ 60) (h2 : c ≠ 38) : unesc (c :: t) = (unesc t).map (c :: ·) := by rw [unesc, if_neg h1, if_neg h2]
theorem unesc_amp (t : List UInt8) : unesc (38 :: t) = if (cut1 59 t).2.2 = true then match refB (cut1 59 t).1 with | none => none | some x => (unesc (cut1 59 t).2.1).map (x ++ ·) else none := by
  rw [unesc, if_neg (by decide), if_pos rfl]
theorem unesc_open {t : List UInt8} (h : (cut1 59 t).2.2 = false) : unesc (38 :: t) = none := by rw [unesc_amp, h]; rfl
theorem unesc_bad {t : List UInt8} (h : refB (cut1 59 t).1 = none) : unesc (38 :: t) = none := by rw [unesc_amp, h]; simp
theorem unesc_ref {t x : List UInt8} (h1 : (cut1 59 t).2.2 = true) (h : refB (cut1 59 t).1 = some x) : unesc (38 :: t) = (unesc (cut1 59 t).2.1).map (x ++ ·) := by rw [unesc_amp, h, if_pos h1]
theorem unesc_head (t : List UInt8) : ∀ (h : List UInt8), (∀ b ∈ h, b ≠ 60) → (∀ b ∈ h, b ≠ 38) → unesc (h ++ t) = (unesc t).map (h ++ ·)
  | [], _, _ => by simp
  | b :: h, h1, h2 => by
    have ih := unesc_head t h (fun x hx => h1 x (List.mem_cons_of_mem _ hx)) (fun x hx => h2 x (List.mem_cons_of_mem _ hx))
    rw [List.cons_append, unesc_chr _ (h1 b (List.mem_cons_self ..)) (h2 b (List.mem_cons_self ..)), ih, Option.map_map]
    rfl
theorem unesc_has : ∀ (f : Nat) (l : List UInt8), l.length ≤ f → (60 : UInt8) ∈ l → unesc l = none
  | 0, l, hf, h => by
    have : l = [] := List.length_eq_zero_iff.1 (by omega)
    subst this
    simp at h
  | f + 1, [], hf, h => by simp at h
  | f + 1, c :: t, hf, h => by
    by_cases h1 : c = 60
    · subst h1; exact unesc_lt t
    have ht : (60 : UInt8) ∈ t := by
      rcases List.mem_cons.1 h with e | e
      · exact absurd e.symm h1
      · exact e
    have hl : t.length ≤ f := by simpa using hf
    by_cases h2 : c = 38
    · subst h2
      cases hc : (cut1 59 t).2.2
      · exact unesc_open hc
      · cases hr : refB (cut1 59 t).1 with
        | none => exact unesc_bad hr
        | some x =>
          rw [unesc_ref hc hr]
          have hs := cut1_yes 59 t hc
          rw [hs] at ht
          rcases List.mem_append.1 ht with e | e
          · rw [refB_lt e] at hr; cases hr
          · rcases List.mem_cons.1 e with e | e
            · exact absurd e (by decide)
            · rw [unesc_has f _ (Nat.le_trans (cut1_len 59 t) hl) e]; rfl
    · rw [unesc_chr t h1 h2, unesc_has f t hl ht]; rfl
theorem enc_eq (n : Nat) (h : docB (n : Int) = true) : Utf8.encode (n : Int) = ⟨(encL n).toArray⟩ := by
  have hd := of_decide_eq_true h
  have e : (⟨(encL n).toArray⟩ : ByteArray) = strOfNums (Lib.encodeRuneZ (n : Int)) := by simp [encL]
  have v : Utf8.valid (n : Int) = true := by simp [Utf8.valid]; omega
  rw [e]
  by_cases c1 : n < 128
  · rw [Lib.encodeRuneZ_one (by omega) (by omega)]; simp [Utf8.encode, v, c1, strOfNums]
  by_cases c2 : n < 2048
  · rw [Lib.encodeRuneZ_two (by omega) (by omega)]
    have e1 : (192 + (n : Int) / 64).toNat = 192 + n / 64 := by omega
    have e2 : (128 + (n : Int) % 64).toNat = 128 + n % 64 := by omega
    simp [Utf8.encode, v, c1, c2, strOfNums, e1, e2]
  by_cases c3 : n < 65536
  · rw [Lib.encodeRuneZ_three (by omega)]
    have e0 : (224 + (n : Int) / 4096).toNat = 224 + n / 4096 := by omega
    have e1 : (128 + (n : Int) / 64 % 64).toNat = 128 + n / 64 % 64 := by omega
    have e2 : (128 + (n : Int) % 64).toNat = 128 + n % 64 := by omega
    simp [Utf8.encode, v, c1, c2, c3, strOfNums, e0, e1, e2]
  · rw [Lib.encodeRuneZ_four (by omega) (by omega)]
    have e00 : (240 + (n : Int) / 262144).toNat = 240 + n / 262144 := by omega
    have e0 : (128 + (n : Int) / 4096 % 64).toNat = 128 + n / 4096 % 64 := by omega
    have e1 : (128 + (n : Int) / 64 % 64).toNat = 128 + n / 64 % 64 := by omega
    have e2 : (128 + (n : Int) % 64).toNat = 128 + n % 64 := by omega
    simp [Utf8.encode, v, c1, c2, c3, strOfNums, e00, e0, e1, e2]
theorem num_lt : ∀ (ds : List UInt8) (n : Nat), ds.all digB = true → numA n ds < (n + 1) * 10 ^ ds.length
  | [], n, _ => by simp [numA]
  | d :: ds, n, h => by
    simp only [List.all_cons, Bool.and_eq_true] at h
    have hd := of_decide_eq_true h.1
    have ih := num_lt ds (n * 10 + (d.toNat - 48)) h.2
    have e : numA n (d :: ds) = numA (n * 10 + (d.toNat - 48)) ds := rfl
    rw [e]
    refine Nat.lt_of_lt_of_le ih ?_
    rw [List.length_cons, Nat.pow_succ, Nat.mul_comm (10 ^ ds.length) 10, ← Nat.mul_assoc]
    exact Nat.mul_le_mul_right _ (by omega)
end Go.Proofs.YthcggdjkfebemaaGreatDoor

/-
  Marks, more of them: their cases, one by one; texts and rows of bytes.
-/
namespace Go.Proofs.YthcggdjkfebemaaGreatDoor
open Go.RowKit
set_option linter.unusedVariables false
set_option linter.unusedSimpArgs false
def strO (o : Option (List UInt8)) : ByteArray := ⟨(o.getD []).toArray⟩
theorem un_ret {a a' : ByteArray} {b b' : Bool} (h1 : a = a') (h2 : b = b') : Ending.returned (.tuple #[.string a, .bool b]) = .returned (.tuple #[.string a', .bool b']) := by rw [h1, h2]
theorem un_ret2 {a a' : ByteArray} {b b' : Int} (h1 : a = a') (h2 : b = b') : Ending.returned (.tuple #[.string a, .int .i64 b]) = .returned (.tuple #[.string a', .int .i64 b']) := by rw [h1, h2]
theorem ne_lit {m : ByteArray} {l : List UInt8} (h : m.data.toList ≠ l) : (m.toList == l) = false := by rw [ByteArray.toList_eq, beq_eq_false_iff_ne]; exact h
theorem eq_lit {m : ByteArray} {l : List UInt8} (h : m.data.toList = l) : (m.toList == l) = true := by rw [ByteArray.toList_eq, h]; simp
theorem refB_hash {ds : List UInt8} (h : ds.length ≤ 7) : refB (35 :: ds) = refD ds := by
  unfold refB
  simp [h]
theorem refB_none {m : List UInt8} (h1 : m ≠ [97, 109, 112]) (h2 : m ≠ [108, 116]) (h3 : m ≠ [103, 116]) (h4 : m ≠ [113, 117, 111, 116]) (h5 : m ≠ [97, 112, 111, 115]) (h : ∀ c ds, m = c :: ds → c ≠ 35) : refB m = none := by
  unfold refB
  rw [if_neg h1, if_neg h2, if_neg h3, if_neg h4, if_neg h5]
  cases m with
  | nil => rfl
  | cons c ds => simp only; rw [if_neg (fun e => h c ds rfl e.1)]
theorem refD_yes {ds : List UInt8} {v : Nat} (hv : numA 0 ds = v) (h1 : ds.all digB = true) (h2 : docB (v : Int) = true) : refD ds = some (encL v) := by
  subst hv; unfold refD; rw [if_pos ⟨h1, h2⟩]
theorem refD_doc {ds : List UInt8} {v : Nat} (hv : numA 0 ds = v) (h2 : docB (v : Int) = false) : refD ds = none := by
  subst hv; unfold refD; rw [if_neg (by rw [h2]; simp)]
theorem refD_bad {ds : List UInt8} {d : UInt8} (h : d ∈ ds) (hd : digB d = false) : refD ds = none := by
  unfold refD
  rw [if_neg]
  rintro ⟨ha, _⟩
  rw [List.all_eq_true.1 ha d h] at hd
  cases hd
theorem dig_no {d : UInt8} (h : (d.toNat : Int) < 48 ∨ 57 < (d.toNat : Int)) : digB d = false := decide_eq_false (by omega)
theorem dig_yes {d : UInt8} (h : 48 ≤ (d.toNat : Int)) (h2 : (d.toNat : Int) ≤ 57) : digB d = true := decide_eq_true (by omega)
theorem at_mem {s : ByteArray} {k : Nat} (h : k < s.size) : s[k] ∈ s.data.toList := by
  rw [Array.mem_toList_iff]; exact Array.getElem_mem _
theorem take_next {s : ByteArray} {k : Nat} (h : k < s.size) : s.data.toList.take (k + 1) = s.data.toList.take k ++ [s[k]] := by
  have hl : k < s.data.toList.length := by rw [Array.length_toList]; exact h
  rw [List.take_succ_eq_append_getElem hl]
  rfl
theorem drop_next {s : ByteArray} {k : Nat} (h : k < s.size) : s.data.toList.drop k = s[k] :: s.data.toList.drop (k + 1) := by
  have hl : k < s.data.toList.length := by rw [Array.length_toList]; exact h
  rw [List.drop_eq_getElem_cons hl]
  rfl
theorem num_next (l : List UInt8) (d : UInt8) : numA 0 (l ++ [d]) = numA 0 l * 10 + (d.toNat - 48) := by simp [numA, List.foldl_append]
theorem all_next {l : List UInt8} {d : UInt8} (h : l.all digB = true) (hd : digB d = true) : (l ++ [d]).all digB = true := by
  rw [List.all_append, h]; simp [hd]
theorem num_bd {l : List UInt8} (h : l.all digB = true) (hl : l.length ≤ 7) : numA 0 l ≤ 9999999 := by
  have h1 := num_lt l 0 h
  have h2 : 10 ^ l.length ≤ 10 ^ 7 := Nat.pow_le_pow_right (by decide) hl
  have h3 : (10 : Nat) ^ 7 = 10000000 := by decide
  omega
theorem take_all {s : ByteArray} {k : Nat} (h : s.size ≤ k) : s.data.toList.take k = s.data.toList := List.take_of_length_le (by rw [Array.length_toList]; exact h)
theorem drop_all {s : ByteArray} {k : Nat} (h : s.size ≤ k) : s.data.toList.drop k = [] := List.drop_eq_nil_of_le (by rw [Array.length_toList]; exact h)
theorem take_len {s : ByteArray} {k : Nat} (h : k ≤ s.size) : (s.data.toList.take k).length = k := by
  rw [List.length_take, Array.length_toList]; exact Nat.min_eq_left h
theorem ex_list (s : ByteArray) (a b : Nat) : (s.extract a b).data.toList = (s.data.toList.take b).drop a := by
  rw [ByteArray.data_extract, Array.toList_extract]
  simp [List.extract_eq_take_drop, List.drop_take]
theorem ex_tail (s : ByteArray) (a : Nat) : (s.extract a s.size).data.toList = s.data.toList.drop a := by
  rw [ex_list, take_all (Nat.le_refl _)]
theorem hash_yes {m : ByteArray} (h1 : 1 ≤ m.size) (h : (m.extract 0 1).toList == [35]) : m.data.toList = 35 :: (m.extract 1 m.size).data.toList := by
  rw [ByteArray.toList_eq, ex_list] at h
  rw [ex_tail]
  have hl : m.data.toList.length = m.size := Array.length_toList
  cases hm : m.data.toList with
  | nil => rw [hm] at hl; simp at hl; omega
  | cons c ds => rw [hm] at h; simp at h; simp [h]
theorem hash_no {m : ByteArray} (h : ((m.extract 0 1).toList == [35]) = false) : ∀ c ds, m.data.toList = c :: ds → c ≠ 35 := by
  intro c ds hm e
  rw [ByteArray.toList_eq, ex_list, hm] at h
  simp [e] at h
theorem hash_nil {m : ByteArray} (h : m.size < 1) : ∀ c ds, m.data.toList = c :: ds → c ≠ 35 := by
  intro c ds hm e
  have hl : m.data.toList.length = m.size := Array.length_toList
  rw [hm] at hl; simp at hl; omega
end Go.Proofs.YthcggdjkfebemaaGreatDoor

/-
  Contracts: what the program takes a mark for.
-/
namespace Go.Proofs.YthcggdjkfebemaaGreatDoor
open Go.RowKit
set_option linter.unusedVariables false
set_option linter.unusedSimpArgs false
set_option maxHeartbeats 2000000 in
theorem i_digits (d : ByteArray) (hd : d.size ≤ 7) (w : World) :
    Calls Tryz.prog 139 #[.string d] w fun e w' => e = .returned (.tuple #[.string (strO (refD d.data.toList)), .bool (refD d.data.toList).isSome]) ∧ w' = w := by
  obtain ⟨R, hR⟩ : ∃ R, refD d.data.toList = R := ⟨_, rfl⟩
  have HR := hide hR
  rw [hR]
  clear hR
  go_enter Tryz.func139, Tryz.ntmps139
  go_wp2
  go_loop [4, 5] (fun nv iv => ∃ (k v : Nat), k ≤ d.size ∧ iv = .int .i64 k ∧ nv = .int .i64 v ∧ v ≤ 9999999 ∧ Hid ((d.data.toList.take k).all digB = true ∧ numA 0 (d.data.toList.take k) = v)) (fun _ iv => d.size - (intOf iv).toNat)
  case atStart => exact ⟨0, 0, Nat.zero_le _, rfl, rfl, by omega, hide ⟨rfl, rfl⟩⟩
  case round =>
    obtain ⟨k, v, hk, rfl, rfl, hv, HV⟩ := hrel
    by_cases hlt : k < d.size
    · by_cases h1 : (d[k].toNat : Int) < 48
      · have HN := hide (HR.out.symm.trans (refD_bad (at_mem hlt) (dig_no (.inl h1))))
        go_wp2
        go_ret2
        exact ⟨un_ret (by rw [HN.out]; rfl) (by rw [HN.out]; rfl), rfl⟩
      · by_cases h2 : 57 < (d[k].toNat : Int)
        · have HN := hide (HR.out.symm.trans (refD_bad (at_mem hlt) (dig_no (.inr h2))))
          have h3 : 48 ≤ (d[k].toNat : Int) := by omega
          clear h1
          go_wp2
          go_ret2
          exact ⟨un_ret (by rw [HN.out]; rfl) (by rw [HN.out]; rfl), rfl⟩
        · have h3 : 48 ≤ (d[k].toNat : Int) := by omega
          have h4 : (d[k].toNat : Int) ≤ 57 := by omega
          have HD := hide (dig_yes h3 h4)
          clear h1 h2
          go_wp2
          go_round
          case rel =>
            have ha := all_next HV.out.1 HD.out
            have hn := num_next (d.data.toList.take k) d[k]
            rw [← take_next hlt] at ha hn
            rw [HV.out.2] at hn
            have hb := num_bd ha (by rw [take_len (by omega)]; omega)
            rw [hn] at hb
            exact ⟨k + 1, v * 10 + (d[k].toNat - 48), by omega, by go_num, congrArg (Value.int .i64) (by omega), hb, hide ⟨ha, hn⟩⟩
          case measure => simp [intOf]; omega
    · have HT : Hid ((d.data.toList).all digB = true ∧ numA 0 (d.data.toList) = v) := hide (by have h := HV.out; rw [take_all (by omega)] at h; exact h)
      cases hc : docB (v : Int)
      · have HN := hide (HR.out.symm.trans (refD_doc HT.out.2 hc))
        go_wp2_with (go_at_call 53; refine (i_doc _ _).mono ?_; rintro e w' ⟨rfl, rfl⟩)
        go_ret2
        exact ⟨un_ret (by rw [HN.out]; rfl) (by rw [HN.out]; rfl), rfl⟩
      · have HN := hide (HR.out.symm.trans (refD_yes HT.out.2 HT.out.1 hc))
        have HE := hide (enc_eq v hc)
        go_wp2_with (go_at_call 53; refine (i_doc _ _).mono ?_; rintro e w' ⟨rfl, rfl⟩)
        go_ret2
        exact ⟨un_ret (by rw [HN.out]; exact HE.out) (by rw [HN.out]; rfl), rfl⟩
set_option maxHeartbeats 2000000 in
theorem i_hasp (m : ByteArray) (w : World) (h1 : 1 ≤ (m.size : Int)) :
    Calls Tryz.prog 122 #[.string m, .string ⟨#[35]⟩] w fun e w' => e = .returned (.bool ((m.extract 0 1).toList == [35])) ∧ w' = w := by
  go_enter Tryz.func122, Tryz.ntmps122
  go_wp2
  go_ret
  exact ⟨rfl, rfl⟩
set_option maxHeartbeats 2000000 in
theorem i_hasp0 (m : ByteArray) (w : World) (h1 : (m.size : Int) < 1) :
    Calls Tryz.prog 122 #[.string m, .string ⟨#[35]⟩] w fun e w' => e = .returned (.bool false) ∧ w' = w := by
  go_enter Tryz.func122, Tryz.ntmps122
  go_wp2
  go_ret
  exact ⟨rfl, rfl⟩
set_option maxHeartbeats 2000000 in
theorem i_cutp (m : ByteArray) (w : World) (b : Bool) (hb : ∀ w, Calls Tryz.prog 122 #[.string m, .string ⟨#[35]⟩] w fun e w' => e = .returned (.bool b) ∧ w' = w) (hs : b = true → 1 ≤ m.size) :
    Calls Tryz.prog 99 #[.string m, .string ⟨#[35]⟩] w fun e w' => e = .returned (.tuple #[.string (cond b (m.extract 1 m.size) m), .bool b]) ∧ w' = w := by
  have C : Calls Tryz.prog 121 #[.string m, .string ⟨#[35]⟩] w fun e w' => e = .returned (.tuple #[.string (cond b (m.extract 1 m.size) m), .bool b]) ∧ w' = w := by
    cases b
    · go_enter Tryz.func121, Tryz.ntmps121
      go_wp2_with (go_at_call 122; refine (hb _).mono ?_; rintro e w' ⟨rfl, rfl⟩)
      go_ret2
      exact ⟨rfl, rfl⟩
    · have h1 := hs rfl
      go_enter Tryz.func121, Tryz.ntmps121
      go_wp2_with (go_at_call 122; refine (hb _).mono ?_; rintro e w' ⟨rfl, rfl⟩)
      go_ret2
      exact ⟨rfl, rfl⟩
  obtain ⟨X, hX⟩ : ∃ X, cond b (m.extract 1 m.size) m = X := ⟨_, rfl⟩
  rw [hX] at C ⊢
  have HC := hide C
  clear C hX hs hb
  go_enter Tryz.func99, Tryz.ntmps99
  go_wp2_with (go_at_call 121; refine HC.out.mono ?_; rintro e w' ⟨rfl, rfl⟩)
  go_ret2
  exact ⟨rfl, rfl⟩
set_option maxHeartbeats 4000000 in
theorem i_charOf (m : ByteArray) (hm : m.size ≤ 1048576) (w : World) :
    Calls Tryz.prog 132 #[.string m] w fun e w' => e = .returned (.tuple #[.string (strO (refB m.data.toList)), .bool (refB m.data.toList).isSome]) ∧ w' = w := by
  obtain ⟨R, hR⟩ : ∃ R, refB m.data.toList = R := ⟨_, rfl⟩
  have HR := hide hR
  rw [hR]
  clear hR
  by_cases h1 : m.data.toList = [97, 109, 112]
  · have HV : Hid (R = some [38]) := hide (by rw [← HR.out, h1]; rfl)
    have f1 := eq_lit h1
    clear h1
    go_enter Tryz.func132, Tryz.ntmps132
    go_wp2
    go_ret2
    exact ⟨un_ret (by rw [HV.out]; rfl) (by rw [HV.out]; rfl), rfl⟩
  by_cases h2 : m.data.toList = [108, 116]
  · have HV : Hid (R = some [60]) := hide (by rw [← HR.out, h2]; rfl)
    have f1 := ne_lit h1
    have f2 := eq_lit h2
    clear h1 h2
    go_enter Tryz.func132, Tryz.ntmps132
    go_wp2
    go_ret2
    exact ⟨un_ret (by rw [HV.out]; rfl) (by rw [HV.out]; rfl), rfl⟩
  by_cases h3 : m.data.toList = [103, 116]
  · have HV : Hid (R = some [62]) := hide (by rw [← HR.out, h3]; rfl)
    have f1 := ne_lit h1
    have f2 := ne_lit h2
    have f3 := eq_lit h3
    clear h1 h2 h3
    go_enter Tryz.func132, Tryz.ntmps132
    go_wp2
    go_ret2
    exact ⟨un_ret (by rw [HV.out]; rfl) (by rw [HV.out]; rfl), rfl⟩
  by_cases h4 : m.data.toList = [113, 117, 111, 116]
  · have HV : Hid (R = some [34]) := hide (by rw [← HR.out, h4]; rfl)
    have f1 := ne_lit h1
    have f2 := ne_lit h2
    have f3 := ne_lit h3
    have f4 := eq_lit h4
    clear h1 h2 h3 h4
    go_enter Tryz.func132, Tryz.ntmps132
    go_wp2
    go_ret2
    exact ⟨un_ret (by rw [HV.out]; rfl) (by rw [HV.out]; rfl), rfl⟩
  by_cases h5 : m.data.toList = [97, 112, 111, 115]
  · have HV : Hid (R = some [39]) := hide (by rw [← HR.out, h5]; rfl)
    have f1 := ne_lit h1
    have f2 := ne_lit h2
    have f3 := ne_lit h3
    have f4 := ne_lit h4
    have f5 := eq_lit h5
    clear h1 h2 h3 h4 h5
    go_enter Tryz.func132, Tryz.ntmps132
    go_wp2
    go_ret2
    exact ⟨un_ret (by rw [HV.out]; rfl) (by rw [HV.out]; rfl), rfl⟩
  have f1 := ne_lit h1
  have f2 := ne_lit h2
  have f3 := ne_lit h3
  have f4 := ne_lit h4
  have f5 := ne_lit h5
  by_cases h6 : m.size < 1
  · have HV : Hid (R = none) := hide (by rw [← HR.out, refB_none h1 h2 h3 h4 h5 (hash_nil h6)])
    have HC := hide (i_cutp m w false (fun w => i_hasp0 m w (by omega)) (by simp))
    have h61 : (m.size : Int) < 1 := by omega
    clear h1 h2 h3 h4 h5 h6
    go_enter Tryz.func132, Tryz.ntmps132
    go_wp2_with (go_at_call 99; refine HC.out.mono ?_; rintro e w' ⟨rfl, rfl⟩)
    go_ret2
    exact ⟨un_ret (by rw [HV.out]; rfl) (by rw [HV.out]; rfl), rfl⟩
  cases h7 : ((m.extract 0 1).toList == [35])
  · have HV : Hid (R = none) := hide (by rw [← HR.out, refB_none h1 h2 h3 h4 h5 (hash_no h7)])
    have HC := hide (i_cutp m w false (fun w => by have := i_hasp m w (by omega); rw [h7] at this; exact this) (by simp))
    clear h1 h2 h3 h4 h5 h7
    go_enter Tryz.func132, Tryz.ntmps132
    go_wp2_with (go_at_call 99; refine HC.out.mono ?_; rintro e w' ⟨rfl, rfl⟩)
    go_ret2
    exact ⟨un_ret (by rw [HV.out]; rfl) (by rw [HV.out]; rfl), rfl⟩
  · have HC := hide (i_cutp m w true (fun w => by have := i_hasp m w (by omega); rw [h7] at this; exact this) (fun _ => by omega))
    have hy := hash_yes (m := m) (by omega) (by rw [h7])
    have hl : m.data.toList.length = m.size := Array.length_toList
    have hz : (m.extract 1 m.size).size = m.size - 1 := by simp
    have hdl : (m.extract 1 m.size).data.toList.length = (m.extract 1 m.size).size := Array.length_toList
    obtain ⟨X, hX⟩ : ∃ X, m.extract 1 m.size = X := ⟨_, rfl⟩
    rw [hX] at hy HC hz hdl
    simp only [cond_true] at HC
    by_cases h8 : 8 < m.size
    · have HV : Hid (R = none) := hide (by rw [← HR.out, refB_long (by rw [hl]; exact h8)])
      have h81 : 8 < (m.size : Int) := by omega
      clear h1 h2 h3 h4 h5 h7 hy hX hl hz hdl h6 h8
      go_enter Tryz.func132, Tryz.ntmps132
      go_wp2_with (go_at_call 99; refine HC.out.mono ?_; rintro e w' ⟨rfl, rfl⟩)
      go_ret2
      exact ⟨un_ret (by rw [HV.out]; rfl) (by rw [HV.out]; rfl), rfl⟩
    · have HV : Hid (refD X.data.toList = R) := hide (by rw [← HR.out, hy, refB_hash (by omega)])
      have h81 : (m.size : Int) ≤ 8 := by omega
      have HD := hide (i_digits X (by omega) w)
      rw [HV.out] at HD
      clear h1 h2 h3 h4 h5 h7 hy hX hl hz hdl h6 h8
      go_enter Tryz.func132, Tryz.ntmps132
      go_wp2_with (first | (go_at_call 99; refine HC.out.mono ?_; rintro e w' ⟨rfl, rfl⟩) | (go_at_call 139; refine HD.out.mono ?_; rintro e w' ⟨rfl, rfl⟩))
      go_ret2
      exact ⟨rfl, rfl⟩
end Go.Proofs.YthcggdjkfebemaaGreatDoor
