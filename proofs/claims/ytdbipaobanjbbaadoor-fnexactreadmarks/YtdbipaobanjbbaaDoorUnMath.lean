/-
  Marks: what stands between & and ;, and a text with its marks taken away. No step of the program in this text.
-/
import Derived.Test.YtdbipaobanjbbaaDoorPlain
import Derived.Lib.IndexMore
import Derived.Lib.RuneBytes
import Derived.Laws.BytesArg
namespace Go.Proofs.YtdbipaobanjbbaaDoor
open Go.RowKit
set_option linter.unusedVariables false
set_option linter.unusedSimpArgs false
/-- A text around the first byte c of it. -/
def cut1 (c : UInt8) : List UInt8 → List UInt8 × List UInt8 × Bool
  | [] => ([], [], false)
  | b :: l => if b = c then ([], l, true) else (b :: (cut1 c l).1, (cut1 c l).2.1, (cut1 c l).2.2)
theorem cut1_len (c : UInt8) : ∀ l, (cut1 c l).2.1.length ≤ l.length
  | [] => by simp [cut1]
  | b :: l => by
    have := cut1_len c l
    unfold cut1
    split
    · simp
    · simp; omega
theorem idx_cons (c b : UInt8) (l : List UInt8) : Lib.index (b :: l) [c] = if b = c then 0 else if Lib.index l [c] == -1 then -1 else Lib.index l [c] + 1 := by
  show (if [c].isPrefixOf (b :: l) then (0 : Int) else if Lib.index l [c] == -1 then -1 else Lib.index l [c] + 1) = _
  by_cases h : b = c
  · subst h; simp [List.isPrefixOf]
  · have h2 : (c == b) = false := by rw [beq_eq_false_iff_ne]; exact fun e => h e.symm
    simp [List.isPrefixOf, h, h2]
theorem idx_ge (c : UInt8) : ∀ l, -1 ≤ Lib.index l [c]
  | [] => by simp [Lib.index]
  | b :: l => by
    have := idx_ge c l
    rw [idx_cons]
    split
    · omega
    · split
      · omega
      · omega
theorem cut1_eq (c : UInt8) : ∀ l, Lib.cut l [c] = cut1 c l
  | [] => by simp [Lib.cut, cut1, Lib.index]
  | b :: l => by
    have ih := cut1_eq c l
    have hg := idx_ge c l
    unfold Lib.cut at ih ⊢
    rw [idx_cons]
    unfold cut1
    by_cases h : b = c
    · rw [if_pos h, if_pos h]; simp
    · rw [if_neg h, if_neg h, ← ih]
      by_cases h1 : Lib.index l [c] = -1
      · rw [h1]; simp
      · have h2 : (Lib.index l [c] == -1) = false := by rw [beq_eq_false_iff_ne]; exact h1
        obtain ⟨n, hn⟩ : ∃ n : Nat, Lib.index l [c] = n := ⟨(Lib.index l [c]).toNat, by omega⟩
        rw [h2, hn]
        have e1 : (0 : Int) ≤ (n : Int) + 1 := by omega
        have e2 : (0 : Int) ≤ (n : Int) := by omega
        have e3 : ((n : Int) + 1).toNat = n + 1 := by omega
        have e4 : ((n : Int)).toNat = n := by omega
        simp only [Bool.false_eq_true, if_false, if_pos e1, if_pos e2, e3, e4, List.length_cons, List.length_nil, List.take_succ_cons, Nat.zero_add]
        rw [show n + 1 + 1 = (n + 1) + 1 from rfl, List.drop_succ_cons]
theorem cut1_yes (c : UInt8) : ∀ l, (cut1 c l).2.2 = true → l = (cut1 c l).1 ++ c :: (cut1 c l).2.1
  | [], h => by simp [cut1] at h
  | b :: l, h => by
    unfold cut1 at h ⊢
    by_cases e : b = c
    · simp [e]
    · rw [if_neg e] at h ⊢
      have := cut1_yes c l h
      simpa using this
theorem cut1_no (c : UInt8) : ∀ l, (cut1 c l).2.2 = false → (cut1 c l).1 = l
  | [], h => by simp [cut1]
  | b :: l, h => by
    unfold cut1 at h ⊢
    by_cases e : b = c
    · rw [if_pos e] at h; simp at h
    · rw [if_neg e] at h ⊢
      have := cut1_no c l h
      simpa using this
theorem cut1_free (c : UInt8) : ∀ l, ∀ b ∈ (cut1 c l).1, b ≠ c
  | [], b, h => by simp [cut1] at h
  | a :: l, b, h => by
    unfold cut1 at h
    by_cases e : a = c
    · rw [if_pos e] at h; simp at h
    · rw [if_neg e] at h
      rcases List.mem_cons.1 h with rfl | h
      · exact e
      · exact cut1_free c l b h
theorem cut1_at (c : UInt8) : ∀ (l : List UInt8) (k : Nat), (∀ j, j < k → l[j]? ≠ some c) → l[k]? = some c → cut1 c l = (l.take k, l.drop (k + 1), true)
  | [], k, _, h => by simp at h
  | b :: l, 0, _, h => by
    simp at h
    unfold cut1
    rw [if_pos h]; simp
  | b :: l, k + 1, h1, h => by
    have hb : b ≠ c := fun e => h1 0 (by omega) (by simp [e])
    have ih := cut1_at c l k (fun j hj => by have := h1 (j + 1) (by omega); simpa using this) (by simpa using h)
    unfold cut1
    rw [if_neg hb, ih]; simp
theorem cut1_none (c : UInt8) : ∀ (l : List UInt8), (∀ b ∈ l, b ≠ c) → cut1 c l = (l, [], false)
  | [], _ => rfl
  | b :: l, h => by
    have ih := cut1_none c l (fun x hx => h x (List.mem_cons_of_mem _ hx))
    unfold cut1
    rw [if_neg (h b (List.mem_cons_self ..)), ih]
/-- The number of digits, greatest first, behind n. -/
def numA (n : Nat) (ds : List UInt8) : Nat := ds.foldl (fun n d => n * 10 + (d.toNat - 48)) n
def digB (d : UInt8) : Bool := decide (48 ≤ d.toNat ∧ d.toNat ≤ 57)
def encL (n : Nat) : List UInt8 := (strOfNums (Lib.encodeRuneZ (n : Int))).data.toList
def refD (ds : List UInt8) : Option (List UInt8) := if ds.all digB = true ∧ docB (numA 0 ds : Nat) = true then some (encL (numA 0 ds)) else none
/-- What the mark m stands for. -/
def refB (m : List UInt8) : Option (List UInt8) :=
  if m = [97, 109, 112] then some [38] else if m = [108, 116] then some [60] else if m = [103, 116] then some [62] else if m = [113, 117, 111, 116] then some [34] else if m = [97, 112, 111, 115] then some [39]
  else match m with
  | [] => none
  | c :: ds => if c = 35 ∧ ds.length ≤ 7 then refD ds else none
theorem doc_zero : docB ((0 : Nat) : Int) = false := by decide
theorem encL_len (n : Nat) : 1 ≤ (encL n).length ∧ (encL n).length ≤ 4 := by
  have := Lib.encodeRuneZ_length (n : Int)
  have e : (encL n).length = (Lib.encodeRuneZ (n : Int)).length := by simp [encL, strOfNums]
  omega
theorem refD_len {ds x : List UInt8} (h : refD ds = some x) : 1 ≤ x.length ∧ x.length ≤ 4 ∧ 1 ≤ ds.length := by
  unfold refD at h
  split at h
  · rename_i h0
    cases h
    refine ⟨(encL_len _).1, (encL_len _).2, ?_⟩
    cases ds with
    | nil => exact absurd h0.2 (by show ¬ docB ((0 : Nat) : Int) = true; rw [doc_zero]; decide)
    | cons a l => simp
  · cases h
theorem refB_len {m x : List UInt8} (h : refB m = some x) : 1 ≤ x.length ∧ x.length ≤ m.length + 2 ∧ x.length ≤ 4 ∧ m.length ≤ 8 := by
  unfold refB at h
  repeat' split at h
  all_goals first
    | (cases h; subst_vars; simp; done)
    | (cases h; done)
    | (rename_i h0; have := refD_len h; simp; omega)
theorem refB_long {m : List UInt8} (h : 8 < m.length) : refB m = none := by
  cases hr : refB m with
  | none => rfl
  | some x => have := refB_len hr; omega
theorem refB_lt {m : List UInt8} (h : (60 : UInt8) ∈ m) : refB m = none := by
  unfold refB
  repeat' split
  all_goals first
    | rfl
    | (subst_vars; revert h; decide)
    | skip
  rename_i c ds h5 h4 h3 h2 h1 h0
  have hm : (60 : UInt8) ∈ ds := by
    rcases List.mem_cons.1 h with e | e
    · exact absurd (e.trans h0.1) (by decide)
    · exact e
  unfold refD
  rw [if_neg]
  rintro ⟨ha, _⟩
  exact absurd (List.all_eq_true.1 ha 60 hm) (by decide)
/-- A text with its marks taken away; none: it has a < or a mark that is none. -/
def unesc (l : List UInt8) : Option (List UInt8) :=
  match l with
  | [] => some []
  | c :: t => if c = 60 then none else if c = 38 then (if (cut1 59 t).2.2 = true then match refB (cut1 59 t).1 with | none => none | some x => (unesc (cut1 59 t).2.1).map (x ++ ·) else none) else (unesc t).map (c :: ·)
termination_by l.length
decreasing_by
  · have := cut1_len 59 t; simp; omega
  · simp
theorem unesc_nil : unesc [] = some [] := by rw [unesc]
theorem unesc_lt (t : List UInt8) : unesc (60 :: t) = none := by rw [unesc, if_pos rfl]
theorem unesc_chr {c : UInt8} (t : List UInt8) (h1 : c ≠ 60) (h2 : c ≠ 38) : unesc (c :: t) = (unesc t).map (c :: ·) := by rw [unesc, if_neg h1, if_neg h2]
theorem unesc_amp (t : List UInt8) : unesc (38 :: t) = if (cut1 59 t).2.2 = true then match refB (cut1 59 t).1 with | none => none | some x => (unesc (cut1 59 t).2.1).map (x ++ ·) else none := by
  rw [unesc, if_neg (by decide), if_pos rfl]
theorem unesc_open {t : List UInt8} (h : (cut1 59 t).2.2 = false) : unesc (38 :: t) = none := by rw [unesc_amp, h]; rfl
theorem unesc_bad {t : List UInt8} (h : refB (cut1 59 t).1 = none) : unesc (38 :: t) = none := by rw [unesc_amp, h]; simp
theorem unesc_ref {t x : List UInt8} (h1 : (cut1 59 t).2.2 = true) (h : refB (cut1 59 t).1 = some x) : unesc (38 :: t) = (unesc (cut1 59 t).2.1).map (x ++ ·) := by rw [unesc_amp, h, if_pos h1]
theorem unesc_head (t : List UInt8) : ∀ (h : List UInt8), (∀ b ∈ h, b ≠ 60) → (∀ b ∈ h, b ≠ 38) → unesc (h ++ t) = (unesc t).map (h ++ ·)
  | [], _, _ => by simp
  | b :: h, h1, h2 => by
    have ih := unesc_head t h (fun x hx => h1 x (List.mem_cons_of_mem _ hx)) (fun x hx => h2 x (List.mem_cons_of_mem _ hx))
    rw [List.cons_append, unesc_chr _ (h1 b (List.mem_cons_self ..)) (h2 b (List.mem_cons_self ..)), ih, Option.map_map]
    rfl
theorem unesc_has : ∀ (f : Nat) (l : List UInt8), l.length ≤ f → (60 : UInt8) ∈ l → unesc l = none
  | 0, l, hf, h => by
    have : l = [] := List.length_eq_zero_iff.1 (by omega)
    subst this
    simp at h
  | f + 1, [], hf, h => by simp at h
  | f + 1, c :: t, hf, h => by
    by_cases h1 : c = 60
    · subst h1; exact unesc_lt t
    have ht : (60 : UInt8) ∈ t := by
      rcases List.mem_cons.1 h with e | e
      · exact absurd e.symm h1
      · exact e
    have hl : t.length ≤ f := by simpa using hf
    by_cases h2 : c = 38
    · subst h2
      cases hc : (cut1 59 t).2.2
      · exact unesc_open hc
      · cases hr : refB (cut1 59 t).1 with
        | none => exact unesc_bad hr
        | some x =>
          rw [unesc_ref hc hr]
          have hs := cut1_yes 59 t hc
          rw [hs] at ht
          rcases List.mem_append.1 ht with e | e
          · rw [refB_lt e] at hr; cases hr
          · rcases List.mem_cons.1 e with e | e
            · exact absurd e (by decide)
            · rw [unesc_has f _ (Nat.le_trans (cut1_len 59 t) hl) e]; rfl
    · rw [unesc_chr t h1 h2, unesc_has f t hl ht]; rfl
theorem enc_eq (n : Nat) (h : docB (n : Int) = true) : Utf8.encode (n : Int) = ⟨(encL n).toArray⟩ := by
  have hd := of_decide_eq_true h
  have e : (⟨(encL n).toArray⟩ : ByteArray) = strOfNums (Lib.encodeRuneZ (n : Int)) := by simp [encL]
  have v : Utf8.valid (n : Int) = true := by simp [Utf8.valid]; omega
  rw [e]
  by_cases c1 : n < 128
  · rw [Lib.encodeRuneZ_one (by omega) (by omega)]; simp [Utf8.encode, v, c1, strOfNums]
  by_cases c2 : n < 2048
  · rw [Lib.encodeRuneZ_two (by omega) (by omega)]
    have e1 : (192 + (n : Int) / 64).toNat = 192 + n / 64 := by omega
    have e2 : (128 + (n : Int) % 64).toNat = 128 + n % 64 := by omega
    simp [Utf8.encode, v, c1, c2, strOfNums, e1, e2]
  by_cases c3 : n < 65536
  · rw [Lib.encodeRuneZ_three (by omega)]
    have e0 : (224 + (n : Int) / 4096).toNat = 224 + n / 4096 := by omega
    have e1 : (128 + (n : Int) / 64 % 64).toNat = 128 + n / 64 % 64 := by omega
    have e2 : (128 + (n : Int) % 64).toNat = 128 + n % 64 := by omega
    simp [Utf8.encode, v, c1, c2, c3, strOfNums, e0, e1, e2]
  · rw [Lib.encodeRuneZ_four (by omega) (by omega)]
    have e00 : (240 + (n : Int) / 262144).toNat = 240 + n / 262144 := by omega
    have e0 : (128 + (n : Int) / 4096 % 64).toNat = 128 + n / 4096 % 64 := by omega
    have e1 : (128 + (n : Int) / 64 % 64).toNat = 128 + n / 64 % 64 := by omega
    have e2 : (128 + (n : Int) % 64).toNat = 128 + n % 64 := by omega
    simp [Utf8.encode, v, c1, c2, c3, strOfNums, e00, e0, e1, e2]
theorem num_lt : ∀ (ds : List UInt8) (n : Nat), ds.all digB = true → numA n ds < (n + 1) * 10 ^ ds.length
  | [], n, _ => by simp [numA]
  | d :: ds, n, h => by
    simp only [List.all_cons, Bool.and_eq_true] at h
    have hd := of_decide_eq_true h.1
    have ih := num_lt ds (n * 10 + (d.toNat - 48)) h.2
    have e : numA n (d :: ds) = numA (n * 10 + (d.toNat - 48)) ds := rfl
    rw [e]
    refine Nat.lt_of_lt_of_le ih ?_
    rw [List.length_cons, Nat.pow_succ, Nat.mul_comm (10 ^ ds.length) 10, ← Nat.mul_assoc]
    exact Nat.mul_le_mul_right _ (by omega)
end Go.Proofs.YtdbipaobanjbbaaDoor
