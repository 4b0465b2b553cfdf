/-
  Texts of expressions: characters, classes, counts, nodes. No step of the program in this text.
-/
import Derived.Test.YtepommmmmfaihaaDoorC7
import Derived.Lib.RuneBytes
import Derived.Laws.BytesArg
import Derived.Lib.ItoaNum
namespace Go.Proofs.YtepommmmmfaihaaDoor
open Go.RowKit
set_option linter.unusedVariables false
set_option linter.unusedSimpArgs false
theorem te_app (a b : ByteArray) : (a ++ b).data.toList = a.data.toList ++ b.data.toList := by rw [ByteArray.data_append, Array.toList_append]
theorem te_size (a b : ByteArray) : (a ++ b).size = a.size + b.size := by simp
/-- The bytes of a character, both ways. -/
theorem enc_nums {r : Int} (h : chB r = true) : strOfNums (Lib.encodeRuneZ r) = Utf8.encode r := by
  have hc := chB_cases h
  have hv2 : Utf8.valid r = true := by
    unfold Utf8.valid
    simp
    omega
  have hn : ∀ k : Nat, (r < (k : Int)) ↔ r.toNat < k := fun k => by omega
  by_cases h1 : r ≤ 127
  · rw [Lib.encodeRuneZ_one (by omega) h1]
    unfold Utf8.encode strOfNums
    simp only [hv2, if_true]
    rw [if_pos (show r.toNat < 0x80 by omega)]
    rfl
  · by_cases h2 : r ≤ 2047
    · rw [Lib.encodeRuneZ_two (by omega) h2]
      unfold Utf8.encode strOfNums
      simp only [hv2, if_true]
      rw [if_neg (show ¬ r.toNat < 0x80 by omega), if_pos (show r.toNat < 0x800 by omega)]
      simp only [List.map_cons, List.map_nil]
      rw [show (192 + r / 64).toNat = 0xC0 + r.toNat / 64 by omega, show (128 + r % 64).toNat = 0x80 + r.toNat % 64 by omega]
    · by_cases h3 : r ≤ 65535
      · rw [Lib.encodeRuneZ_three (by omega)]
        unfold Utf8.encode strOfNums
        simp only [hv2, if_true]
        rw [if_neg (show ¬ r.toNat < 0x80 by omega), if_neg (show ¬ r.toNat < 0x800 by omega), if_pos (show r.toNat < 0x10000 by omega)]
        simp only [List.map_cons, List.map_nil]
        rw [show (224 + r / 4096).toNat = 0xE0 + r.toNat / 4096 by omega, show (128 + r / 64 % 64).toNat = 0x80 + r.toNat / 64 % 64 by omega, show (128 + r % 64).toNat = 0x80 + r.toNat % 64 by omega]
      · rw [Lib.encodeRuneZ_four (by omega) (by omega)]
        unfold Utf8.encode strOfNums
        simp only [hv2, if_true]
        rw [if_neg (show ¬ r.toNat < 0x80 by omega), if_neg (show ¬ r.toNat < 0x800 by omega), if_neg (show ¬ r.toNat < 0x10000 by omega)]
        simp only [List.map_cons, List.map_nil]
        rw [show (240 + r / 262144).toNat = 0xF0 + r.toNat / 262144 by omega, show (128 + r / 4096 % 64).toNat = 0x80 + r.toNat / 4096 % 64 by omega, show (128 + r / 64 % 64).toNat = 0x80 + r.toNat / 64 % 64 by omega, show (128 + r % 64).toNat = 0x80 + r.toNat % 64 by omega]
theorem enc_size (r : Int) : (Utf8.encode r).size ≤ 4 := by
  unfold Utf8.encode
  simp only
  repeat' split
  all_goals simp [ByteArray.size]
/-- The signs. -/
def sgO : List UInt8 := [46, 92, 63, 42, 43, 123, 125, 40, 41, 124, 91, 93]
def sgI : List UInt8 := [91, 93, 92, 45, 94]
def isS (l : List UInt8) (c : Int) : Bool := l.any fun b => decide ((b.toNat : Int) = c)
theorem isS_no {l : List UInt8} {c : Int} (h : ∀ j, j < l.length → ((l[j]?.getD 0).toNat : Int) ≠ c) : isS l c = false := by
  unfold isS
  rw [List.any_eq_false]
  intro x hx
  obtain ⟨j, hj, rfl⟩ := List.mem_iff_getElem.1 hx
  have := h j hj
  rw [List.getElem?_eq_getElem hj] at this
  simpa using this
theorem isS_yes {l : List UInt8} {c : Int} {j : Nat} (hj : j < l.length) (h : ((l[j]?.getD 0).toNat : Int) = c) : isS l c = true := by
  unfold isS
  rw [List.any_eq_true]
  refine ⟨l[j], List.getElem_mem hj, ?_⟩
  rw [List.getElem?_eq_getElem hj] at h
  simpa using h
/-- A character's text. -/
def chT (l : List UInt8) (c : Int) : ByteArray :=
  if c = 10 then ⟨#[92, 110]⟩ else if c = 13 then ⟨#[92, 114]⟩ else if c = 9 then ⟨#[92, 116]⟩ else if isS l c = true then ⟨#[92]⟩ ++ Utf8.encode c else Utf8.encode c
theorem chT_size (l : List UInt8) (c : Int) : (chT l c).size ≤ 5 := by
  have := enc_size c
  unfold chT
  split
  · show 2 ≤ 5; omega
  · split
    · show 2 ≤ 5; omega
    · split
      · show 2 ≤ 5; omega
      · split
        · rw [te_size]
          have : (⟨#[92]⟩ : ByteArray).size = 1 := rfl
          omega
        · omega
/-- A class's ranges, one by one. -/
def ctA (s : ByteArray) (L H : Nat → Int) : Nat → ByteArray
  | 0 => s
  | k + 1 => if L k = H k then ctA s L H k ++ chT sgI (L k) else ctA s L H k ++ chT sgI (L k) ++ (⟨#[45]⟩ ++ chT sgI (H k))
theorem ctA_size (s : ByteArray) (L H : Nat → Int) : ∀ k, (ctA s L H k).size ≤ s.size + 11 * k
  | 0 => Nat.le_refl _
  | k + 1 => by
    have ih := ctA_size s L H k
    have h1 := chT_size sgI (L k)
    have h2 := chT_size sgI (H k)
    have h3 : (⟨#[45]⟩ : ByteArray).size = 1 := rfl
    unfold ctA
    split
    · rw [te_size]; omega
    · rw [te_size, te_size, te_size]; omega
def ct0 (nt : Bool) : ByteArray := if nt = true then ⟨#[91, 94]⟩ else ⟨#[91]⟩
theorem ct0_size (nt : Bool) : (ct0 nt).size ≤ 2 := by cases nt <;> decide
/-- One character alone. -/
def oneC (nt : Bool) (n : Nat) (L H : Nat → Int) : Bool := !nt && (((n : Int) == 1) && (L 0 == H 0))
def ctT (nt : Bool) (n : Nat) (L H : Nat → Int) : ByteArray := if oneC nt n L H = true then chT sgO (L 0) else ctA (ct0 nt) L H n ++ ⟨#[93]⟩
theorem ctT_size {nt : Bool} {n : Nat} {L H : Nat → Int} (hn : n ≤ 12) : (ctT nt n L H).size ≤ 140 := by
  unfold ctT
  split
  · have := chT_size sgO (L 0); omega
  · have h1 := ctA_size (ct0 nt) L H n
    have h2 := ct0_size nt
    have h3 : (⟨#[93]⟩ : ByteArray).size = 1 := rfl
    rw [te_size]; omega
/-- A count's text. -/
def itB (n : Int) : ByteArray := ⟨(Lib.itoa n).toArray⟩
theorem itB_size {n : Int} (h0 : 0 ≤ n) (h1 : n ≤ 20) : (itB n).size ≤ 2 := by
  unfold itB Lib.itoa
  rw [if_neg (by omega)]
  show (Lib.decDigits n.toNat).toArray.size ≤ 2
  rw [List.size_toArray]
  by_cases h : n < 10
  · rw [Lib.decDigits_one (by omega)]; simp
  · rw [Lib.decDigits, dif_neg (by omega), Lib.decDigits_one (by omega)]; simp
def cnT (mn mx : Int) : ByteArray :=
  if mn = 0 ∧ mx = 1 then ⟨#[63]⟩ else if mn = 0 ∧ mx = -1 then ⟨#[42]⟩ else if mn = 1 ∧ mx = -1 then ⟨#[43]⟩ else
  if mn = mx then ⟨#[123]⟩ ++ itB mn ++ ⟨#[125]⟩ else if mx = -1 then ⟨#[123]⟩ ++ itB mn ++ ⟨#[44, 125]⟩ else ⟨#[123]⟩ ++ itB mn ++ ⟨#[44]⟩ ++ itB mx ++ ⟨#[125]⟩
theorem cnT_size {mn mx : Int} (h : 0 ≤ mn ∧ mn ≤ 20 ∧ mx ≤ 20 ∧ -1 ≤ mx) : (cnT mn mx).size ≤ 10 := by
  have h1 := itB_size h.1 h.2.1
  have e1 : (⟨#[123]⟩ : ByteArray).size = 1 := rfl
  have e2 : (⟨#[125]⟩ : ByteArray).size = 1 := rfl
  have e3 : (⟨#[44, 125]⟩ : ByteArray).size = 2 := rfl
  have e4 : (⟨#[44]⟩ : ByteArray).size = 1 := rfl
  unfold cnT
  split
  · show 1 ≤ 10; omega
  · split
    · show 1 ≤ 10; omega
    · split
      · show 1 ≤ 10; omega
      · split
        · simp only [te_size]; omega
        · split
          · simp only [te_size]; omega
          · rename_i hx
            have h2 := itB_size (n := mx) (by omega) h.2.2.1
            simp only [te_size]; omega
/-- Parentheses where the kind asks for them. -/
def wrT (ks : List Int) (k : Int) (t : ByteArray) : ByteArray := if ks.contains k = true then ⟨#[40]⟩ ++ t ++ ⟨#[41]⟩ else t
theorem wrT_size (ks : List Int) (k : Int) (t : ByteArray) : (wrT ks k t).size ≤ t.size + 2 := by
  have e1 : (⟨#[40]⟩ : ByteArray).size = 1 := rfl
  have e2 : (⟨#[41]⟩ : ByteArray).size = 1 := rfl
  unfold wrT
  split
  · simp only [te_size]; omega
  · omega
/-- A node's text. -/
def ntX (X : Rx) (n : Nat) : ByteArray :=
  if X.K n = 2 then ctT (X.NT n) (X.NR n) (X.L n) (X.H n)
  else if X.K n = 3 then (if h : (X.A n).toNat < n ∧ (X.B n).toNat < n then wrT [4] (X.K (X.A n).toNat) (ntX X (X.A n).toNat) ++ wrT [3, 4] (X.K (X.B n).toNat) (ntX X (X.B n).toNat) else ⟨#[]⟩)
  else if X.K n = 4 then (if h : (X.A n).toNat < n ∧ (X.B n).toNat < n then wrT [] (X.K (X.A n).toNat) (ntX X (X.A n).toNat) ++ ⟨#[124]⟩ ++ wrT [4] (X.K (X.B n).toNat) (ntX X (X.B n).toNat) else ⟨#[]⟩)
  else if X.K n = 5 then (if h : (X.A n).toNat < n then wrT [3, 4, 5] (X.K (X.A n).toNat) (ntX X (X.A n).toNat) ++ cnT (X.MN n) (X.MX n) else ⟨#[]⟩)
  else ⟨#[40, 41]⟩
termination_by n
decreasing_by all_goals omega
section
variable {X : Rx} {n a b : Nat}
theorem nt_class (h : X.K n = 2) : ntX X n = ctT (X.NT n) (X.NR n) (X.L n) (X.H n) := by rw [ntX, if_pos h]
theorem nt_seq (h : X.K n = 3) (hA : X.A n = (a : Int)) (hB : X.B n = (b : Int)) (ha : a < n) (hb : b < n) : ntX X n = wrT [4] (X.K a) (ntX X a) ++ wrT [3, 4] (X.K b) (ntX X b) := by
  rw [ntX, if_neg (by omega), if_pos h, hA, hB]
  simp only [Int.toNat_natCast]
  rw [dif_pos ⟨ha, hb⟩]
theorem nt_or (h : X.K n = 4) (hA : X.A n = (a : Int)) (hB : X.B n = (b : Int)) (ha : a < n) (hb : b < n) : ntX X n = ntX X a ++ ⟨#[124]⟩ ++ wrT [4] (X.K b) (ntX X b) := by
  rw [ntX, if_neg (by omega), if_neg (by omega), if_pos h, hA, hB]
  simp only [Int.toNat_natCast]
  rw [dif_pos ⟨ha, hb⟩]
  rfl
theorem nt_cnt (h : X.K n = 5) (hA : X.A n = (a : Int)) (ha : a < n) : ntX X n = wrT [3, 4, 5] (X.K a) (ntX X a) ++ cnT (X.MN n) (X.MX n) := by
  rw [ntX, if_neg (by omega), if_neg (by omega), if_neg (by omega), if_pos h, hA]
  simp only [Int.toNat_natCast]
  rw [dif_pos ha]
theorem nt_empty (h : X.K n = 1) : ntX X n = ⟨#[40, 41]⟩ := by
  rw [ntX, if_neg (by omega), if_neg (by omega), if_neg (by omega), if_neg (by omega)]
end
/-- What stands at a place of a tree. -/
theorem tr_parts {X : Rx} {n f : Nat} (h : trX X n = some f) (h2 : X.K n = 3 ∨ X.K n = 4) : ∃ c, X.A n = ((c - 1 : Nat) : Int) ∧ X.B n = ((n - 1 : Nat) : Int) ∧ c - 1 < n ∧ n - 1 < n ∧ 1 ≤ c ∧ c ≤ n - 1 ∧ trX X (n - 1) = some c ∧ trX X (c - 1) = some f := by
  have h2b : twoK X.K n = true := decide_eq_true h2
  unfold trX at h ⊢
  rw [tr_two _ _ _ _ h2b] at h
  split at h
  · cases h
  · rename_i hnB
    cases hr1 : tr (twoK X.K) (cntK X.K) X.A X.B (n - 1) with
    | none => rw [hr1] at h; cases h
    | some c =>
      rw [hr1] at h
      dsimp only at h
      split at h
      · cases h
      · rename_i hcA
        have hcl := tr_le _ _ _ _ hr1
        exact ⟨c, by omega, by omega, by omega, by omega, by omega, hcl, rfl, h⟩
theorem tr_part1 {X : Rx} {n f : Nat} (h : trX X n = some f) (h5 : X.K n = 5) : X.A n = ((n - 1 : Nat) : Int) ∧ n - 1 < n ∧ trX X (n - 1) = some f := by
  have h2b : ¬ twoK X.K n = true := by unfold twoK; rw [decide_eq_true_iff]; omega
  have h5b : cntK X.K n = true := decide_eq_true h5
  unfold trX at h ⊢
  rw [tr_cnt _ _ _ _ h2b h5b] at h
  split at h
  · cases h
  · rename_i hn
    exact ⟨by omega, by omega, h⟩
/-- The nodes are right by themselves: what of it the texts want. -/
def NdOk (X : Rx) (len : Nat) : Prop := ∀ j, j < len → (X.K j = 5 → 0 ≤ X.MN j ∧ X.MN j ≤ 20 ∧ X.MX j ≤ 20 ∧ -1 ≤ X.MX j) ∧ (X.K j = 2 → 1 ≤ X.NR j ∧ X.NR j ≤ 12 ∧ ∀ i, i < X.NR j → chB (X.L j i) = true ∧ chB (X.H j i) = true ∧ X.L j i ≤ X.H j i) ∧ (X.K j = 1 ∨ X.K j = 2 ∨ X.K j = 3 ∨ X.K j = 4 ∨ X.K j = 5)
theorem nt_size (X : Rx) (len : Nat) (hm : NdOk X len) : ∀ (m n f : Nat), n < m → n < len → trX X n = some f → (ntX X n).size ≤ 150 * (n + 1 - f) ∧ f ≤ n
  | 0, n, f, h, _, _ => by omega
  | m + 1, n, f, h, hl, ht => by
    have hfn : f ≤ n := tr_le _ _ _ _ ht
    refine ⟨?_, hfn⟩
    obtain ⟨h5, h2, hk⟩ := hm n hl
    rcases hk with k1 | k2 | k3 | k4 | k5
    · rw [nt_empty k1]
      have : (⟨#[40, 41]⟩ : ByteArray).size = 2 := rfl
      omega
    · rw [nt_class k2]
      have := ctT_size (nt := X.NT n) (L := X.L n) (H := X.H n) (h2 k2).2.1
      omega
    · obtain ⟨c, hA, hB, ha, hb, h1, hc, t1, t2⟩ := tr_parts ht (.inl k3)
      have ih1 := nt_size X len hm m (n - 1) c (by omega) (by omega) t1
      have ih2 := nt_size X len hm m (c - 1) f (by omega) (by omega) t2
      have w1 := wrT_size [4] (X.K (c - 1)) (ntX X (c - 1))
      have w2 := wrT_size [3, 4] (X.K (n - 1)) (ntX X (n - 1))
      rw [nt_seq k3 hA hB ha hb, te_size]
      omega
    · obtain ⟨c, hA, hB, ha, hb, h1, hc, t1, t2⟩ := tr_parts ht (.inr k4)
      have ih1 := nt_size X len hm m (n - 1) c (by omega) (by omega) t1
      have ih2 := nt_size X len hm m (c - 1) f (by omega) (by omega) t2
      have w2 := wrT_size [4] (X.K (n - 1)) (ntX X (n - 1))
      have e1 : (⟨#[124]⟩ : ByteArray).size = 1 := rfl
      rw [nt_or k4 hA hB ha hb, te_size, te_size]
      omega
    · obtain ⟨hA, ha, t1⟩ := tr_part1 ht k5
      have ih1 := nt_size X len hm m (n - 1) f (by omega) (by omega) t1
      have w2 := wrT_size [3, 4, 5] (X.K (n - 1)) (ntX X (n - 1))
      have w3 := cnT_size (h5 k5)
      rw [nt_cnt k5 hA ha, te_size]
      omega
/-- A node's text, as the specification asks for it: free (-1), in a row (0), at its right (1), in a count (2). -/
def txX (X : Rx) (t : Int) (n : Nat) : ByteArray := if t = -1 then (if X.K n = 1 then ⟨#[]⟩ else ntX X n) else if t = 0 then wrT [4] (X.K n) (ntX X n) else if t = 1 then wrT [3, 4] (X.K n) (ntX X n) else wrT [3, 4, 5] (X.K n) (ntX X n)
end Go.Proofs.YtepommmmmfaihaaDoor
