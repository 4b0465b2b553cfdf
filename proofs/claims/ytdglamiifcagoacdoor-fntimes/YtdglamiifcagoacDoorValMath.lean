/-
  Plain facts, of no program: the number that digits are.
-/
import Derived.Test.YtdglamiifcagoacDoorTextMath
import Derived.Laws.Strings
namespace Go.Proofs.YtdglamiifcagoacDoor
def dgt (c : UInt8) : Nat := c.toNat - 48
/-- The number that a row of digits is, the greatest first. -/
def valL (l : List UInt8) : Nat := l.foldl (fun a c => 10 * a + dgt c) 0
theorem valL_from (l : List UInt8) : ∀ a, l.foldl (fun a c => 10 * a + dgt c) a = a * 10 ^ l.length + valL l := by
  induction l with
  | nil => intro a; simp [valL]
  | cons c l ih =>
    intro a
    simp only [List.foldl_cons, List.length_cons, valL]
    rw [ih (10 * a + dgt c), ih (10 * 0 + dgt c), Nat.pow_succ]
    generalize valL l = v
    generalize 10 ^ l.length = p
    generalize dgt c = d
    rw [Nat.add_mul, Nat.add_mul, Nat.mul_comm 10 a, Nat.mul_assoc a 10 p, Nat.mul_comm 10 p]
    omega
theorem valL_nil : valL [] = 0 := rfl
theorem valL_cons (c : UInt8) (l : List UInt8) : valL (c :: l) = dgt c * 10 ^ l.length + valL l := by
  have := valL_from l (10 * 0 + dgt c)
  simp only [valL, List.foldl_cons] at this ⊢
  rw [this]; simp
theorem valL_app (a b : List UInt8) : valL (a ++ b) = valL a * 10 ^ b.length + valL b := by
  unfold valL
  rw [List.foldl_append, valL_from b]
  rfl
theorem valL_zeros (k : Nat) : valL (List.replicate k 48) = 0 := by
  induction k with
  | zero => rfl
  | succ k ih => rw [List.replicate_succ, valL_cons, ih]; simp [dgt]
def dgL (l : List UInt8) : Prop := ∀ c ∈ l, 48 ≤ c.toNat ∧ c.toNat ≤ 57
theorem dgL_app {a b : List UInt8} (ha : dgL a) (hb : dgL b) : dgL (a ++ b) := fun c h => by
  rcases List.mem_append.1 h with h | h
  · exact ha c h
  · exact hb c h
theorem dgL_zeros (k : Nat) : dgL (List.replicate k 48) := fun c h => by
  rw [(List.mem_replicate.1 h).2]; decide
theorem dgL_of (s : ByteArray) (h : digsB s = true) : dgL s.data.toList := fun c hc => by
  obtain ⟨j, hj, rfl⟩ := List.getElem_of_mem hc
  have hj' : j < s.size := by simpa using hj
  have := digsB_at s h j hj'
  simp only [digitB, decide_eq_true_eq] at this
  have e : s.data.toList[j] = s[j] := rfl
  rw [e]; omega
theorem valL_lt (l : List UInt8) (h : dgL l) : valL l < 10 ^ l.length := by
  induction l with
  | nil => simp [valL]
  | cons c l ih =>
    have h1 := h c List.mem_cons_self
    have h2 := ih (fun d hd => h d (List.mem_cons_of_mem _ hd))
    rw [valL_cons, List.length_cons, Nat.pow_succ]
    have h3 : dgt c ≤ 9 := by unfold dgt; omega
    have h4 : dgt c * 10 ^ l.length ≤ 9 * 10 ^ l.length := Nat.mul_le_mul_right _ h3
    omega
/-- Rows of digits of one length stand in the order of their numbers. -/
theorem lex_val : ∀ (x y : List UInt8), dgL x → dgL y → x.length = y.length → (x < y ↔ valL x < valL y)
  | [], [], _, _, _ => by simp [valL]
  | [], _ :: _, _, _, h => by simp at h
  | _ :: _, [], _, _, h => by simp at h
  | c :: x, d :: y, hx, hy, h => by
    have hl : x.length = y.length := by simpa using h
    have c1 := hx c List.mem_cons_self
    have d1 := hy d List.mem_cons_self
    have hx' : dgL x := fun e he => hx e (List.mem_cons_of_mem _ he)
    have hy' : dgL y := fun e he => hy e (List.mem_cons_of_mem _ he)
    have ih := lex_val x y hx' hy' hl
    have vx := valL_lt x hx'
    have vy := valL_lt y hy'
    rw [List.cons_lt_cons_iff, valL_cons, valL_cons, hl]
    rw [hl] at vx
    generalize hp : 10 ^ y.length = p at *
    rcases Nat.lt_trichotomy c.toNat d.toNat with h1 | h1 | h1
    · have : dgt c + 1 ≤ dgt d := by unfold dgt; omega
      have := Nat.mul_le_mul_right p this
      rw [Nat.add_mul, Nat.one_mul] at this
      constructor
      · intro _; omega
      · intro _; left; exact UInt8.lt_iff_toNat_lt.2 h1
    · have e : c = d := UInt8.toNat_inj.1 h1
      subst e
      constructor
      · rintro (h2 | ⟨_, h2⟩)
        · exact absurd (UInt8.lt_iff_toNat_lt.1 h2) (by omega)
        · have := ih.1 h2; omega
      · intro h2; right; exact ⟨rfl, ih.2 (by omega)⟩
    · have : dgt d + 1 ≤ dgt c := by unfold dgt; omega
      have := Nat.mul_le_mul_right p this
      rw [Nat.add_mul, Nat.one_mul] at this
      constructor
      · rintro (h2 | ⟨h2, _⟩)
        · exact absurd (UInt8.lt_iff_toNat_lt.1 h2) (by omega)
        · exact absurd (congrArg UInt8.toNat h2) (by omega)
      · intro h2; omega
theorem val_inj : ∀ (x y : List UInt8), dgL x → dgL y → x.length = y.length → valL x = valL y → x = y
  | [], [], _, _, _, _ => rfl
  | [], _ :: _, _, _, h, _ => by simp at h
  | _ :: _, [], _, _, h, _ => by simp at h
  | c :: x, d :: y, hx, hy, h, hv => by
    have hl : x.length = y.length := by simpa using h
    have c1 := hx c List.mem_cons_self
    have d1 := hy d List.mem_cons_self
    have hx' : dgL x := fun e he => hx e (List.mem_cons_of_mem _ he)
    have hy' : dgL y := fun e he => hy e (List.mem_cons_of_mem _ he)
    have vx := valL_lt x hx'
    have vy := valL_lt y hy'
    rw [valL_cons, valL_cons, hl] at hv
    rw [hl] at vx
    have hcd : c.toNat = d.toNat := by
      generalize hp : 10 ^ y.length = p at *
      rcases Nat.lt_trichotomy c.toNat d.toNat with h1 | h1 | h1
      · have : dgt c + 1 ≤ dgt d := by unfold dgt; omega
        have := Nat.mul_le_mul_right p this
        rw [Nat.add_mul, Nat.one_mul] at this
        omega
      · exact h1
      · have : dgt d + 1 ≤ dgt c := by unfold dgt; omega
        have := Nat.mul_le_mul_right p this
        rw [Nat.add_mul, Nat.one_mul] at this
        omega
    have e : c = d := UInt8.toNat_inj.1 hcd
    subst e
    rw [val_inj x y hx' hy' hl (by omega)]
theorem less_lex : ∀ (x y : List UInt8), Op.bytesLess x y = decide (x < y)
  | [], [] => by simp [Op.bytesLess]
  | _ :: _, [] => by simp [Op.bytesLess]
  | [], _ :: _ => by simp [Op.bytesLess]
  | a :: x, b :: y => by
    rw [Op.bytesLess, less_lex x y, Bool.eq_iff_iff]
    simp [List.cons_lt_cons_iff]
theorem less_val (x y : ByteArray) (hx : dgL x.data.toList) (hy : dgL y.data.toList) (h : x.size = y.size) : Op.bytesLess x.toList y.toList = decide (valL x.data.toList < valL y.data.toList) := by
  rw [ByteArray.toList_eq, ByteArray.toList_eq, less_lex, Bool.eq_iff_iff]
  simp only [decide_eq_true_eq]
  exact lex_val _ _ hx hy (by simpa using h)
theorem eq_val (x y : ByteArray) (hx : dgL x.data.toList) (hy : dgL y.data.toList) (h : x.size = y.size) : (x.toList == y.toList) = decide (valL x.data.toList = valL y.data.toList) := by
  rw [ByteArray.toList_eq, ByteArray.toList_eq, Bool.eq_iff_iff]
  simp only [decide_eq_true_eq, beq_iff_eq]
  exact ⟨fun e => by rw [e], val_inj _ _ hx hy (by simpa using h)⟩
/-- The digits with noughts ahead and 'k' noughts behind. -/
def Padded (x s : ByteArray) (k : Nat) : Prop := ∃ p, x = zerosB p ++ (s ++ zerosB k)
theorem ba_toList_append (a b : ByteArray) : (a ++ b).data.toList = a.data.toList ++ b.data.toList := by simp
theorem zerosB_list (k : Nat) : (zerosB k).data.toList = List.replicate k 48 := by simp [zerosB]
theorem padded_val {x s : ByteArray} {k : Nat} (h : Padded x s k) : valL x.data.toList = valL s.data.toList * 10 ^ k := by
  obtain ⟨p, rfl⟩ := h
  rw [ba_toList_append, ba_toList_append, valL_app, valL_app, zerosB_list, zerosB_list, valL_zeros, valL_zeros]
  simp
theorem padded_dg {x s : ByteArray} {k : Nat} (h : Padded x s k) (hd : digsB s = true) : dgL x.data.toList := by
  obtain ⟨p, rfl⟩ := h
  rw [ba_toList_append, ba_toList_append, zerosB_list, zerosB_list]
  exact dgL_app (dgL_zeros _) (dgL_app (dgL_of s hd) (dgL_zeros _))
theorem padded_cons {x s : ByteArray} {k : Nat} (h : Padded x s k) : Padded ((⟨#[48]⟩ : ByteArray) ++ x) s k := by
  obtain ⟨p, rfl⟩ := h
  exact ⟨p + 1, zeros_step p _⟩
theorem snoc_zero (s : ByteArray) (k : Nat) : s ++ zerosB k ++ (⟨#[48]⟩ : ByteArray) = s ++ zerosB (k + 1) := by
  rw [ByteArray.append_assoc]
  congr 1
  apply ba_ext
  simp [zerosB, List.replicate_succ']
theorem padded_start (s : ByteArray) (k : Nat) : Padded (s ++ zerosB k) s k := ⟨0, by rw [zerosB_0]; simp⟩
end Go.Proofs.YtdglamiifcagoacDoor
