/-
  Plain facts, of no program: the right number that digits and a scale are.
-/
import Derived.Test.YtdglamiifcagoacDoorCmpMath
namespace Go.Proofs.YtdglamiifcagoacDoor
/-- Tens are taken out as long as there is a scale. -/
def canonV : Nat → Nat → Nat × Nat
  | v, 0 => (v, 0)
  | v, c + 1 => if v % 10 = 0 then canonV (v / 10) c else (v, c + 1)
theorem canon_ten (v c : Nat) : canonV (10 * v) (c + 1) = canonV v c := by
  rw [canonV, if_pos (by omega), show 10 * v / 10 = v by omega]
theorem canon_pow (v c : Nat) : ∀ k, canonV (v * 10 ^ k) (c + k) = canonV v c
  | 0 => by simp
  | k + 1 => by
    rw [show v * 10 ^ (k + 1) = 10 * (v * 10 ^ k) by rw [Nat.pow_succ, ← Nat.mul_assoc, Nat.mul_comm], show c + (k + 1) = (c + k) + 1 by omega, canon_ten, canon_pow v c k]
theorem canon_stop (v c : Nat) (h : c = 0 ∨ v % 10 ≠ 0) : canonV v c = (v, c) := by
  cases c with
  | zero => rfl
  | succ c => rw [canonV, if_neg (by omega)]
theorem canon_zero : ∀ c, canonV 0 c = (0, 0)
  | 0 => rfl
  | c + 1 => by rw [canonV, if_pos (by omega)]; exact canon_zero c
/-- The digits of a number, none of nought. -/
def digs (v : Nat) : List UInt8 := if _h : v = 0 then [] else digs (v / 10) ++ [UInt8.ofNat (48 + v % 10)]
  termination_by v
  decreasing_by omega
theorem digs_step (v d : Nat) (hd : d ≤ 9) (h : 0 < 10 * v + d) : digs (10 * v + d) = digs v ++ [UInt8.ofNat (48 + d)] := by
  rw [digs, dif_neg (by omega), show (10 * v + d) / 10 = v by omega, show (10 * v + d) % 10 = d by omega]
theorem valL_snoc (l : List UInt8) (c : UInt8) : valL (l ++ [c]) = 10 * valL l + dgt c := by
  rw [valL_app]; simp [valL]; omega
/-- No nought ahead. -/
def noLead (t : List UInt8) : Prop := ∀ c l, t = c :: l → c.toNat ≠ 48
theorem noLead_pos {t : List UInt8} (hd : dgL t) (h : noLead t) (hne : t ≠ []) : 0 < valL t := by
  cases t with
  | nil => exact absurd rfl hne
  | cons c l =>
    have h1 := h c l rfl
    have h2 := hd c List.mem_cons_self
    rw [valL_cons]
    have h3 : 1 ≤ dgt c := by unfold dgt; omega
    have h4 := Nat.mul_le_mul_right (10 ^ l.length) h3
    have := pow_pos10 l.length
    omega
theorem digs_val : ∀ (k : Nat) (t : List UInt8), t.length = k → dgL t → noLead t → digs (valL t) = t
  | 0, t, hk, _, _ => by
    have : t = [] := List.length_eq_zero_iff.1 hk
    subst this
    rw [valL_nil, digs, dif_pos rfl]
  | k + 1, t, hk, hd, hn => by
    rcases List.eq_nil_or_concat t with rfl | ⟨u, c, rfl⟩
    · simp at hk
    · rw [List.concat_eq_append] at *
      have hl : u.length = k := by simpa using hk
      have hc := hd c (by simp)
      have hu : dgL u := fun e he => hd e (by simp [he])
      have hnu : noLead u := fun e l he => hn e (l ++ [c]) (by rw [he]; rfl)
      have hpos : 0 < 10 * valL u + dgt c := by
        have := noLead_pos hd hn (by simp)
        rw [valL_snoc] at this; exact this
      have hdc : dgt c ≤ 9 := by unfold dgt; omega
      rw [valL_snoc, digs_step _ _ hdc hpos, digs_val k u hl hu hnu]
      congr 2
      apply UInt8.toNat_inj.1
      rw [UInt8.toNat_ofNat']
      unfold dgt
      omega
/-- What a number of 'v' in units of the place 'c' is, if it is right: sign, digits, scale, and whether. -/
def decRes (n : Bool) (v c : Nat) : Bool × ByteArray × Int × Bool :=
  if (canonV v c).1 = 0 then (false, ByteArray.empty, 0, true)
  else if (digs (canonV v c).1).length ≤ 60 ∧ (canonV v c).2 ≤ 60 then (n, ⟨(digs (canonV v c).1).toArray⟩, ((canonV v c).2 : Int), true)
  else (false, ByteArray.empty, 0, false)
theorem decRes_pow (n : Bool) (v c k : Nat) : decRes n (v * 10 ^ k) (c + k) = decRes n v c := by
  unfold decRes; rw [canon_pow]
theorem decRes_zero (n m : Bool) (v c : Nat) (h : v = 0) : decRes n v c = decRes m v c := by
  subst h; unfold decRes; rw [canon_zero]; simp
theorem lastNe {t : List UInt8} (h : ∀ u c, t = u ++ [c] → c.toNat ≠ 48) (hd : dgL t) (hne : t ≠ []) : valL t % 10 ≠ 0 := by
  rcases List.eq_nil_or_concat t with rfl | ⟨u, c, rfl⟩
  · exact absurd rfl hne
  · rw [List.concat_eq_append] at *
    have h1 := h u c rfl
    have h2 := hd c (by simp)
    rw [valL_snoc]
    have h3 : 1 ≤ dgt c := by unfold dgt; omega
    have h4 : dgt c ≤ 9 := by unfold dgt; omega
    omega
/-- Where the noughts have been taken away. -/
theorem norm_exit (n : Bool) (t : ByteArray) (k v c : Nat) (hd : dgL t.data.toList) (hn : noLead t.data.toList) (hl : k = 0 ∨ t.size = 0 ∨ ∀ u c, t.data.toList = u ++ [c] → c.toNat ≠ 48)
    (hv : canonV (valL t.data.toList) k = canonV v c) :
    decRes n v c = if t.size = 0 then (false, ByteArray.empty, 0, true) else if decB n t (k : Int) = true then (n, t, (k : Int), true) else (false, ByteArray.empty, 0, false) := by
  by_cases h0 : t.size = 0
  · have e : t.data.toList = [] := by apply List.length_eq_zero_iff.1; simpa using h0
    rw [e, valL_nil, canon_zero] at hv
    unfold decRes
    rw [← hv, if_pos rfl, if_pos h0]
  · have hne : t.data.toList ≠ [] := fun e => h0 (by simpa using congrArg List.length e)
    have hp := noLead_pos hd hn hne
    have hst : canonV (valL t.data.toList) k = (valL t.data.toList, k) := by
      apply canon_stop
      rcases hl with h | h | h
      · exact .inl h
      · exact absurd h h0
      · exact .inr (lastNe h hd hne)
    rw [hst] at hv
    have hdig := digs_val _ _ rfl hd hn
    have hB : decB n t (k : Int) = decide (t.size ≤ 60 ∧ k ≤ 60) := by
      have hdg : digsB t = true := digsB_yes t (fun j h => by
        have := hd t[j] (by have : t[j] = t.data.toList[j]'(by simpa using h) := rfl; rw [this]; exact List.getElem_mem _)
        simp only [digitB, decide_eq_true_eq]; omega)
      by_cases hs : t.size ≤ 60
      · by_cases hk : k ≤ 60
        · rw [decB_some n t k (by omega) hs hdg (by omega) (by omega)]
          have hf : (t[0].toNat : Int) ≠ 48 := by
            cases hq : t.data.toList with
            | nil => exact absurd hq hne
            | cons a l =>
              have := hn a l hq
              have e2 : t.data.toList[0]? = some t[0] := List.getElem?_eq_getElem (by simp; omega)
              rw [hq] at e2
              have e5 : a = t[0] := Option.some.inj e2
              rw [← e5]
              omega
          have hla : k = 0 ∨ (t[t.size - 1].toNat : Int) ≠ 48 := by
            rcases hl with h | h | h
            · exact .inl h
            · exact absurd h h0
            · right
              have e3 : t.data.toList.length - 1 < t.data.toList.length := by have := List.length_pos_iff.2 hne; omega
              have := h (t.data.toList.dropLast) (t.data.toList[t.data.toList.length - 1]) (by rw [← List.getLast_eq_getElem hne]; exact (List.dropLast_concat_getLast hne).symm)
              have e4 : t[t.size - 1] = t.data.toList[t.data.toList.length - 1] := by
                have : t[t.size - 1] = t.data.toList[t.size - 1]'(by simp; omega) := rfl
                rw [this]; congr 1
              rw [e4]; omega
          rw [decide_eq_true (show t.size ≤ 60 ∧ k ≤ 60 from ⟨hs, hk⟩), decide_eq_true hf]
          rcases hla with h | h
          · simp [h]
          · simp [h]
        · rw [decB_scale n t k (by omega)]; simp; omega
      · rw [decB_long n t k (by omega)]; simp; omega
    unfold decRes
    rw [← hv, if_neg (by show ¬ valL t.data.toList = 0; omega), if_neg h0, hB]
    simp only [hdig]
    have hsz : t.data.toList.length = t.size := by simp
    by_cases h : t.size ≤ 60 ∧ k ≤ 60
    · rw [if_pos (by rw [hsz]; exact h), if_pos (by simpa using h)]
    · rw [if_neg (by rw [hsz]; exact h), if_neg (by simpa using h)]
end Go.Proofs.YtdglamiifcagoacDoor
