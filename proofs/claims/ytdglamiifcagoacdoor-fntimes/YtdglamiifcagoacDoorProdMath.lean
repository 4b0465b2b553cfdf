/-
  Plain facts, of no program: what a product that is a right number says of its value.
-/
import Derived.Test.YtdglamiifcagoacDoorSumMath
import Derived.Test.YtdglamiifcagoacDoorTimesD
import Derived.Test.YtdglamiifcagoacDoorSumMath
namespace Go.Proofs.YtdglamiifcagoacDoor
set_option linter.unusedSimpArgs false
theorem decRes_back {n : Bool} {v c : Nat} {n' : Bool} {s : ByteArray} {c' : Int} (h : decRes n v c = (n', s, c', true)) : decB n' s c' = true ∧ v = valL s.data.toList * 10 ^ (c - c'.toNat) ∧ c'.toNat ≤ c ∧ (v ≠ 0 → n' = n) ∧ (s.size = 0 ↔ v = 0) := by
  have hr := decRes_right _ _ _ n' s c' h
  obtain ⟨hv, hc⟩ := canon_val c v
  unfold decRes at h
  by_cases h0 : (canonV v c).1 = 0
  · rw [if_pos h0] at h
    simp only [Prod.mk.injEq, and_true] at h
    obtain ⟨rfl, rfl, rfl⟩ := h
    rw [h0, Nat.zero_mul] at hv
    subst hv
    exact ⟨hr, by simp [valL], by simp, fun e => absurd rfl e, by simp⟩
  · rw [if_neg h0] at h
    by_cases h1 : (digs (canonV v c).1).length ≤ 60 ∧ (canonV v c).2 ≤ 60
    · rw [if_pos h1] at h
      simp only [Prod.mk.injEq, and_true] at h
      obtain ⟨rfl, rfl, rfl⟩ := h
      have hne : v ≠ 0 := by
        intro e
        subst e
        rw [canon_zero] at h0
        exact h0 rfl
      refine ⟨hr, by rw [valL_digs]; simpa using hv, by simpa using hc, fun _ => rfl, ?_⟩
      have hd := digs_ne _ h0
      have : (⟨(digs (canonV v c).1).toArray⟩ : ByteArray).size = (digs (canonV v c).1).length := by simp [ByteArray.size]
      rw [this]
      constructor
      · intro e; exact absurd (List.length_eq_zero_iff.1 e) hd
      · intro e; exact absurd e hne
    · rw [if_neg h1] at h
      simp at h
theorem right_zero {n : Bool} {s : ByteArray} {c : Int} (h : decB n s c = true) : valL s.data.toList = 0 ↔ s.size = 0 := by
  obtain ⟨hd, hn, _⟩ := right_parts h
  constructor
  · intro e
    by_cases h0 : s.size = 0
    · exact h0
    · have := noLead_pos hd hn (fun e2 => h0 (by simpa using congrArg List.length e2))
      omega
  · intro e
    have : s = ByteArray.empty := ByteArray.size_eq_zero_iff.1 e
    subst this
    rfl
theorem times_comm (n m : Bool) (s t : ByteArray) (c d : Int) : timesB m t d n s c = timesB n s c m t d := by
  unfold timesB
  rw [Nat.mul_comm, Int.add_comm, show (m != n) = (n != m) by cases m <;> cases n <;> rfl]
  by_cases h : decB n s c = true ∧ decB m t d = true
  · rw [if_pos h, if_pos ⟨h.2, h.1⟩]
  · rw [if_neg h, if_neg (fun x => h ⟨x.2, x.1⟩)]
theorem times_right {n m : Bool} {s t : ByteArray} {c d : Int} {n' : Bool} {s' : ByteArray} {c' : Int} (h : timesB n s c m t d = (n', s', c', true)) : decB n s c = true ∧ decB m t d = true := by
  by_cases hr : decB n s c = true ∧ decB m t d = true
  · exact hr
  · rw [timesB, if_neg hr] at h
    simp at h
theorem add_right {n m : Bool} {s t : ByteArray} {c d : Int} {n' : Bool} {s' : ByteArray} {c' : Int} (h : addB n s c m t d = (n', s', c', true)) : decB n s c = true ∧ decB m t d = true ∧ decB n' s' c' = true ∧ iv n' s' c' = iv n s c + iv m t d := by
  by_cases hr : decB n s c = true ∧ decB m t d = true
  · rw [addB_yes hr.1 hr.2] at h
    have := res60_back h
    exact ⟨hr.1, hr.2, this.1, this.2.1⟩
  · rw [addB, if_neg hr] at h
    simp at h
theorem pow_split {a b c : Nat} (h : a + b = c) : 10 ^ a * 10 ^ b = 10 ^ c := by rw [← Nat.pow_add, h]
theorem times_val {n m : Bool} {s t : ByteArray} {c d : Int} {n' : Bool} {s' : ByteArray} {c' : Int} (h : timesB n s c m t d = (n', s', c', true)) :
    decB n' s' c' = true ∧ iv n' s' c' * (10 ^ 60 : Nat) = iv n s c * iv m t d ∧ (s'.size = 0 ↔ (s.size = 0 ∨ t.size = 0)) := by
  obtain ⟨h1, h2⟩ := times_right h
  rw [timesB_yes h1 h2] at h
  obtain ⟨hr, hv, hc, hn, hz⟩ := decRes_back h
  have b1 := decB_bounds h1
  have b2 := decB_bounds h2
  have b3 := decB_bounds hr
  have hm : mag s' c' * 10 ^ 60 = mag s c * mag t d := by
    have e1 : mag s c * mag t d = (valL s.data.toList * valL t.data.toList) * (10 ^ (60 - c).toNat * 10 ^ (60 - d).toNat) := by
      unfold mag
      rw [Nat.mul_assoc, Nat.mul_assoc, Nat.mul_left_comm (10 ^ (60 - c).toNat)]
    rw [e1, hv, Nat.mul_assoc, mag, Nat.mul_assoc, pow_split rfl, pow_split rfl, pow_split rfl]
    congr 2
    omega
  refine ⟨hr, ?_, ?_⟩
  · have hmi : (mag s' c' : Int) * (10 ^ 60 : Nat) = (mag s c : Int) * (mag t d : Int) := by exact_mod_cast hm
    by_cases hv0 : valL s.data.toList * valL t.data.toList = 0
    · have hs0 := hz.2 hv0
      have e0 : iv n' s' c' = 0 := (neg_none hr hs0).2.2.2
      have e1 : (mag s c : Int) * (mag t d : Int) = 0 := by
        rw [← hmi]
        have : mag s' c' = 0 := by rw [mag, (right_zero hr).2 hs0, Nat.zero_mul]
        rw [this]; rfl
      rw [e0, Int.zero_mul]
      cases n <;> cases m <;> simp only [iv, Bool.false_eq_true, if_false, if_true, Int.neg_mul, Int.mul_neg, Int.neg_neg, e1] <;> rfl
    · have hn' := hn hv0
      subst hn'
      cases n <;> cases m
      · exact hmi
      · show -(mag s' c' : Int) * (10 ^ 60 : Nat) = (mag s c : Int) * -(mag t d : Int)
        rw [Int.neg_mul, Int.mul_neg, hmi]
      · show -(mag s' c' : Int) * (10 ^ 60 : Nat) = -(mag s c : Int) * (mag t d : Int)
        rw [Int.neg_mul, Int.neg_mul, hmi]
      · show (mag s' c' : Int) * (10 ^ 60 : Nat) = -(mag s c : Int) * -(mag t d : Int)
        rw [Int.neg_mul_neg, hmi]
  · rw [hz, Nat.mul_eq_zero, right_zero h1, right_zero h2]
theorem over_sums {n1 n2 n3 n4 n5 n6 n7 n9 : Bool} {s1 s2 s3 s4 s5 s6 s7 s9 : ByteArray} {c1 c2 c3 c4 c5 c6 c7 c9 : Int}
    (hp : timesB n1 s1 c1 n2 s2 c2 = (n9, s9, c9, true)) (h4 : addB n1 s1 c1 n3 s3 c3 = (n4, s4, c4, true)) (h5 : timesB n4 s4 c4 n2 s2 c2 = (n5, s5, c5, true)) (h6 : timesB n3 s3 c3 n2 s2 c2 = (n6, s6, c6, true)) (h7 : addB n9 s9 c9 n6 s6 c6 = (n7, s7, c7, true)) : n5 = n7 ∧ s5 = s7 ∧ c5 = c7 := by
  obtain ⟨-, -, -, v4⟩ := add_right h4
  obtain ⟨-, -, r7, v7⟩ := add_right h7
  obtain ⟨-, vp, -⟩ := times_val hp
  obtain ⟨r5, v5, -⟩ := times_val h5
  obtain ⟨-, v6, -⟩ := times_val h6
  apply iv_inj r5 r7
  have e : iv n5 s5 c5 * (10 ^ 60 : Nat) = iv n7 s7 c7 * (10 ^ 60 : Nat) := by rw [v5, v7, v4, Int.add_mul, Int.add_mul, vp, v6]
  exact Int.eq_of_mul_eq_mul_right (by decide) e
theorem decRes_sz60 (n : Bool) (v c : Nat) : (decRes n v c).2.1.size ≤ 60 := by
  unfold decRes
  split
  · exact Nat.zero_le _
  · split
    · rename_i h
      have e : (⟨(digs (canonV v c).1).toArray⟩ : ByteArray).size = (digs (canonV v c).1).length := by show (digs (canonV v c).1).toArray.size = _; simp
      rw [e]; exact h.1
    · exact Nat.zero_le _
theorem add_size (n : Bool) (s : ByteArray) (c : Int) (m : Bool) (t : ByteArray) (d : Int) : (addB n s c m t d).2.1.size ≤ 60 := by
  unfold addB
  split
  · exact decRes_sz60 _ _ _
  · decide
theorem times_size (n : Bool) (s : ByteArray) (c : Int) (m : Bool) (t : ByteArray) (d : Int) : (timesB n s c m t d).2.1.size ≤ 60 := by
  unfold timesB
  split
  · exact decRes_sz60 _ _ _
  · decide
end Go.Proofs.YtdglamiifcagoacDoor
