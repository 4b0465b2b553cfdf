/-
  Plain facts, of no program: what a sum that is a right number says of its value, and the other way.
-/
import Derived.Test.YtdglamiifcagoacDoorAddB
import Derived.Test.YtdglamiifcagoacDoorRoundText
namespace Go.Proofs.YtdglamiifcagoacDoor
theorem canon_val : ∀ (c v : Nat), v = (canonV v c).1 * 10 ^ (c - (canonV v c).2) ∧ (canonV v c).2 ≤ c
  | 0, v => by simp [canonV]
  | c + 1, v => by
    by_cases h : v % 10 = 0
    · have e : canonV v (c + 1) = canonV (v / 10) c := by rw [canonV, if_pos h]
      obtain ⟨h1, h2⟩ := canon_val c (v / 10)
      rw [e]
      refine ⟨?_, by omega⟩
      have h3 : c + 1 - (canonV (v / 10) c).2 = (c - (canonV (v / 10) c).2) + 1 := by omega
      rw [h3, Nat.pow_succ, ← Nat.mul_assoc, ← h1]
      omega
    · have e : canonV v (c + 1) = (v, c + 1) := by rw [canonV, if_neg h]
      rw [e]
      simp
theorem res60_self {n : Bool} {s : ByteArray} {c : Int} (h : decB n s c = true) : res60 (iv n s c) = (n, s, c, true) := by
  have hb := decB_bounds h
  have e : (iv n s c).natAbs = valL s.data.toList * 10 ^ (60 - c).toNat := by
    cases n
    · exact Int.natAbs_natCast (mag s c)
    · exact (Int.natAbs_neg _).trans (Int.natAbs_natCast (mag s c))
  rw [← res60_is n (valL s.data.toList) c (iv n s c) (by omega) (by omega) e ?_]
  · exact decRes_self h
  · intro hz
    cases n
    · have : (0 : Int) ≤ (mag s c : Int) := by omega
      simp only [iv, Bool.false_eq_true, if_false, decide_eq_false_iff_not]; omega
    · have := mag_pos h
      simp only [iv, if_true, decide_eq_true_eq]; omega
theorem iv_inj {n m : Bool} {s t : ByteArray} {c d : Int} (h1 : decB n s c = true) (h2 : decB m t d = true) (h : iv n s c = iv m t d) : n = m ∧ s = t ∧ c = d := by
  have e1 := res60_self h1
  have e2 := res60_self h2
  rw [h, e2] at e1
  simp only [Prod.mk.injEq, and_true] at e1
  exact ⟨e1.1.symm, e1.2.1.symm, e1.2.2.symm⟩
theorem valL_digs (v : Nat) : valL (⟨(digs v).toArray⟩ : ByteArray).data.toList = v := by simpa using digs_back v
theorem res60_back {z : Int} {n : Bool} {s : ByteArray} {c : Int} (h : res60 z = (n, s, c, true)) : decB n s c = true ∧ iv n s c = z ∧ n = decide (z < 0) ∧ (s.size = 0 ↔ z = 0) := by
  have hr := decRes_right _ _ _ n s c h
  obtain ⟨hv, hc⟩ := canon_val 60 z.natAbs
  unfold res60 decRes at h
  by_cases h0 : (canonV z.natAbs 60).1 = 0
  · rw [if_pos h0] at h
    simp only [Prod.mk.injEq, and_true] at h
    obtain ⟨rfl, rfl, rfl⟩ := h
    rw [h0, Nat.zero_mul] at hv
    have hz : z = 0 := by omega
    subst hz
    exact ⟨hr, by simp [iv, mag, valL], by simp, by simp⟩
  · rw [if_neg h0] at h
    by_cases h1 : (digs (canonV z.natAbs 60).1).length ≤ 60 ∧ (canonV z.natAbs 60).2 ≤ 60
    · rw [if_pos h1] at h
      simp only [Prod.mk.injEq, and_true] at h
      obtain ⟨rfl, rfl, rfl⟩ := h
      have hne : z ≠ 0 := by
        intro e
        subst e
        rw [show (0 : Int).natAbs = 0 from rfl, canon_zero] at h0
        exact h0 rfl
      have hm : mag (⟨(digs (canonV z.natAbs 60).1).toArray⟩ : ByteArray) ((canonV z.natAbs 60).2 : Int) = z.natAbs := by
        rw [mag, valL_digs, show (60 - ((canonV z.natAbs 60).2 : Int)).toNat = 60 - (canonV z.natAbs 60).2 by omega]
        exact hv.symm
      refine ⟨hr, ?_, rfl, ?_⟩
      · rw [iv, hm]
        by_cases hz : z < 0
        · simp only [hz, decide_true, if_true]; omega
        · simp only [hz, decide_false, Bool.false_eq_true, if_false]; omega
      · have hd := digs_ne _ h0
        have : (⟨(digs (canonV z.natAbs 60).1).toArray⟩ : ByteArray).size = (digs (canonV z.natAbs 60).1).length := by simp [ByteArray.size]
        rw [this]
        constructor
        · intro e; exact absurd (List.length_eq_zero_iff.1 e) hd
        · intro e; exact absurd e hne
    · rw [if_neg h1] at h
      simp at h
theorem res60_or (z : Int) : (∃ n s c, res60 z = (n, s, c, true)) ∨ res60 z = (false, ByteArray.empty, 0, false) := by
  unfold res60 decRes
  split
  · exact .inl ⟨_, _, _, rfl⟩
  · split
    · exact .inl ⟨_, _, _, rfl⟩
    · exact .inr rfl
theorem neg_some {n : Bool} {s : ByteArray} {c : Int} (h : decB n s c = true) (h0 : s.size ≠ 0) : decB (!n) s c = true ∧ iv (!n) s c = -iv n s c := by
  have hb := decB_bounds h
  have hd := decB_digits h
  have e1 := decB_some n s c (by omega) (by omega) hd (by omega) (by omega)
  have e2 := decB_some (!n) s c (by omega) (by omega) hd (by omega) (by omega)
  refine ⟨by rw [e2, ← e1]; exact h, ?_⟩
  cases n <;> simp [iv]
theorem neg_none {n : Bool} {s : ByteArray} {c : Int} (h : decB n s c = true) (h0 : s.size = 0) : n = false ∧ c = 0 ∧ s = ByteArray.empty ∧ iv n s c = 0 := by
  rw [decB_none _ _ _ h0] at h
  have hs : s = ByteArray.empty := ByteArray.size_eq_zero_iff.1 h0
  subst hs
  simp at h
  obtain ⟨rfl, rfl⟩ := h
  exact ⟨rfl, rfl, rfl, by simp [iv, mag, valL]⟩
theorem cmp_turn (a b : Int) : cmpI b a = -cmpI a b := by unfold cmpI; split <;> split <;> (try split) <;> first | rfl | omega
end Go.Proofs.YtdglamiifcagoacDoor
