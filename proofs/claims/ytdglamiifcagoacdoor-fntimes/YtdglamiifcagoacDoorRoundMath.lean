/-
  Plain facts, of no program: a right number comes back from its text; what is read is right.
-/
import Derived.Test.YtdglamiifcagoacDoorReadMath
namespace Go.Proofs.YtdglamiifcagoacDoor
theorem sub_val (n : Nat) (h : n ≤ 9) : (UInt8.ofNat (48 + n)).toNat = 48 + n := by rw [UInt8.toNat_ofNat']; omega
theorem digs_dg : ∀ (k v : Nat), v ≤ k → dgL (digs v)
  | 0, v, h => by
    have : v = 0 := by omega
    subst this
    rw [digs, dif_pos rfl]; intro c hc; simp at hc
  | k + 1, v, h => by
    by_cases h0 : v = 0
    · subst h0
      rw [digs, dif_pos rfl]; intro c hc; simp at hc
    · rw [digs, dif_neg h0]
      refine dgL_app (digs_dg k (v / 10) (by omega)) (fun c hc => ?_)
      have : c = UInt8.ofNat (48 + v % 10) := by simpa using hc
      rw [this, sub_val _ (by omega)]; omega
theorem digs_ne (v : Nat) (h : v ≠ 0) : digs v ≠ [] := by rw [digs, dif_neg h]; simp
theorem digs_lead : ∀ (k v : Nat), v ≤ k → noLead (digs v)
  | 0, v, h => by
    have : v = 0 := by omega
    subst this
    rw [digs, dif_pos rfl]; intro c l hc; simp at hc
  | k + 1, v, h => by
    by_cases h0 : v = 0
    · subst h0
      rw [digs, dif_pos rfl]; intro c l hc; simp at hc
    · rw [digs, dif_neg h0]
      by_cases h1 : v / 10 = 0
      · rw [h1, digs, dif_pos rfl]
        intro c l hc
        have : c = UInt8.ofNat (48 + v % 10) := by
          have := (List.cons.inj (show UInt8.ofNat (48 + v % 10) :: [] = c :: l from hc)).1
          exact this.symm
        rw [this, sub_val _ (by omega)]; omega
      · have ih := digs_lead k (v / 10) (by omega)
        intro c l hc
        cases hq : digs (v / 10) with
        | nil => exact absurd hq (digs_ne _ h1)
        | cons a m =>
          rw [hq] at hc
          have : a = c := (List.cons.inj (show a :: (m ++ [UInt8.ofNat (48 + v % 10)]) = c :: l from hc)).1
          subst this
          exact ih a m hq
theorem digs_last (v : Nat) (h : v % 10 ≠ 0) : ∀ u c, digs v = u ++ [c] → c.toNat ≠ 48 := by
  intro u c hc
  rw [digs, dif_neg (by omega)] at hc
  have := (List.append_inj' hc rfl).2
  have h2 : UInt8.ofNat (48 + v % 10) = c := by simpa using this
  rw [← h2, sub_val _ (by omega)]; omega
theorem digs_back (v : Nat) : valL (digs v) = v := by
  have : ∀ k v, v ≤ k → valL (digs v) = v := by
    intro k
    induction k with
    | zero => intro v h; have : v = 0 := by omega
              subst this; rw [digs, dif_pos rfl]; rfl
    | succ k ih =>
      intro v h
      by_cases h0 : v = 0
      · subst h0; rw [digs, dif_pos rfl]; rfl
      · rw [digs, dif_neg h0, valL_snoc, ih _ (by omega)]
        unfold dgt
        rw [sub_val _ (by omega)]; omega
  exact this v v (Nat.le_refl _)
theorem canon_form : ∀ (c v : Nat), (canonV v c).2 = 0 ∨ (canonV v c).1 % 10 ≠ 0
  | 0, v => .inl rfl
  | c + 1, v => by
    rw [canonV]
    by_cases h : v % 10 = 0
    · rw [if_pos h]; exact canon_form c _
    · rw [if_neg h]; exact .inr h
/-- What is found to be a number is a right one. -/
theorem decRes_right (n : Bool) (v c : Nat) (n' : Bool) (s : ByteArray) (c' : Int) (h : decRes n v c = (n', s, c', true)) : decB n' s c' = true := by
  unfold decRes at h
  by_cases h0 : (canonV v c).1 = 0
  · rw [if_pos h0] at h
    simp only [Prod.mk.injEq] at h
    obtain ⟨rfl, rfl, rfl, _⟩ := h
    rw [decB_none _ _ _ (by simp)]; rfl
  · rw [if_neg h0] at h
    by_cases h1 : (digs (canonV v c).1).length ≤ 60 ∧ (canonV v c).2 ≤ 60
    · rw [if_pos h1] at h
      simp only [Prod.mk.injEq] at h
      obtain ⟨rfl, hs, rfl, _⟩ := h
      obtain ⟨a, ha⟩ : ∃ a, (canonV v c).1 = a := ⟨_, rfl⟩
      obtain ⟨k, hk⟩ : ∃ k, (canonV v c).2 = k := ⟨_, rfl⟩
      have hf := canon_form c v
      rw [ha] at h0 h1 hs hf
      rw [hk] at h1 hf ⊢
      have hl : s.data.toList = digs a := by rw [← hs]
      have hsz : s.size = (digs a).length := by rw [← hl]; simp
      have hex := norm_exit n s k (valL s.data.toList) k (by rw [hl]; exact digs_dg a a (Nat.le_refl _)) (by rw [hl]; exact digs_lead a a (Nat.le_refl _)) (by
        rcases hf with hf | hf
        · exact .inl hf
        · exact .inr (.inr (by rw [hl]; exact digs_last a hf))) rfl
      have hne : ¬ s.size = 0 := by
        rw [hsz]
        intro e
        exact digs_ne a h0 (List.length_eq_zero_iff.1 e)
      rw [if_neg hne] at hex
      by_cases hb : decB n s (k : Int) = true
      · exact hb
      · rw [if_neg hb] at hex
        unfold decRes at hex
        have hv : valL s.data.toList = a := by rw [hl]; exact digs_back a
        rw [hv, canon_stop a k hf, if_neg h0, if_pos h1] at hex
        simp at hex
    · rw [if_neg h1] at h
      simp at h
end Go.Proofs.YtdglamiifcagoacDoor
