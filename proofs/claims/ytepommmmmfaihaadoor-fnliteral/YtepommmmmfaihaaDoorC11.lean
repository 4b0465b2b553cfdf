/-
  Sets of places: what forks lead to. No step of the program in this text.
-/
import Derived.Test.YtepommmmmfaihaaDoorC10
namespace Go.Proofs.YtepommmmmfaihaaDoor
open Go.RowKit
set_option linter.unusedVariables false
set_option linter.unusedSimpArgs false
/-- Where forks lead. -/
inductive Rch (M : List Sp) : Nat → Nat → Prop
  | refl (p : Nat) : Rch M p p
  | nx {p x : Nat} {s : Sp} : M[p]? = some s → s.fk = true → Rch M s.nx x → Rch M p x
  | ot {p x : Nat} {s : Sp} : M[p]? = some s → s.fk = true → Rch M s.ot x → Rch M p x
/-- A place is added, with where forks lead from it. -/
def RcP (M : List Sp) (S : Nat → Bool) (p : Nat) (S' : Nat → Bool) : Prop :=
  (∀ x, S x = true → S' x = true) ∧ S' p = true ∧ (∀ x, S' x = true → S x = true ∨ Rch M p x) ∧ (∀ x s, S' x = true → S x = false → M[x]? = some s → s.fk = true → S' s.nx = true ∧ S' s.ot = true)
def put1 (S : Nat → Bool) (p : Nat) : Nat → Bool := fun x => S x || decide (x = p)
theorem put1_self (S : Nat → Bool) (p : Nat) : put1 S p p = true := by simp [put1]
theorem put1_old {S : Nat → Bool} {p x : Nat} (h : S x = true) : put1 S p x = true := by simp [put1, h]
theorem put1_inv {S : Nat → Bool} {p x : Nat} (h : put1 S p x = true) : S x = true ∨ x = p := by simpa [put1] using h
theorem rc_met {M : List Sp} {S : Nat → Bool} {p : Nat} (h : S p = true) : RcP M S p S := ⟨fun _ h => h, h, fun _ h => .inl h, fun x s h1 h2 => by rw [h1] at h2; cases h2⟩
theorem rc_leaf {M : List Sp} {S : Nat → Bool} {p : Nat} {s : Sp} (hs : M[p]? = some s) (hf : s.fk = false) : RcP M S p (put1 S p) := by
  refine ⟨fun _ h => put1_old h, put1_self _ _, fun x h => ?_, fun x u h1 h2 h3 h4 => ?_⟩
  · rcases put1_inv h with h | rfl
    · exact .inl h
    · exact .inr (.refl _)
  · rcases put1_inv h1 with h | rfl
    · rw [h] at h2; cases h2
    · rw [hs] at h3; cases h3
      rw [hf] at h4; cases h4
theorem rc_fork {M : List Sp} {S S2 S3 : Nat → Bool} {p : Nat} {s : Sp} (hs : M[p]? = some s) (hf : s.fk = true) (h : RcP M (put1 S p) s.nx S2) (k : RcP M S2 s.ot S3) : RcP M S p S3 := by
  obtain ⟨a1, a2, a3, a4⟩ := h
  obtain ⟨b1, b2, b3, b4⟩ := k
  refine ⟨fun x hx => b1 x (a1 x (put1_old hx)), b1 p (a1 p (put1_self _ _)), fun x hx => ?_, fun x u h1 h2 h3 h4 => ?_⟩
  · rcases b3 x hx with h | h
    · rcases a3 x h with h | h
      · rcases put1_inv h with h | rfl
        · exact .inl h
        · exact .inr (.refl _)
      · exact .inr (.nx hs hf h)
    · exact .inr (.ot hs hf h)
  · cases e2 : S2 x
    · exact b4 x u h1 e2 h3 h4
    · cases e1 : put1 S p x
      · obtain ⟨q1, q2⟩ := a4 x u e2 e1 h3 h4
        exact ⟨b1 _ q1, b1 _ q2⟩
      · rcases put1_inv e1 with h | rfl
        · rw [h] at h2; cases h2
        · rw [hs] at h3; cases h3
          exact ⟨b1 _ a2, b2⟩
/-- Forks do not lead out of the set. -/
def Clo (M : List Sp) (S : Nat → Bool) : Prop := ∀ x s, S x = true → M[x]? = some s → s.fk = true → S s.nx = true ∧ S s.ot = true
theorem clo_none (M : List Sp) : Clo M (fun _ => false) := fun x s h => by cases h
theorem clo_rch {M : List Sp} {S : Nat → Bool} (hc : Clo M S) {p x : Nat} (h : Rch M p x) : S p = true → S x = true := by
  induction h with
  | refl p => exact fun h => h
  | nx h1 h2 _ ih => exact fun h => ih (hc _ _ h h1 h2).1
  | ot h1 h2 _ ih => exact fun h => ih (hc _ _ h h1 h2).2
theorem rc_clo {M : List Sp} {S S' : Nat → Bool} {p : Nat} (hc : Clo M S) (h : RcP M S p S') : Clo M S' ∧ ∀ x, S' x = true ↔ S x = true ∨ Rch M p x := by
  obtain ⟨a1, a2, a3, a4⟩ := h
  have c : Clo M S' := fun x s h1 h2 h3 => by
    cases e : S x
    · exact a4 x s h1 e h2 h3
    · obtain ⟨q1, q2⟩ := hc x s e h2 h3
      exact ⟨a1 _ q1, a1 _ q2⟩
  refine ⟨c, fun x => ⟨a3 x, fun h => ?_⟩⟩
  rcases h with h | h
  · exact a1 x h
  · exact clo_rch c h a2
/-- How many places are not in the set. -/
def nf (S : Nat → Bool) : Nat → Nat
  | 0 => 0
  | k + 1 => nf S k + (if S k = true then 0 else 1)
theorem nf_le (S : Nat → Bool) : ∀ k, nf S k ≤ k
  | 0 => Nat.le_refl _
  | k + 1 => by
    have := nf_le S k
    rw [nf]
    split <;> omega
theorem nf_mono {S S' : Nat → Bool} (h : ∀ x, S x = true → S' x = true) : ∀ k, nf S' k ≤ nf S k
  | 0 => Nat.le_refl _
  | k + 1 => by
    have := nf_mono h k
    rw [nf, nf]
    split
    · omega
    · rename_i e
      rw [if_neg (fun x => e (h k x))]
      omega
theorem nf_lt {S S' : Nat → Bool} (h : ∀ x, S x = true → S' x = true) {p : Nat} (h1 : S p = false) (h2 : S' p = true) : ∀ k, p < k → nf S' k < nf S k
  | 0, hk => by omega
  | k + 1, hk => by
    rw [nf, nf]
    by_cases e : p = k
    · subst e
      have := nf_mono h p
      rw [if_pos h2, if_neg (by rw [h1]; simp)]
      omega
    · have := nf_lt h h1 h2 k (by omega)
      split
      · omega
      · rename_i e2
        rw [if_neg (fun x => e2 (h k x))]
        omega
theorem nf_none : ∀ k, nf (fun _ => false) k = k
  | 0 => rfl
  | k + 1 => by rw [nf, nf_none k]; rfl
section
variable {M : List Sp} {c : Nat → Nat → Bool} {N : Nat}
theorem ac_rch {p x l i : Nat} (h : Rch M p x) : ac M c N l x i → ∃ l', ac M c N l' p i := by
  induction h with
  | refl p => exact fun h => ⟨l, h⟩
  | nx h1 h2 _ ih =>
    intro h
    obtain ⟨l', h3⟩ := ih h
    exact ⟨l' + 1, .inr ⟨_, h1, .inl ⟨h2, .inl h3⟩⟩⟩
  | ot h1 h2 _ ih =>
    intro h
    obtain ⟨l', h3⟩ := ih h
    exact ⟨l' + 1, .inr ⟨_, h1, .inl ⟨h2, .inr h3⟩⟩⟩
/-- From some place of the set the machine leads to its end. -/
def Hr (M : List Sp) (c : Nat → Nat → Bool) (N : Nat) (S : Nat → Bool) (i : Nat) : Prop := ∃ x l, S x = true ∧ ac M c N l x i
theorem hr_start {S : Nat → Bool} {p i : Nat} (h : ∀ x, S x = true ↔ Rch M p x) : Hr M c N S i ↔ ∃ l, ac M c N l p i := by
  constructor
  · rintro ⟨x, l, h1, h2⟩
    exact ac_rch ((h x).1 h1) h2
  · rintro ⟨l, h1⟩
    exact ⟨p, l, (h p).2 (.refl _), h1⟩
/-- The set behind a character. -/
def Aft (M : List Sp) (d : Nat → Bool) (S T : Nat → Bool) : Prop := ∀ x, T x = true ↔ ∃ p s, S p = true ∧ M[p]? = some s ∧ s.fk = false ∧ d s.cs = true ∧ Rch M s.nx x
theorem hr_step {S T : Nat → Bool} {i : Nat} (hi : i < N) (hc : Clo M S) (h : Aft M (fun n => c n i) S T) : Hr M c N T (i + 1) ↔ Hr M c N S i := by
  constructor
  · rintro ⟨x, l, h1, h2⟩
    obtain ⟨p, s, q1, q2, q3, q4, q5⟩ := (h x).1 h1
    obtain ⟨l', h3⟩ := ac_rch q5 h2
    exact ⟨p, l' + 1, q1, .inr ⟨s, q2, .inr ⟨q3, q4, h3⟩⟩⟩
  · rintro ⟨x, l, h1, h2⟩
    revert x
    induction l with
    | zero => intro x h1 h2; have := h2.2; omega
    | succ l ih =>
      intro x h1 h2
      rcases h2 with h2 | ⟨s, q1, ⟨q2, q3 | q3⟩ | ⟨q2, q3, q4⟩⟩
      · omega
      · exact ih _ (hc _ _ h1 q1 q2).1 q3
      · exact ih _ (hc _ _ h1 q1 q2).2 q3
      · exact ⟨s.nx, l, (h _).2 ⟨x, s, h1, q1, q2, q3, .refl _⟩, q4⟩
theorem hr_end {S : Nat → Bool} (hc : Clo M S) (hcl : ∀ n i, c n i = true → i < N) : Hr M c N S N ↔ S 0 = true := by
  constructor
  · rintro ⟨x, l, h1, h2⟩
    revert x
    induction l with
    | zero => intro x h1 h2; rw [h2.1] at h1; exact h1
    | succ l ih =>
      intro x h1 h2
      rcases h2 with h2 | ⟨s, q1, ⟨q2, q3 | q3⟩ | ⟨q2, q3, q4⟩⟩
      · rw [h2.1] at h1; exact h1
      · exact ih _ (hc _ _ h1 q1 q2).1 q3
      · exact ih _ (hc _ _ h1 q1 q2).2 q3
      · have := hcl _ _ q3; omega
  · intro h
    exact ⟨0, 0, h, rfl, rfl⟩
theorem ac_end {l j : Nat} (h0 : M[0]? = some ⟨true, 0, 0, 0⟩) : ac M c N l 0 j → j = N := by
  induction l with
  | zero => exact fun h => h.2
  | succ l ih =>
    rintro (h | ⟨s, q1, ⟨q2, q3 | q3⟩ | ⟨q2, q3, q4⟩⟩)
    · exact h.2
    · rw [h0] at q1; cases q1; exact ih q3
    · rw [h0] at q1; cases q1; exact ih q3
    · rw [h0] at q1; cases q1; cases q2
end
/-- What the machine takes is what the node takes. -/
theorem ent_takes {X : Rx} {n p : Nat} {M : List Sp} (c : Nat → Nat → Bool) (N : Nat) (h : Ent X [⟨true, 0, 0, 0⟩] (fun c => tkX X c n) 0 p M) : (∃ l, ac M c N l p 0) ↔ tkX X c n 0 N := by
  obtain ⟨⟨E, rfl⟩, h2, h3, -⟩ := h
  obtain ⟨k1, k2⟩ := h3 _ c N (agr_refl _)
  constructor
  · rintro ⟨l, hl⟩
    obtain ⟨j, l', -, h5, h6⟩ := k1 l 0 hl
    have := ac_end (by simp) h6
    rw [this] at h5
    exact h5
  · intro h
    exact k2 0 N 0 h ⟨rfl, rfl⟩
theorem wf_one (X : Rx) : Wf X [⟨true, 0, 0, 0⟩] := fun k s h => by
  cases k with
  | zero => simp at h; subst h; exact ⟨by simp, by simp, fun e => by cases e⟩
  | succ k => simp at h
end Go.Proofs.YtepommmmmfaihaaDoor
