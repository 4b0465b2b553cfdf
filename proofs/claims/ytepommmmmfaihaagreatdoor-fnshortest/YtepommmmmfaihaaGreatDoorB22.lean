/-
  Texts put together: ShP, MaF, KpG.
-/
import Derived.Test.YtepommmmmfaihaaGreatDoorB21
import Derived.Test.YtepommmmmfaihaaGreatDoorB20
import Derived.WalkLawsBesides
import Derived.Below
import Derived.OwnWalk
import Derived.Laws.OwnMore
import Derived.Deep.AppendLies
/-
  Shortest texts: one that is taken, and none that is taken is shorter. No step of the program in this text.
-/
namespace Go.Proofs.YtepommmmmfaihaaGreatDoor
open Go.RowKit
set_option linter.unusedVariables false
set_option linter.unusedSimpArgs false
/-- The text has p from place i on. -/
def PcA (C p : List Int) (i : Nat) : Prop := ∀ k, k < p.length → C[i + k]? = p[k]?
theorem pc_left {C p q : List Int} {i : Nat} (h : PcA C (p ++ q) i) : PcA C p i := fun k hk => by
  rw [h k (by rw [List.length_append]; omega), List.getElem?_append_left hk]
theorem pc_right {C p q : List Int} {i : Nat} (h : PcA C (p ++ q) i) : PcA C q (i + p.length) := fun k hk => by
  have := h (p.length + k) (by rw [List.length_append]; omega)
  rw [List.getElem?_append_right (by omega)] at this
  rw [Nat.add_assoc, this]
  congr 1
  omega
theorem pc_self (C : List Int) : PcA C C 0 := fun k hk => by rw [Nat.zero_add]
theorem pc_rep {R : Nat → Nat → Prop} {C p : List Int} (h : ∀ i, PcA C p i → R i (i + p.length)) : ∀ (k i : Nat), PcA C (repL p k) i → cnR R k i (i + (repL p k).length)
  | 0, i, _ => rfl
  | k + 1, i, hp => by
    rw [repL] at hp ⊢
    rw [List.length_append, ← Nat.add_assoc]
    exact (cn_snoc k _ _).2 ⟨_, pc_rep h k i (pc_left hp), h _ (pc_right hp)⟩
theorem le_in {nt : Bool} {n : Nat} {L H : Nat → Int} {r : Int} (h : leC nt n L H = some r) : inC nt n L H r = true := by
  unfold leC at h
  split at h
  · rename_i hx
    have hs := Classical.choose_spec hx
    rw [Option.some.injEq] at h
    rw [← h]
    exact hs.1
  · cases h
theorem inC_ch {nt : Bool} {n : Nat} {L H : Nat → Int} {x : Int} (h : inC nt n L H x = true) : 0 ≤ x := by
  unfold inC at h
  rw [Bool.and_eq_true] at h
  have := chB_cases h.1
  omega
theorem le_ex {nt : Bool} {n : Nat} {L H : Nat → Int} : ∀ (k : Nat) (x : Int), x.toNat ≤ k → inC nt n L H x = true → ∃ r, LeastC nt n L H r := by
  intro k
  induction k with
  | zero =>
    intro x hk hx
    have := inC_ch hx
    exact ⟨x, hx, fun y hy => by have := inC_ch hy; omega⟩
  | succ k ih =>
    intro x hk hx
    by_cases h : ∃ y, inC nt n L H y = true ∧ y < x
    · obtain ⟨y, h1, h2⟩ := h
      have := inC_ch hx
      have := inC_ch h1
      exact ih y (by omega) h1
    · exact ⟨x, hx, fun y hy => by
        rcases Int.lt_or_le y x with h3 | h3
        · exact absurd ⟨y, hy, h3⟩ h
        · exact h3⟩
/-- The shortest text of a node is taken. -/
theorem sh_taken (X : Rx) (len : Nat) (hm : NdOk X len) (hcn : ∀ j, j < len → X.K j = 5 → X.MX j = -1 ∨ X.MN j ≤ X.MX j) (C : List Int) : ∀ (m n f : Nat), n < m → n < len → trX X n = some f → ∀ p, shX X n = some p → ∀ i, PcA C p i → tkX X (clX X C) n i (i + p.length)
  | 0, n, f, h, _, _, _, _, _, _ => by omega
  | m + 1, n, f, h, hl, ht, p, hp, i, hc => by
    have IH := sh_taken X len hm hcn C m
    obtain ⟨h5, h2, hk⟩ := hm n hl
    rcases hk with k1 | k2 | k3 | k4 | k5
    · rw [sh_empty k1] at hp
      cases hp
      rw [tk_empty k1]
      rfl
    · rw [sh_class k2] at hp
      rw [tk_class k2]
      cases hr : leC (X.NT n) (X.NR n) (X.L n) (X.H n) with
      | none => rw [hr] at hp; cases hp
      | some r =>
        rw [hr] at hp
        cases hp
        have e0 := hc 0 (by simp)
        rw [Nat.add_zero] at e0
        have hi : i < C.length := (List.getElem?_eq_some_iff.1 e0).1
        refine ⟨rfl, ?_⟩
        rw [clX_at hi, e0]
        exact le_in hr
    · obtain ⟨c, hA, hB, ha, hb, h1, hcc, t1, t2⟩ := tr_parts ht (.inl k3)
      rw [sh_seq k3 hA hB ha hb] at hp
      rw [tk_seq k3 hA hB ha hb]
      cases e1 : shX X (c - 1) with
      | none => rw [e1] at hp; cases hp
      | some p1 =>
        cases e2 : shX X (n - 1) with
        | none => rw [e1, e2] at hp; cases hp
        | some p2 =>
          rw [e1, e2] at hp
          unfold rowS at hp
          simp only at hp
          split at hp
          · cases hp
            rw [List.length_append, ← Nat.add_assoc]
            exact ⟨_, IH (c - 1) f (by omega) (by omega) t2 p1 e1 i (pc_left hc), IH (n - 1) c (by omega) (by omega) t1 p2 e2 _ (pc_right hc)⟩
          · cases hp
    · obtain ⟨c, hA, hB, ha, hb, h1, hcc, t1, t2⟩ := tr_parts ht (.inr k4)
      rw [sh_or k4 hA hB ha hb] at hp
      rw [tk_or k4 hA hB ha hb]
      have hl2 : ∀ p, shX X (c - 1) = some p → PcA C p i → tkX X (clX X C) (c - 1) i (i + p.length) := fun p e hc => IH (c - 1) f (by omega) (by omega) t2 p e i hc
      have hr2 : ∀ p, shX X (n - 1) = some p → PcA C p i → tkX X (clX X C) (n - 1) i (i + p.length) := fun p e hc => IH (n - 1) c (by omega) (by omega) t1 p e i hc
      cases e1 : shX X (c - 1) with
      | none =>
        rw [e1] at hp
        exact .inr (hr2 p hp hc)
      | some p1 =>
        cases e2 : shX X (n - 1) with
        | none =>
          rw [e1, e2] at hp
          cases hp
          exact .inl (hl2 _ e1 hc)
        | some p2 =>
          rw [e1, e2] at hp
          unfold orS at hp
          simp only at hp
          split at hp
          · cases hp; exact .inr (hr2 _ e2 hc)
          · cases hp; exact .inl (hl2 _ e1 hc)
    · obtain ⟨hA, ha, t1⟩ := tr_part1 ht k5
      rw [sh_cnt k5 hA ha] at hp
      rw [tk_cnt k5 hA ha]
      have q5 := h5 k5
      have q6 := hcn n hl k5
      unfold cntS at hp
      split at hp
      · rename_i h0
        cases hp
        exact ⟨0, by omega, by omega, rfl⟩
      · cases e1 : shX X (n - 1) with
        | none => rw [e1] at hp; cases hp
        | some p1 =>
          rw [e1] at hp
          simp only at hp
          split at hp
          · cases hp
            exact ⟨(X.MN n).toNat, by omega, by omega, pc_rep (fun i hi => IH (n - 1) f (by omega) (by omega) t1 p1 e1 i hi) _ i hc⟩
          · cases hp
theorem cn_min {R : Nat → Nat → Prop} {q : Nat} (hR : ∀ a b, R a b → a ≤ b ∧ (b - a ≤ 300 → q ≤ b - a)) : ∀ (k i j : Nat), cnR R k i j → i ≤ j ∧ (j - i ≤ 300 → q * k ≤ j - i)
  | 0, i, j, e => by have : i = j := e; subst this; exact ⟨Nat.le_refl _, fun _ => by omega⟩
  | k + 1, i, j, ⟨u, h1, h2⟩ => by
    obtain ⟨a1, a2⟩ := hR _ _ h1
    obtain ⟨b1, b2⟩ := cn_min hR k u j h2
    refine ⟨by omega, fun h => ?_⟩
    have := a2 (by omega)
    have := b2 (by omega)
    rw [Nat.mul_succ]
    omega
theorem tk_leS (X : Rx) (c : Nat → Nat → Bool) : ∀ (m n i j : Nat), n < m → tkX X c n i j → i ≤ j
  | 0, n, i, j, h, _ => by omega
  | m + 1, n, i, j, h, ht => by
    rw [tkX] at ht
    split at ht
    · have := ht.1; omega
    · split at ht
      · split at ht
        · rename_i hh
          obtain ⟨k, h1, h2⟩ := ht
          have q1 := tk_leS X c m _ _ _ (by omega) h1
          have q2 := tk_leS X c m _ _ _ (by omega) h2
          omega
        · exact ht.elim
      · split at ht
        · split at ht
          · rename_i hh
            rcases ht with h1 | h1
            · exact tk_leS X c m _ _ _ (by omega) h1
            · exact tk_leS X c m _ _ _ (by omega) h1
          · exact ht.elim
        · split at ht
          · split at ht
            · rename_i hh
              obtain ⟨k, -, -, h1⟩ := ht
              exact (cn_min (q := 0) (fun a b hab => ⟨tk_leS X c m _ a b (by omega) hab, fun _ => Nat.zero_le _⟩) k i j h1).1
            · exact ht.elim
          · exact Nat.le_of_eq ht
/-- What is taken is no shorter. -/
theorem sh_min (X : Rx) (len : Nat) (hm : NdOk X len) (C : List Int) : ∀ (m n f : Nat), n < m → n < len → trX X n = some f → ∀ i j, tkX X (clX X C) n i j → j - i ≤ 300 → ∃ p, shX X n = some p ∧ p.length ≤ j - i
  | 0, n, f, h, _, _, _, _, _, _ => by omega
  | m + 1, n, f, h, hl, ht, i, j, hk0, hd => by
    have IH := sh_min X len hm C m
    obtain ⟨h5, h2, hk⟩ := hm n hl
    rcases hk with k1 | k2 | k3 | k4 | k5
    · exact ⟨[], sh_empty k1, Nat.zero_le _⟩
    · rw [tk_class k2] at hk0
      obtain ⟨rfl, hc⟩ := hk0
      have hi := clX_lt hc
      rw [clX_at hi] at hc
      obtain ⟨r, hr⟩ := le_ex _ _ (Nat.le_refl _) hc
      refine ⟨[r], ?_, by simp⟩
      rw [sh_class k2, le_some hr]
      rfl
    · obtain ⟨c, hA, hB, ha, hb, h1, hcc, t1, t2⟩ := tr_parts ht (.inl k3)
      rw [tk_seq k3 hA hB ha hb] at hk0
      obtain ⟨u, hu1, hu2⟩ := hk0
      have l1 := tk_leS X _ (c - 1 + 1) (c - 1) _ _ (by omega) hu1
      have l2 := tk_leS X _ (n - 1 + 1) (n - 1) _ _ (by omega) hu2
      obtain ⟨p1, e1, q1⟩ := IH (c - 1) f (by omega) (by omega) t2 i u hu1 (by omega)
      obtain ⟨p2, e2, q2⟩ := IH (n - 1) c (by omega) (by omega) t1 u j hu2 (by omega)
      refine ⟨p1 ++ p2, ?_, by rw [List.length_append]; omega⟩
      rw [sh_seq k3 hA hB ha hb, e1, e2]
      unfold rowS
      simp only
      rw [if_pos (by omega)]
    · obtain ⟨c, hA, hB, ha, hb, h1, hcc, t1, t2⟩ := tr_parts ht (.inr k4)
      rw [tk_or k4 hA hB ha hb] at hk0
      rw [sh_or k4 hA hB ha hb]
      rcases hk0 with hx | hx
      · obtain ⟨p1, e1, q1⟩ := IH (c - 1) f (by omega) (by omega) t2 i j hx hd
        rw [e1]
        cases e2 : shX X (n - 1) with
        | none => exact ⟨p1, rfl, q1⟩
        | some p2 =>
          unfold orS
          simp only
          split
          · exact ⟨p2, rfl, by omega⟩
          · exact ⟨p1, rfl, q1⟩
      · obtain ⟨p2, e2, q2⟩ := IH (n - 1) c (by omega) (by omega) t1 i j hx hd
        rw [e2]
        cases e1 : shX X (c - 1) with
        | none => exact ⟨p2, rfl, q2⟩
        | some p1 =>
          unfold orS
          simp only
          split
          · exact ⟨p2, rfl, q2⟩
          · exact ⟨p1, rfl, by omega⟩
    · obtain ⟨hA, ha, t1⟩ := tr_part1 ht k5
      rw [tk_cnt k5 hA ha] at hk0
      obtain ⟨k, h3, h4, h6⟩ := hk0
      rw [sh_cnt k5 hA ha]
      have q5 := h5 k5
      unfold cntS
      split
      · exact ⟨[], rfl, Nat.zero_le _⟩
      · rename_i h0
        have hk1 : 1 ≤ k := by omega
        have hex : ∃ p1, shX X (n - 1) = some p1 := by
          obtain ⟨d, rfl⟩ : ∃ d, k = d + 1 := ⟨k - 1, by omega⟩
          obtain ⟨u, hu1, hu2⟩ := h6
          have l1 := tk_leS X _ (n - 1 + 1) (n - 1) _ _ (by omega) hu1
          have l2 := (cn_min (q := 0) (fun a b hab => ⟨tk_leS X _ (n - 1 + 1) (n - 1) a b (by omega) hab, fun _ => Nat.zero_le _⟩) d u j hu2).1
          obtain ⟨p1, e1, -⟩ := IH (n - 1) f (by omega) (by omega) t1 i u hu1 (by omega)
          exact ⟨p1, e1⟩
        obtain ⟨p1, e1⟩ := hex
        rw [e1]
        simp only
        have hq := (cn_min (q := p1.length) (fun a b hab => ⟨tk_leS X _ (n - 1 + 1) (n - 1) a b (by omega) hab, fun hd2 => by
          obtain ⟨p2, e2, q2⟩ := IH (n - 1) f (by omega) (by omega) t1 a b hab hd2
          rw [e1] at e2
          cases e2
          exact q2⟩) k i j h6).2 hd
        have hle : p1.length * (X.MN n).toNat ≤ p1.length * k := Nat.mul_le_mul (Nat.le_refl _) (by omega)
        rw [if_pos (by omega)]
        exact ⟨_, rfl, by rw [rep_len, Nat.mul_comm]; omega⟩
end Go.Proofs.YtepommmmmfaihaaGreatDoor

/-
  Sets of places: what forks lead to. No step of the program in this text.
-/
namespace Go.Proofs.YtepommmmmfaihaaGreatDoor
open Go.RowKit
set_option linter.unusedVariables false
set_option linter.unusedSimpArgs false
/-- Where forks lead. -/
inductive Rch (M : List Sp) : Nat → Nat → Prop
  | refl (p : Nat) : Rch M p p
  | nx {p x : Nat} {s : Sp} : M[p]? = some s → s.fk = true → Rch M s.nx x → Rch M p x
  | ot {p x : Nat} {s : Sp} : M[p]? = some s → s.fk = true → Rch M s.ot x → Rch M p x
/-- A place is added, with where forks lead from it. -/
def RcP (M : List Sp) (S : Nat → Bool) (p : Nat) (S' : Nat → Bool) : Prop :=
  (∀ x, S x = true → S' x = true) ∧ S' p = true ∧ (∀ x, S' x = true → S x = true ∨ Rch M p x) ∧ (∀ x s, S' x = true → S x = false → M[x]? = some s → s.fk = true → S' s.nx = true ∧ S' s.ot = true)
def put1 (S : Nat → Bool) (p : Nat) : Nat → Bool := fun x => S x || decide (x = p)
theorem put1_self (S : Nat → Bool) (p : Nat) : put1 S p p = true := by simp [put1]
theorem put1_old {S : Nat → Bool} {p x : Nat} (h : S x = true) : put1 S p x = true := by simp [put1, h]
theorem put1_inv {S : Nat → Bool} {p x : Nat} (h : put1 S p x = true) : S x = true ∨ x = p := by simpa [put1] using h
theorem rc_met {M : List Sp} {S : Nat → Bool} {p : Nat} (h : S p = true) : RcP M S p S := ⟨fun _ h => h, h, fun _ h => .inl h, fun x s h1 h2 => by rw [h1] at h2; cases h2⟩
theorem rc_leaf {M : List Sp} {S : Nat → Bool} {p : Nat} {s : Sp} (hs : M[p]? = some s) (hf : s.fk = false) : RcP M S p (put1 S p) := by
  refine ⟨fun _ h => put1_old h, put1_self _ _, fun x h => ?_, fun x u h1 h2 h3 h4 => ?_⟩
  · rcases put1_inv h with h | rfl
    · exact .inl h
    · exact .inr (.refl _)
  · rcases put1_inv h1 with h | rfl
    · rw [h] at h2; cases h2
    · rw [hs] at h3; cases h3
      rw [hf] at h4; cases h4
theorem rc_fork {M : List Sp} {S S2 S3 : Nat → Bool} {p : Nat} {s : Sp} (hs : M[p]? = some s) (hf : s.fk = true) (h : RcP M (put1 S p) s.nx S2) (k : RcP M S2 s.ot S3) : RcP M S p S3 := by
  obtain ⟨a1, a2, a3, a4⟩ := h
  obtain ⟨b1, b2, b3, b4⟩ := k
  refine ⟨fun x hx => b1 x (a1 x (put1_old hx)), b1 p (a1 p (put1_self _ _)), fun x hx => ?_, fun x u h1 h2 h3 h4 => ?_⟩
  · rcases b3 x hx with h | h
    · rcases a3 x h with h | h
      · rcases put1_inv h with h | rfl
        · exact .inl h
        · exact .inr (.refl _)
      · exact .inr (.nx hs hf h)
    · exact .inr (.ot hs hf h)
  · cases e2 : S2 x
    · exact b4 x u h1 e2 h3 h4
    · cases e1 : put1 S p x
      · obtain ⟨q1, q2⟩ := a4 x u e2 e1 h3 h4
        exact ⟨b1 _ q1, b1 _ q2⟩
      · rcases put1_inv e1 with h | rfl
        · rw [h] at h2; cases h2
        · rw [hs] at h3; cases h3
          exact ⟨b1 _ a2, b2⟩
/-- Forks do not lead out of the set. -/
def Clo (M : List Sp) (S : Nat → Bool) : Prop := ∀ x s, S x = true → M[x]? = some s → s.fk = true → S s.nx = true ∧ S s.ot = true
theorem clo_none (M : List Sp) : Clo M (fun _ => false) := fun x s h => by cases h
theorem clo_rch {M : List Sp} {S : Nat → Bool} (hc : Clo M S) {p x : Nat} (h : Rch M p x) : S p = true → S x = true := by
  induction h with
  | refl p => exact fun h => h
  | nx h1 h2 _ ih => exact fun h => ih (hc _ _ h h1 h2).1
  | ot h1 h2 _ ih => exact fun h => ih (hc _ _ h h1 h2).2
theorem rc_clo {M : List Sp} {S S' : Nat → Bool} {p : Nat} (hc : Clo M S) (h : RcP M S p S') : Clo M S' ∧ ∀ x, S' x = true ↔ S x = true ∨ Rch M p x := by
  obtain ⟨a1, a2, a3, a4⟩ := h
  have c : Clo M S' := fun x s h1 h2 h3 => by
    cases e : S x
    · exact a4 x s h1 e h2 h3
    · obtain ⟨q1, q2⟩ := hc x s e h2 h3
      exact ⟨a1 _ q1, a1 _ q2⟩
  refine ⟨c, fun x => ⟨a3 x, fun h => ?_⟩⟩
  rcases h with h | h
  · exact a1 x h
  · exact clo_rch c h a2
/-- How many places are not in the set. -/
def nf (S : Nat → Bool) : Nat → Nat
  | 0 => 0
  | k + 1 => nf S k + (if S k = true then 0 else 1)
theorem nf_le (S : Nat → Bool) : ∀ k, nf S k ≤ k
  | 0 => Nat.le_refl _
  | k + 1 => by
    have := nf_le S k
    rw [nf]
    split <;> omega
theorem nf_mono {S S' : Nat → Bool} (h : ∀ x, S x = true → S' x = true) : ∀ k, nf S' k ≤ nf S k
  | 0 => Nat.le_refl _
  | k + 1 => by
    have := nf_mono h k
    rw [nf, nf]
    split
    · omega
    · rename_i e
      rw [if_neg (fun x => e (h k x))]
      omega
theorem nf_lt {S S' : Nat → Bool} (h : ∀ x, S x = true → S' x = true) {p : Nat} (h1 : S p = false) (h2 : S' p = true) : ∀ k, p < k → nf S' k < nf S k
  | 0, hk => by omega
  | k + 1, hk => by
    rw [nf, nf]
    by_cases e : p = k
    · subst e
      have := nf_mono h p
      rw [if_pos h2, if_neg (by rw [h1]; simp)]
      omega
    · have := nf_lt h h1 h2 k (by omega)
      split
      · omega
      · rename_i e2
        rw [if_neg (fun x => e2 (h k x))]
        omega
theorem nf_none : ∀ k, nf (fun _ => false) k = k
  | 0 => rfl
  | k + 1 => by rw [nf, nf_none k]; rfl
section
variable {M : List Sp} {c : Nat → Nat → Bool} {N : Nat}
theorem ac_rch {p x l i : Nat} (h : Rch M p x) : ac M c N l x i → ∃ l', ac M c N l' p i := by
  induction h with
  | refl p => exact fun h => ⟨l, h⟩
  | nx h1 h2 _ ih =>
    intro h
    obtain ⟨l', h3⟩ := ih h
    exact ⟨l' + 1, .inr ⟨_, h1, .inl ⟨h2, .inl h3⟩⟩⟩
  | ot h1 h2 _ ih =>
    intro h
    obtain ⟨l', h3⟩ := ih h
    exact ⟨l' + 1, .inr ⟨_, h1, .inl ⟨h2, .inr h3⟩⟩⟩
/-- From some place of the set the machine leads to its end. -/
def Hr (M : List Sp) (c : Nat → Nat → Bool) (N : Nat) (S : Nat → Bool) (i : Nat) : Prop := ∃ x l, S x = true ∧ ac M c N l x i
theorem hr_start {S : Nat → Bool} {p i : Nat} (h : ∀ x, S x = true ↔ Rch M p x) : Hr M c N S i ↔ ∃ l, ac M c N l p i := by
  constructor
  · rintro ⟨x, l, h1, h2⟩
    exact ac_rch ((h x).1 h1) h2
  · rintro ⟨l, h1⟩
    exact ⟨p, l, (h p).2 (.refl _), h1⟩
/-- The set behind a character. -/
def Aft (M : List Sp) (d : Nat → Bool) (S T : Nat → Bool) : Prop := ∀ x, T x = true ↔ ∃ p s, S p = true ∧ M[p]? = some s ∧ s.fk = false ∧ d s.cs = true ∧ Rch M s.nx x
theorem hr_step {S T : Nat → Bool} {i : Nat} (hi : i < N) (hc : Clo M S) (h : Aft M (fun n => c n i) S T) : Hr M c N T (i + 1) ↔ Hr M c N S i := by
  constructor
  · rintro ⟨x, l, h1, h2⟩
    obtain ⟨p, s, q1, q2, q3, q4, q5⟩ := (h x).1 h1
    obtain ⟨l', h3⟩ := ac_rch q5 h2
    exact ⟨p, l' + 1, q1, .inr ⟨s, q2, .inr ⟨q3, q4, h3⟩⟩⟩
  · rintro ⟨x, l, h1, h2⟩
    revert x
    induction l with
    | zero => intro x h1 h2; have := h2.2; omega
    | succ l ih =>
      intro x h1 h2
      rcases h2 with h2 | ⟨s, q1, ⟨q2, q3 | q3⟩ | ⟨q2, q3, q4⟩⟩
      · omega
      · exact ih _ (hc _ _ h1 q1 q2).1 q3
      · exact ih _ (hc _ _ h1 q1 q2).2 q3
      · exact ⟨s.nx, l, (h _).2 ⟨x, s, h1, q1, q2, q3, .refl _⟩, q4⟩
theorem hr_end {S : Nat → Bool} (hc : Clo M S) (hcl : ∀ n i, c n i = true → i < N) : Hr M c N S N ↔ S 0 = true := by
  constructor
  · rintro ⟨x, l, h1, h2⟩
    revert x
    induction l with
    | zero => intro x h1 h2; rw [h2.1] at h1; exact h1
    | succ l ih =>
      intro x h1 h2
      rcases h2 with h2 | ⟨s, q1, ⟨q2, q3 | q3⟩ | ⟨q2, q3, q4⟩⟩
      · rw [h2.1] at h1; exact h1
      · exact ih _ (hc _ _ h1 q1 q2).1 q3
      · exact ih _ (hc _ _ h1 q1 q2).2 q3
      · have := hcl _ _ q3; omega
  · intro h
    exact ⟨0, 0, h, rfl, rfl⟩
theorem ac_end {l j : Nat} (h0 : M[0]? = some ⟨true, 0, 0, 0⟩) : ac M c N l 0 j → j = N := by
  induction l with
  | zero => exact fun h => h.2
  | succ l ih =>
    rintro (h | ⟨s, q1, ⟨q2, q3 | q3⟩ | ⟨q2, q3, q4⟩⟩)
    · exact h.2
    · rw [h0] at q1; cases q1; exact ih q3
    · rw [h0] at q1; cases q1; exact ih q3
    · rw [h0] at q1; cases q1; cases q2
end
/-- What the machine takes is what the node takes. -/
theorem ent_takes {X : Rx} {n p : Nat} {M : List Sp} (c : Nat → Nat → Bool) (N : Nat) (h : Ent X [⟨true, 0, 0, 0⟩] (fun c => tkX X c n) 0 p M) : (∃ l, ac M c N l p 0) ↔ tkX X c n 0 N := by
  obtain ⟨⟨E, rfl⟩, h2, h3, -⟩ := h
  obtain ⟨k1, k2⟩ := h3 _ c N (agr_refl _)
  constructor
  · rintro ⟨l, hl⟩
    obtain ⟨j, l', -, h5, h6⟩ := k1 l 0 hl
    have := ac_end (by simp) h6
    rw [this] at h5
    exact h5
  · intro h
    exact k2 0 N 0 h ⟨rfl, rfl⟩
theorem wf_one (X : Rx) : Wf X [⟨true, 0, 0, 0⟩] := fun k s h => by
  cases k with
  | zero => simp at h; subst h; exact ⟨by simp, by simp, fun e => by cases e⟩
  | succ k => simp at h
end Go.Proofs.YtepommmmmfaihaaGreatDoor

/-
  Plain facts: what stays as it was, rows of one's own.
-/
namespace Go.Proofs.YtepommmmmfaihaaGreatDoor
open Go.RowKit Go.Joins
set_option linter.unusedVariables false
set_option linter.unusedSimpArgs false
/-- All that was there is as it was, but blocks of S. -/
structure Kp (S : Nat → Prop) (w w' : World) : Prop where
  os : w'.os = w.os
  tape : w'.tape = w.tape
  output : w'.output = w.output
  size : w.heap.size ≤ w'.heap.size
  block : ∀ k, k < w.heap.size → ¬ S k → w'.heap[k]? = w.heap[k]?
theorem Kp.refl (S : Nat → Prop) (w : World) : Kp S w w := ⟨rfl, rfl, rfl, Nat.le_refl _, fun _ _ _ => rfl⟩
theorem Kp.trans {S T : Nat → Prop} {w w1 w2 : World} (h : Kp S w w1) (k : Kp T w1 w2) (hT : ∀ j, j < w.heap.size → T j → S j) : Kp S w w2 :=
  ⟨k.os.trans h.os, k.tape.trans h.tape, k.output.trans h.output, Nat.le_trans h.size k.size, fun j hj hs => (k.block j (Nat.lt_of_lt_of_le hj h.size) (fun ht => hs (hT j hj ht))).trans (h.block j hj hs)⟩
theorem kp_grown {S : Nat → Prop} {w w' : World} {row : Option Nat} (h : w.grownBy w' row) (hS : ∀ k, row = some k → S k) : Kp S w w' :=
  ⟨h.os, h.tape, h.output, h.size, fun k hk hs => h.block k hk (fun e => hs (hS k e.symm))⟩
theorem kp_set {S : Nat → Prop} (w : World) (p : Addr) (v : Value) (h : S p.block) : Kp S w (w.setCell p v) :=
  ⟨rfl, rfl, rfl, by rw [heap_setCell_size]; exact Nat.le_refl _, fun k hk hs => heap_setCell_far _ _ _ _ (fun e => hs (by rw [← e]; exact h))⟩
theorem kp_alloc {S : Nat → Prop} (w : World) (o : Obj) : Kp S w (w.alloc o) := kp_grown (World.grownBy_alloc w o none) (fun k hk => by cases hk)
theorem kp_drew {S : Nat → Prop} (w : World) : Kp S w w.drew := ⟨rfl, rfl, rfl, Nat.le_refl _, fun _ _ _ => rfl⟩
theorem kp_drewN {S : Nat → Prop} (w : World) (q : Nat) : Kp S w (w.drewN q) := ⟨rfl, rfl, rfl, Nat.le_refl _, fun _ _ _ => rfl⟩
theorem kp_below {S : Nat → Prop} {B : Nat} {w w' : World} (h : Kp S w w') (hB : B ≤ w.heap.size) (hS : ∀ k, S k → B ≤ k) : Below B w w' :=
  ⟨h.os, h.tape, h.output, h.size, fun k hk => h.block k (Nat.lt_of_lt_of_le hk hB) (fun hs => by have := hS k hs; omega)⟩
theorem own_kp {S : Nat → Prop} {w w' : World} {B e z n : Nat} {v : Value} {xs : List Value} (h : w.ownsRow B e z v n xs) (k : Kp S w w') (hS : ∀ j, v.ownBlock = some j → ¬ S j) : w'.ownsRow B e z v n xs := by
  obtain ⟨hl, h⟩ := h
  refine ⟨hl, ?_⟩
  rcases h with h | ⟨g, cap, cur, hv, hg, hh, h1, h2, h3, h4⟩
  · exact .inl h
  · exact .inr ⟨g, cap, cur, hv, hg, (k.block g (Array.getElem?_eq_some_iff.1 hh).1 (hS g (by rw [hv]; rfl))).trans hh, h1, h2, h3, h4⟩
/-- The block of a row has the type of its cells. -/
theorem own_type {w : World} {B e z n k : Nat} {v : Value} {xs : List Value} (h : w.ownsRow B e z v n xs) (hk : v.ownBlock = some k) : ∃ cur, w.heap[k]? = some (.cells cur e (0, 0)) := by
  rcases h.2 with ⟨rfl, -⟩ | ⟨g, cap, cur, hv, -, hh, -⟩
  · cases hk
  · rw [hv] at hk
    have : g = k := by simpa [Value.ownBlock] using hk
    subst this
    exact ⟨cur, hh⟩
theorem type_ne {w : World} {B e z n k : Nat} {v : Value} {xs : List Value} (h : w.ownsRow B e z v n xs) (hk : v.ownBlock = some k) {cs : Array Value} {t : TypeId} {fr : Nat × Nat} {R : Nat} (hR : w.heap[R]? = some (.cells cs t fr)) (ht : e ≠ t) : k ≠ R := by
  rintro rfl
  obtain ⟨cur, hc⟩ := own_type h hk
  rw [hc] at hR
  simp only [Option.some.injEq, Obj.cells.injEq] at hR
  exact ht hR.2.1
theorem own_ne {w : World} {B e z n k B' e' z' n' k' : Nat} {v v' : Value} {xs xs' : List Value} (h : w.ownsRow B e z v n xs) (hk : v.ownBlock = some k) (h' : w.ownsRow B' e' z' v' n' xs') (hk' : v'.ownBlock = some k') (ht : e ≠ e') : k ≠ k' := by
  obtain ⟨cur, hc⟩ := own_type h' hk'
  exact type_ne h hk hc ht
end Go.Proofs.YtepommmmmfaihaaGreatDoor
