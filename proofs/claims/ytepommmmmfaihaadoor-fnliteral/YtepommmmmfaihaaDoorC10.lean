/-
  What the nodes of an expression take of a text, counts, and a machine of forks and classes beside it. No step of the program in this text.
-/
import Derived.Test.YtepommmmmfaihaaDoorC8
import Derived.Test.YtepommmmmfaihaaDoorC9
namespace Go.Proofs.YtepommmmmfaihaaDoor
open Go.RowKit
set_option linter.unusedVariables false
set_option linter.unusedSimpArgs false
/-- k times. -/
def cnR (R : Nat → Nat → Prop) : Nat → Nat → Nat → Prop
  | 0, i, j => i = j
  | k + 1, i, j => ∃ m, R i m ∧ cnR R k m j
/-- As often as one likes. -/
def stR (R : Nat → Nat → Prop) (i j : Nat) : Prop := ∃ k, cnR R k i j
theorem cn_snoc {R : Nat → Nat → Prop} : ∀ (k i j : Nat), cnR R (k + 1) i j ↔ ∃ m, cnR R k i m ∧ R m j
  | 0, i, j => by
    constructor
    · rintro ⟨m, h, rfl⟩; exact ⟨i, rfl, h⟩
    · rintro ⟨m, rfl, h⟩; exact ⟨j, h, rfl⟩
  | k + 1, i, j => by
    constructor
    · rintro ⟨m, h, h2⟩
      obtain ⟨u, h3, h4⟩ := (cn_snoc k m j).1 h2
      exact ⟨u, ⟨m, h, h3⟩, h4⟩
    · rintro ⟨u, ⟨m, h, h3⟩, h4⟩
      exact ⟨m, h, (cn_snoc k m j).2 ⟨u, h3, h4⟩⟩
theorem cn_add {R : Nat → Nat → Prop} : ∀ (k l i m j : Nat), cnR R k i m → cnR R l m j → cnR R (k + l) i j
  | 0, l, i, m, j, h, h2 => by cases h; rw [Nat.zero_add]; exact h2
  | k + 1, l, i, m, j, ⟨u, h, h3⟩, h2 => by
    rw [Nat.succ_add]
    exact ⟨u, h, cn_add k l u m j h3 h2⟩
theorem cn_split {R : Nat → Nat → Prop} : ∀ (k l i j : Nat), cnR R (k + l) i j → ∃ m, cnR R k i m ∧ cnR R l m j
  | 0, l, i, j, h => ⟨i, rfl, by rw [Nat.zero_add] at h; exact h⟩
  | k + 1, l, i, j, h => by
    rw [Nat.succ_add] at h
    obtain ⟨u, h1, h2⟩ := h
    obtain ⟨m, h3, h4⟩ := cn_split k l u j h2
    exact ⟨m, ⟨u, h1, h3⟩, h4⟩
theorem cn_mono {R R' : Nat → Nat → Prop} (h : ∀ i j, R i j → R' i j) : ∀ (k i j : Nat), cnR R k i j → cnR R' k i j
  | 0, i, j, e => e
  | k + 1, i, j, ⟨m, h1, h2⟩ => ⟨m, h _ _ h1, cn_mono h k m j h2⟩
theorem st_trans {R : Nat → Nat → Prop} {i m j : Nat} (h : stR R i m) (h2 : stR R m j) : stR R i j := by
  obtain ⟨k, h⟩ := h
  obtain ⟨l, h2⟩ := h2
  exact ⟨k + l, cn_add k l i m j h h2⟩
theorem st_of {R R' : Nat → Nat → Prop} (h : ∀ i j, R' i j → stR R i j) : ∀ (k i j : Nat), cnR R' k i j → stR R i j
  | 0, i, j, e => ⟨0, e⟩
  | k + 1, i, j, ⟨m, h1, h2⟩ => st_trans (h _ _ h1) (st_of h k m j h2)
/-- A count. -/
def ctR (mn mx : Int) (R : Nat → Nat → Prop) (i j : Nat) : Prop := ∃ k : Nat, mn ≤ (k : Int) ∧ (mx = -1 ∨ (k : Int) ≤ mx) ∧ cnR R k i j
/-- What may be left out and is repeated as often as one likes is what it repeats. -/
theorem st_left {R : Nat → Nat → Prop} {mx : Int} (h : mx = 1 ∨ mx = -1) (i j : Nat) : stR (ctR 0 mx R) i j ↔ stR R i j := by
  constructor
  · rintro ⟨k, hk⟩
    refine st_of (fun a b hab => ?_) k i j hk
    obtain ⟨q, -, -, hq⟩ := hab
    exact ⟨q, hq⟩
  · rintro ⟨k, hk⟩
    exact ⟨k, cn_mono (fun a b hab => ⟨1, by omega, by omega, ⟨b, hab, rfl⟩⟩) k i j hk⟩
/-- What a node takes, from place to place. -/
def tkX (X : Rx) (c : Nat → Nat → Bool) (n : Nat) : Nat → Nat → Prop :=
  if X.K n = 2 then fun i j => j = i + 1 ∧ c n i = true
  else if X.K n = 3 then (if h : (X.A n).toNat < n ∧ (X.B n).toNat < n then fun i j => ∃ m, tkX X c (X.A n).toNat i m ∧ tkX X c (X.B n).toNat m j else fun _ _ => False)
  else if X.K n = 4 then (if h : (X.A n).toNat < n ∧ (X.B n).toNat < n then fun i j => tkX X c (X.A n).toNat i j ∨ tkX X c (X.B n).toNat i j else fun _ _ => False)
  else if X.K n = 5 then (if h : (X.A n).toNat < n then ctR (X.MN n) (X.MX n) (tkX X c (X.A n).toNat) else fun _ _ => False)
  else fun i j => i = j
termination_by n
decreasing_by all_goals omega
section
variable {X : Rx} {c : Nat → Nat → Bool} {n a b : Nat}
theorem tk_class (h : X.K n = 2) : tkX X c n = fun i j => j = i + 1 ∧ c n i = true := by rw [tkX, if_pos h]
theorem tk_seq (h : X.K n = 3) (hA : X.A n = (a : Int)) (hB : X.B n = (b : Int)) (ha : a < n) (hb : b < n) : tkX X c n = fun i j => ∃ m, tkX X c a i m ∧ tkX X c b m j := by
  rw [tkX, if_neg (by omega), if_pos h, hA, hB]
  simp only [Int.toNat_natCast]
  rw [dif_pos ⟨ha, hb⟩]
theorem tk_or (h : X.K n = 4) (hA : X.A n = (a : Int)) (hB : X.B n = (b : Int)) (ha : a < n) (hb : b < n) : tkX X c n = fun i j => tkX X c a i j ∨ tkX X c b i j := by
  rw [tkX, if_neg (by omega), if_neg (by omega), if_pos h, hA, hB]
  simp only [Int.toNat_natCast]
  rw [dif_pos ⟨ha, hb⟩]
theorem tk_cnt (h : X.K n = 5) (hA : X.A n = (a : Int)) (ha : a < n) : tkX X c n = ctR (X.MN n) (X.MX n) (tkX X c a) := by
  rw [tkX, if_neg (by omega), if_neg (by omega), if_neg (by omega), if_pos h, hA]
  simp only [Int.toNat_natCast]
  rw [dif_pos ha]
theorem tk_empty (h : X.K n = 1) : tkX X c n = fun i j => i = j := by
  rw [tkX, if_neg (by omega), if_neg (by omega), if_neg (by omega), if_neg (by omega)]
end
/-- A node's class has a character of the text. -/
def clX (X : Rx) (C : List Int) (n i : Nat) : Bool := decide (i < C.length) && inC (X.NT n) (X.NR n) (X.L n) (X.H n) (C[i]?.getD 0)
theorem clX_lt {X : Rx} {C : List Int} {n i : Nat} (h : clX X C n i = true) : i < C.length := by
  unfold clX at h
  rw [Bool.and_eq_true, decide_eq_true_iff] at h
  exact h.1
theorem clX_at {X : Rx} {C : List Int} {n i : Nat} (h : i < C.length) : clX X C n i = inC (X.NT n) (X.NR n) (X.L n) (X.H n) (C[i]?.getD 0) := by
  unfold clX
  rw [decide_eq_true h, Bool.true_and]
/-- A place of the machine. -/
structure Sp where
  fk : Bool
  cs : Nat
  nx : Nat
  ot : Nat
deriving DecidableEq
/-- The machine leads from place p with the text from i on to its end, in at most l moves. -/
def ac (M : List Sp) (c : Nat → Nat → Bool) (N : Nat) : Nat → Nat → Nat → Prop
  | 0, p, i => p = 0 ∧ i = N
  | l + 1, p, i => (p = 0 ∧ i = N) ∨ ∃ s, M[p]? = some s ∧ ((s.fk = true ∧ (ac M c N l s.nx i ∨ ac M c N l s.ot i)) ∨ (s.fk = false ∧ c s.cs i = true ∧ ac M c N l s.nx (i + 1)))
section
variable {M : List Sp} {c : Nat → Nat → Bool} {N : Nat}
theorem ac_succ : ∀ (l p i : Nat), ac M c N l p i → ac M c N (l + 1) p i
  | 0, p, i, h => .inl h
  | l + 1, p, i, h => by
    rcases h with h | ⟨s, hs, h | ⟨h1, h2, h3⟩⟩
    · exact .inl h
    · obtain ⟨h1, h2 | h2⟩ := h
      · exact .inr ⟨s, hs, .inl ⟨h1, .inl (ac_succ l _ _ h2)⟩⟩
      · exact .inr ⟨s, hs, .inl ⟨h1, .inr (ac_succ l _ _ h2)⟩⟩
    · exact .inr ⟨s, hs, .inr ⟨h1, h2, ac_succ l _ _ h3⟩⟩
theorem ac_more {l l' p i : Nat} (h : ac M c N l p i) (hl : l ≤ l') : ac M c N l' p i := by
  induction l' with
  | zero => have : l = 0 := by omega
            subst this; exact h
  | succ l' ih =>
    by_cases e : l = l' + 1
    · subst e; exact h
    · exact ac_succ _ _ _ (ih (by omega))
/-- Place p leads to place q with what Q takes. -/
def Ld (M : List Sp) (c : Nat → Nat → Bool) (N p : Nat) (Q : Nat → Nat → Prop) (q : Nat) : Prop :=
  (∀ l i, ac M c N l p i → ∃ j l', l' ≤ l ∧ Q i j ∧ ac M c N l' q j) ∧ (∀ i j l, Q i j → ac M c N l q j → ∃ l', ac M c N l' p i)
theorem ld_refl (p : Nat) : Ld M c N p (fun i j => i = j) p := ⟨fun l i h => ⟨i, l, Nat.le_refl _, rfl, h⟩, fun i j l e h => by cases e; exact ⟨l, h⟩⟩
theorem ld_congr {p q : Nat} {Q Q' : Nat → Nat → Prop} (h : Ld M c N p Q q) (e : ∀ i j, Q i j ↔ Q' i j) : Ld M c N p Q' q := by
  have : Q = Q' := by funext i j; exact propext (e i j)
  rw [← this]; exact h
theorem ld_comp {p q r : Nat} {Q Q' : Nat → Nat → Prop} (h : Ld M c N p Q q) (k : Ld M c N q Q' r) : Ld M c N p (fun i j => ∃ m, Q i m ∧ Q' m j) r := by
  refine ⟨fun l i hl => ?_, fun i j l hq hl => ?_⟩
  · obtain ⟨m, l1, h1, h2, h3⟩ := h.1 l i hl
    obtain ⟨j, l2, h4, h5, h6⟩ := k.1 l1 m h3
    exact ⟨j, l2, by omega, ⟨m, h2, h5⟩, h6⟩
  · obtain ⟨m, h1, h2⟩ := hq
    obtain ⟨l1, h3⟩ := k.2 m j l h2 hl
    exact h.2 i m l1 h1 h3
theorem ld_class {p cs nx ot : Nat} (hp : p ≠ 0) (hs : M[p]? = some ⟨false, cs, nx, ot⟩) : Ld M c N p (fun i j => j = i + 1 ∧ c cs i = true) nx := by
  refine ⟨fun l i hl => ?_, fun i j l hq hl => ?_⟩
  · cases l with
    | zero => exact absurd hl.1 hp
    | succ l =>
      rcases hl with h | ⟨s, h1, h2⟩
      · exact absurd h.1 hp
      · rw [hs] at h1
        cases h1
        rcases h2 with h2 | h2
        · exact absurd h2.1 (by simp)
        · exact ⟨i + 1, l, by omega, ⟨rfl, h2.2.1⟩, h2.2.2⟩
  · obtain ⟨rfl, h⟩ := hq
    exact ⟨l + 1, .inr ⟨_, hs, .inr ⟨rfl, h, hl⟩⟩⟩
theorem ld_fork {p cs nx ot r : Nat} {Q Q' : Nat → Nat → Prop} (hp : p ≠ 0) (hs : M[p]? = some ⟨true, cs, nx, ot⟩) (h : Ld M c N nx Q r) (k : Ld M c N ot Q' r) : Ld M c N p (fun i j => Q i j ∨ Q' i j) r := by
  refine ⟨fun l i hl => ?_, fun i j l hq hl => ?_⟩
  · cases l with
    | zero => exact absurd hl.1 hp
    | succ l =>
      rcases hl with h1 | ⟨s, h1, h2⟩
      · exact absurd h1.1 hp
      · rw [hs] at h1
        cases h1
        rcases h2 with ⟨-, h2 | h2⟩ | h2
        · obtain ⟨j, l', h3, h4, h5⟩ := h.1 l i h2
          exact ⟨j, l', by omega, .inl h4, h5⟩
        · obtain ⟨j, l', h3, h4, h5⟩ := k.1 l i h2
          exact ⟨j, l', by omega, .inr h4, h5⟩
        · exact absurd h2.1 (by simp)
  · rcases hq with hq | hq
    · obtain ⟨l', h1⟩ := h.2 i j l hq hl
      exact ⟨l' + 1, .inr ⟨_, hs, .inl ⟨rfl, .inl h1⟩⟩⟩
    · obtain ⟨l', h1⟩ := k.2 i j l hq hl
      exact ⟨l' + 1, .inr ⟨_, hs, .inl ⟨rfl, .inr h1⟩⟩⟩
theorem ld_same {p r : Nat} {Q Q' : Nat → Nat → Prop} (h : Ld M c N p Q r) (k : Ld M c N p Q' r) : Ld M c N p (fun i j => Q i j ∨ Q' i j) r := by
  refine ⟨fun l i hl => ?_, fun i j l hq hl => ?_⟩
  · obtain ⟨j, l', h3, h4, h5⟩ := h.1 l i hl
    exact ⟨j, l', h3, .inl h4, h5⟩
  · rcases hq with hq | hq
    · exact h.2 i j l hq hl
    · exact k.2 i j l hq hl
theorem ld_other {p cs nx ot r : Nat} {Q Q' : Nat → Nat → Prop} (hs : M[p]? = some ⟨true, cs, nx, ot⟩) (h : Ld M c N p Q r) (k : Ld M c N ot Q' r) : Ld M c N p (fun i j => Q i j ∨ Q' i j) r := by
  refine ⟨fun l i hl => ?_, fun i j l hq hl => ?_⟩
  · obtain ⟨j, l', h3, h4, h5⟩ := h.1 l i hl
    exact ⟨j, l', h3, .inl h4, h5⟩
  · rcases hq with hq | hq
    · exact h.2 i j l hq hl
    · obtain ⟨l', h1⟩ := k.2 i j l hq hl
      exact ⟨l' + 1, .inr ⟨_, hs, .inl ⟨rfl, .inr h1⟩⟩⟩
theorem ld_loop {b cs body r : Nat} {Q : Nat → Nat → Prop} (hp : b ≠ 0) (hs : M[b]? = some ⟨true, cs, body, r⟩) (h : Ld M c N body Q b) : Ld M c N b (stR Q) r := by
  refine ⟨?_, ?_⟩
  · have key : ∀ (m l i : Nat), l < m → ac M c N l b i → ∃ j l', l' ≤ l ∧ stR Q i j ∧ ac M c N l' r j := by
      intro m
      induction m with
      | zero => intro l i hlm; omega
      | succ m ih =>
        intro l i hlm hl
        cases l with
        | zero => exact absurd hl.1 hp
        | succ l =>
          rcases hl with h1 | ⟨s, h1, h2⟩
          · exact absurd h1.1 hp
          · rw [hs] at h1
            cases h1
            rcases h2 with ⟨-, h2 | h2⟩ | h2
            · obtain ⟨j, l', h3, h4, h5⟩ := h.1 l i h2
              obtain ⟨j2, l2, h6, h7, h8⟩ := ih l' j (by omega) h5
              refine ⟨j2, l2, by omega, ?_, h8⟩
              obtain ⟨k, hk⟩ := h7
              exact ⟨k + 1, j, h4, hk⟩
            · exact ⟨i, l, by omega, ⟨0, rfl⟩, h2⟩
            · exact absurd h2.1 (by simp)
    exact fun l i hl => key (l + 1) l i (by omega) hl
  · have key : ∀ (k i j l : Nat), cnR Q k i j → ac M c N l r j → ∃ l', ac M c N l' b i := by
      intro k
      induction k with
      | zero =>
        intro i j l e hl
        cases e
        exact ⟨l + 1, .inr ⟨_, hs, .inl ⟨rfl, .inr hl⟩⟩⟩
      | succ k ih =>
        rintro i j l ⟨m, h1, h2⟩ hl
        obtain ⟨l1, h3⟩ := ih m j l h2 hl
        obtain ⟨l2, h4⟩ := h.2 i m l1 h1 h3
        exact ⟨l2 + 1, .inr ⟨_, hs, .inl ⟨rfl, .inl h4⟩⟩⟩
    rintro i j l ⟨k, hk⟩ hl
    exact key k i j l hk hl
end
/-- Another machine has what this one has, but for forks that lead to nothing but themselves. -/
def Agr (M M' : List Sp) : Prop := ∀ (k : Nat) (s : Sp), M[k]? = some s → s ≠ (⟨true, 0, k, k⟩ : Sp) → M'[k]? = some s
theorem agr_refl (M : List Sp) : Agr M M := fun k s h _ => h
theorem agr_pre {M E M' : List Sp} (h : Agr (M ++ E) M') : Agr M M' := fun k s hk hs => h k s (by
  have hl : k < M.length := (List.getElem?_eq_some_iff.1 hk).1
  rw [List.getElem?_append_left hl]; exact hk) hs
theorem agr_set {M M' : List Sp} {k : Nat} {s : Sp} (hk : M[k]? = some ⟨true, 0, k, k⟩) (h : Agr (M.set k s) M') : Agr M M' := fun j t hj ht => by
  by_cases e : j = k
  · subst e
    rw [hk] at hj
    cases hj
    exact absurd rfl ht
  · exact h j t (by rw [List.getElem?_set_ne (fun x => e x.symm)]; exact hj) ht
/-- Each place leads to places, a class is one of the expression. -/
def Wf (X : Rx) (M : List Sp) : Prop := ∀ (k : Nat) (s : Sp), M[k]? = some s → s.nx < M.length ∧ s.ot < M.length ∧ (s.fk = false → s.cs < X.len ∧ X.K s.cs = 2)
theorem wf_app {X : Rx} {M : List Sp} {s : Sp} (h : Wf X M) (h1 : s.nx ≤ M.length) (h2 : s.ot ≤ M.length) (h3 : s.fk = false → s.cs < X.len ∧ X.K s.cs = 2) : Wf X (M ++ [s]) := fun k u hk => by
  have hl : (M ++ [s]).length = M.length + 1 := by simp
  rw [hl]
  by_cases e : k < M.length
  · rw [List.getElem?_append_left e] at hk
    obtain ⟨a, b, c⟩ := h k u hk
    exact ⟨by omega, by omega, c⟩
  · have hk2 : k < M.length + 1 := by have := (List.getElem?_eq_some_iff.1 hk).1; omega
    have : k = M.length := by omega
    subst this
    simp at hk
    subst hk
    exact ⟨by omega, by omega, h3⟩
theorem wf_set {X : Rx} {M : List Sp} {k : Nat} {s : Sp} (h : Wf X M) (h1 : s.nx < M.length) (h2 : s.ot < M.length) (h3 : s.fk = false → s.cs < X.len ∧ X.K s.cs = 2) : Wf X (M.set k s) := fun j u hj => by
  rw [List.length_set]
  by_cases e : k = j
  · subst e
    have hl : k < M.length := by have := (List.getElem?_eq_some_iff.1 hj).1; simpa using this
    rw [List.getElem?_set_self hl] at hj
    cases hj
    exact ⟨h1, h2, h3⟩
  · rw [List.getElem?_set_ne e] at hj
    exact h j u hj
/-- What entering a node leaves. -/
def Ent (X : Rx) (M : List Sp) (Q : (Nat → Nat → Bool) → Nat → Nat → Prop) (next p : Nat) (M' : List Sp) : Prop :=
  (∃ E, M' = M ++ E) ∧ p < M'.length ∧ (∀ M2 c N, Agr M' M2 → Ld M2 c N p (Q c) next) ∧ (next < M.length → Wf X M → Wf X M')
section
variable {X : Rx}
theorem ent_next {M : List Sp} {next : Nat} (h : next < M.length) : Ent X M (fun _ i j => i = j) next next M := ⟨⟨[], by simp⟩, h, fun M2 c N _ => ld_refl _, fun _ h => h⟩
theorem ent_congr {M M' : List Sp} {Q Q' : (Nat → Nat → Bool) → Nat → Nat → Prop} {next p : Nat} (h : Ent X M Q next p M') (e : ∀ c i j, Q c i j ↔ Q' c i j) : Ent X M Q' next p M' := ⟨h.1, h.2.1, fun M2 c N k => ld_congr (h.2.2.1 M2 c N k) (e c), h.2.2.2⟩
theorem ent_class {M : List Sp} {next n : Nat} (h0 : M ≠ []) (hn : n < X.len ∧ X.K n = 2) : Ent X M (fun c i j => j = i + 1 ∧ c n i = true) next M.length (M ++ [⟨false, n, next, 0⟩]) := by
  have hl : 0 < M.length := List.length_pos_iff.2 h0
  refine ⟨⟨_, rfl⟩, by simp, fun M2 c N k => ?_, fun hx hw => wf_app hw (Nat.le_of_lt hx) (Nat.zero_le _) (fun _ => hn)⟩
  exact ld_class (ot := 0) (by omega) (k M.length _ (by simp) (by simp))
theorem ent_comp {M M1 M2 : List Sp} {Q Q' : (Nat → Nat → Bool) → Nat → Nat → Prop} {next p q : Nat} (h : Ent X M Q' next q M1) (k : Ent X M1 Q q p M2) : Ent X M (fun c i j => ∃ m, Q c i m ∧ Q' c m j) next p M2 := by
  obtain ⟨⟨E, rfl⟩, h2, h3, h4⟩ := h
  obtain ⟨⟨E', rfl⟩, k2, k3, k4⟩ := k
  exact ⟨⟨E ++ E', by rw [List.append_assoc]⟩, k2, fun M9 c N g => ld_comp (k3 M9 c N g) (h3 M9 c N (agr_pre g)), fun hx hw => k4 h2 (h4 hx hw)⟩
/-- What either leaves: the same place, or a fork more. -/
theorem ent_either {M M1 M2 M3 : List Sp} {Q Q' : (Nat → Nat → Bool) → Nat → Nat → Prop} {next p q r : Nat} (h0 : M ≠ []) (h : Ent X M Q next p M1) (k : Ent X M1 Q' next q M2)
    (hr : (p = q ∧ r = p ∧ M3 = M2) ∨ (p ≠ q ∧ (∃ cs nx, M2[p]? = some ⟨true, cs, nx, q⟩) ∧ r = p ∧ M3 = M2) ∨ (p ≠ q ∧ r = M2.length ∧ M3 = M2 ++ [⟨true, 0, p, q⟩])) : Ent X M (fun c i j => Q c i j ∨ Q' c i j) next r M3 := by
  obtain ⟨⟨E, rfl⟩, h2, h3, h4⟩ := h
  obtain ⟨⟨E', rfl⟩, k2, k3, k4⟩ := k
  have hl : 0 < M.length := List.length_pos_iff.2 h0
  have hp : p < (M ++ E ++ E').length := by rw [List.length_append]; omega
  have hw2 : next < M.length → Wf X M → Wf X (M ++ E ++ E') := fun hx hw => k4 (by rw [List.length_append]; omega) (h4 hx hw)
  rcases hr with ⟨rfl, rfl, rfl⟩ | ⟨hne, ⟨cs, nx, hs⟩, rfl, rfl⟩ | ⟨hne, rfl, rfl⟩
  · exact ⟨⟨E ++ E', by rw [List.append_assoc]⟩, k2, fun M9 c N g => ld_same (h3 M9 c N (agr_pre g)) (k3 M9 c N g), hw2⟩
  · refine ⟨⟨E ++ E', by rw [List.append_assoc]⟩, hp, fun M9 c N g => ld_other (g _ _ hs ?_) (h3 M9 c N (agr_pre g)) (k3 M9 c N g), hw2⟩
    intro e
    cases e
    exact hne rfl
  · refine ⟨⟨E ++ (E' ++ [⟨true, 0, p, q⟩]), by simp⟩, by simp, fun M9 c N g => ?_, fun hx hw => wf_app (hw2 hx hw) (Nat.le_of_lt hp) (Nat.le_of_lt k2) (fun e => by cases e)⟩
    refine ld_fork (cs := 0) (by rw [List.length_append, List.length_append]; omega) (g (M ++ E ++ E').length ⟨true, 0, p, q⟩ (by simp) ?_) (h3 M9 c N (agr_pre (agr_pre g))) (k3 M9 c N (agr_pre g))
    intro e
    have : p = (M ++ E ++ E').length := by injection e
    omega
theorem ent_loop {M M2 : List Sp} {Q : (Nat → Nat → Bool) → Nat → Nat → Prop} {next body : Nat} (h0 : M ≠ []) (hn : next < M.length) (h : Ent X (M ++ [⟨true, 0, M.length, M.length⟩]) Q M.length body M2) :
    Ent X M (fun c => stR (Q c)) next M.length (M2.set M.length ⟨true, 0, body, next⟩) := by
  obtain ⟨⟨E, rfl⟩, h2, h3, h4⟩ := h
  have hl : 0 < M.length := List.length_pos_iff.2 h0
  refine ⟨⟨⟨true, 0, body, next⟩ :: E, by simp⟩, by simp, fun M9 c N g => ?_, fun hx hw => wf_set (h4 (by simp) (wf_app hw (Nat.le_refl _) (Nat.le_refl _) (fun e => by cases e))) h2 (by simp; omega) (fun e => by cases e)⟩
  refine ld_loop (cs := 0) (by omega) (g M.length _ (by simp) ?_) (h3 M9 c N (agr_set (by simp) g))
  intro e
  have : next = M.length := by injection e
  omega
end
/-- How many places a node comes to at most. -/
def tsX (X : Rx) (n : Nat) : Nat :=
  if X.K n = 2 then 1
  else if X.K n = 3 then (if h : (X.A n).toNat < n ∧ (X.B n).toNat < n then tsX X (X.A n).toNat + tsX X (X.B n).toNat else 0)
  else if X.K n = 4 then (if h : (X.A n).toNat < n ∧ (X.B n).toNat < n then tsX X (X.A n).toNat + tsX X (X.B n).toNat + 1 else 0)
  else if X.K n = 5 then (if h : (X.A n).toNat < n then (muX X n).toNat * (tsX X (X.A n).toNat + 1) else 0)
  else 0
termination_by n
decreasing_by all_goals omega
section
variable {X : Rx} {n a b : Nat}
theorem ts_class (h : X.K n = 2) : tsX X n = 1 := by rw [tsX, if_pos h]
theorem ts_seq (h : X.K n = 3) (hA : X.A n = (a : Int)) (hB : X.B n = (b : Int)) (ha : a < n) (hb : b < n) : tsX X n = tsX X a + tsX X b := by
  rw [tsX, if_neg (by omega), if_pos h, hA, hB]
  simp only [Int.toNat_natCast]
  rw [dif_pos ⟨ha, hb⟩]
theorem ts_or (h : X.K n = 4) (hA : X.A n = (a : Int)) (hB : X.B n = (b : Int)) (ha : a < n) (hb : b < n) : tsX X n = tsX X a + tsX X b + 1 := by
  rw [tsX, if_neg (by omega), if_neg (by omega), if_pos h, hA, hB]
  simp only [Int.toNat_natCast]
  rw [dif_pos ⟨ha, hb⟩]
theorem ts_cnt (h : X.K n = 5) (hA : X.A n = (a : Int)) (ha : a < n) : tsX X n = (muX X n).toNat * (tsX X a + 1) := by
  rw [tsX, if_neg (by omega), if_neg (by omega), if_neg (by omega), if_pos h, hA]
  simp only [Int.toNat_natCast]
  rw [dif_pos ha]
theorem ts_empty (h : X.K n = 1) : tsX X n = 0 := by
  rw [tsX, if_neg (by omega), if_neg (by omega), if_neg (by omega), if_neg (by omega)]
end
/-- The places are bounded by the weight. -/
theorem ts_le (X : Rx) (len : Nat) (hm : NdOk X len) : ∀ (m n f : Nat), n < m → n < len → trX X n = some f → wtX X n ≤ 2000 → tsX X n ≤ (wtX X n).toNat * (n + 1 - f) ∧ 1 ≤ wtX X n ∧ f ≤ n
  | 0, n, f, h, _, _, _ => by omega
  | m + 1, n, f, h, hl, ht, hw => by
    have hfn : f ≤ n := tr_le _ _ _ _ ht
    obtain ⟨h5, h2, hk⟩ := hm n hl
    have leaf : X.K n = 1 ∨ X.K n = 2 → f = n ∧ wtX X n = 1 := fun hk => by
      have g2 : ¬ twoK X.K n = true := by unfold twoK; rw [decide_eq_true_iff]; omega
      have g5 : ¬ cntK X.K n = true := by unfold cntK; rw [decide_eq_true_iff]; omega
      refine ⟨?_, wt_leaf _ _ _ _ _ g2 g5⟩
      unfold trX at ht
      rw [tr_leaf _ _ _ _ g2 g5] at ht
      cases ht; rfl
    have pair : ∀ c, X.K n = 3 ∨ X.K n = 4 → trX X (n - 1) = some c → trX X (c - 1) = some f → 1 ≤ c → c ≤ n - 1 → X.A n = ((c - 1 : Nat) : Int) → X.B n = ((n - 1 : Nat) : Int) → n - 1 < n → wtX X n = min (wtX X (c - 1) + wtX X (n - 1)) 2001 := fun c hk t1 t2 h1 hc hA hB hn => by
      have g2 : twoK X.K n = true := decide_eq_true hk
      exact wt_two _ _ _ _ (muX X) g2 (by omega) t1 (by omega) t2
    rcases hk with k1 | k2 | k3 | k4 | k5
    · obtain ⟨e1, e2⟩ := leaf (.inl k1)
      rw [ts_empty k1, e2]
      exact ⟨Nat.zero_le _, by omega, hfn⟩
    · obtain ⟨e1, e2⟩ := leaf (.inr k2)
      rw [ts_class k2, e2]
      refine ⟨?_, by omega, hfn⟩
      show 1 ≤ 1 * (n + 1 - f)
      omega
    · obtain ⟨c, hA, hB, ha, hb, h1, hc, t1, t2⟩ := tr_parts ht (.inl k3)
      have hw2 := pair c (.inl k3) t1 t2 h1 hc hA hB hb
      have p1 := wtX_ge X (c - 1)
      have p2 := wtX_ge X (n - 1)
      obtain ⟨i1, i2, i3⟩ := ts_le X len hm m (c - 1) f (by omega) (by omega) t2 (by omega)
      obtain ⟨j1, j2, j3⟩ := ts_le X len hm m (n - 1) c (by omega) (by omega) t1 (by omega)
      rw [ts_seq k3 hA hB ha hb]
      refine ⟨?_, by omega, hfn⟩
      have e : (wtX X n).toNat = (wtX X (c - 1)).toNat + (wtX X (n - 1)).toNat := by omega
      rw [e, Nat.add_mul]
      exact Nat.add_le_add (Nat.le_trans i1 (Nat.mul_le_mul (Nat.le_refl _) (by omega))) (Nat.le_trans j1 (Nat.mul_le_mul (Nat.le_refl _) (by omega)))
    · obtain ⟨c, hA, hB, ha, hb, h1, hc, t1, t2⟩ := tr_parts ht (.inr k4)
      have hw2 := pair c (.inr k4) t1 t2 h1 hc hA hB hb
      have p1 := wtX_ge X (c - 1)
      have p2 := wtX_ge X (n - 1)
      obtain ⟨i1, i2, i3⟩ := ts_le X len hm m (c - 1) f (by omega) (by omega) t2 (by omega)
      obtain ⟨j1, j2, j3⟩ := ts_le X len hm m (n - 1) c (by omega) (by omega) t1 (by omega)
      rw [ts_or k4 hA hB ha hb]
      refine ⟨?_, by omega, hfn⟩
      have e : (wtX X n).toNat = (wtX X (c - 1)).toNat + (wtX X (n - 1)).toNat := by omega
      have q1 : (wtX X (c - 1)).toNat * (c - 1 + 1 - f) + (wtX X (c - 1)).toNat ≤ (wtX X (c - 1)).toNat * (n + 1 - f) := by
        rw [← Nat.mul_succ]; exact Nat.mul_le_mul (Nat.le_refl _) (by omega)
      have q2 : (wtX X (n - 1)).toNat * (n - 1 + 1 - c) ≤ (wtX X (n - 1)).toNat * (n + 1 - f) := Nat.mul_le_mul (Nat.le_refl _) (by omega)
      rw [e, Nat.add_mul]
      omega
    · obtain ⟨hA, ha, t1⟩ := tr_part1 ht k5
      have g2 : ¬ twoK X.K n = true := by unfold twoK; rw [decide_eq_true_iff]; omega
      have g5 : cntK X.K n = true := decide_eq_true k5
      have hw2 : wtX X n = min (wtX X (n - 1) * muX X n) 2001 := wt_cnt _ _ _ _ (muX X) g2 g5 (by omega) t1
      have p1 := wtX_ge X (n - 1)
      have p2 := muX_ge X n
      have hle : wtX X (n - 1) ≤ wtX X (n - 1) * muX X n := by
        have := Int.mul_le_mul_of_nonneg_left p2 p1
        rw [Int.mul_one] at this
        exact this
      obtain ⟨i1, i2, i3⟩ := ts_le X len hm m (n - 1) f (by omega) (by omega) t1 (by omega)
      rw [ts_cnt k5 hA ha]
      refine ⟨?_, by omega, hfn⟩
      have e : (wtX X n).toNat = (muX X n).toNat * (wtX X (n - 1)).toNat := by
        have e1 : wtX X n = wtX X (n - 1) * muX X n := by omega
        rw [e1, Int.toNat_mul p1 (by omega), Nat.mul_comm]
      rw [e, Nat.mul_assoc]
      refine Nat.mul_le_mul (Nat.le_refl _) ?_
      have : (wtX X (n - 1)).toNat * (n - 1 + 1 - f) + (wtX X (n - 1)).toNat ≤ (wtX X (n - 1)).toNat * (n + 1 - f) := by
        rw [← Nat.mul_succ]; exact Nat.mul_le_mul (Nat.le_refl _) (by omega)
      omega
end Go.Proofs.YtepommmmmfaihaaDoor
