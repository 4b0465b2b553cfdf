/-
  Plain facts on rows of truth values: what is reached from a row's places, row by row, by choices and by counts.
-/
import Derived.Test.YtbijilnbbbicmaaDoorMaF
import Derived.Test.YtbijilnbbbicmaaDoorBoR
namespace Go.Proofs.YtbijilnbbbicmaaDoor
open Go.RowKit
set_option linter.unusedVariables false
set_option linter.unusedSimpArgs false
theorem ms_made (n : Nat) : (madeCells (Value.bool false).cells (n * 1)).toList = (List.replicate n false).map Value.bool := by
  rw [show (Value.bool false).cells = #[Value.bool false] from rfl, toList_madeCells_one]
  simp
theorem ms_rep (n b : Nat) : (List.replicate n false)[b]?.getD false = false := by
  rw [List.getElem?_replicate]
  split <;> rfl
theorem cn_le {R : Nat → Nat → Prop} (hR : ∀ a b, R a b → a ≤ b) : ∀ (k i j : Nat), cnR R k i j → i ≤ j
  | 0, i, j, e => Nat.le_of_eq e
  | k + 1, i, j, ⟨m, h1, h2⟩ => Nat.le_trans (hR _ _ h1) (cn_le hR k m j h2)
theorem tk_le (X : Rx) (c : Nat → Nat → Bool) : ∀ (m n i j : Nat), n < m → tkX X c n i j → i ≤ j
  | 0, n, i, j, h, _ => by omega
  | m + 1, n, i, j, h, ht => by
    rw [tkX] at ht
    split at ht
    · have := ht.1; omega
    · split at ht
      · split at ht
        · rename_i hh
          obtain ⟨k, h1, h2⟩ := ht
          have q1 := tk_le X c m _ _ _ (by omega) h1
          have q2 := tk_le X c m _ _ _ (by omega) h2
          omega
        · exact ht.elim
      · split at ht
        · split at ht
          · rename_i hh
            rcases ht with h1 | h1
            · exact tk_le X c m _ _ _ (by omega) h1
            · exact tk_le X c m _ _ _ (by omega) h1
          · exact ht.elim
        · split at ht
          · split at ht
            · rename_i hh
              obtain ⟨k, -, -, h1⟩ := ht
              exact cn_le (fun a b hab => tk_le X c m _ a b (by omega) hab) k i j h1
            · exact ht.elim
          · exact Nat.le_of_eq ht
theorem fwd_comp {f g h : List Bool} {m : Nat} {R R' : Nat → Nat → Prop} (hR : ∀ a b, R' a b → a ≤ b) (h1 : Fwd f g m R) (h2 : Fwd g h m R') : Fwd f h m (fun a b => ∃ k, R a k ∧ R' k b) := fun b hb => by
  rw [h2 b hb]
  constructor
  · rintro ⟨k, hk, hg, hr⟩
    obtain ⟨a, ha, hf, hr2⟩ := (h1 k hk).1 hg
    exact ⟨a, ha, hf, k, hr2, hr⟩
  · rintro ⟨a, ha, hf, k, hr2, hr⟩
    have hk : k ≤ m := Nat.le_trans (hR _ _ hr) hb
    exact ⟨k, hk, (h1 k hk).2 ⟨a, ha, hf, hr2⟩, hr⟩
theorem fwd_eq (f : List Bool) (m : Nat) : Fwd f f m (fun a b => a = b) := fun b hb => by
  constructor
  · intro h; exact ⟨b, hb, h, rfl⟩
  · rintro ⟨a, -, h, rfl⟩; exact h
/-- One row and another one, up to a place. -/
def MixR (G H G' : List Bool) (m j : Nat) : Prop := ∀ b, b ≤ m → G'[b]?.getD false = if b < j then (G[b]?.getD false || H[b]?.getD false) else G[b]?.getD false
theorem mixR_zero (G H : List Bool) (m : Nat) : MixR G H G m 0 := fun b hb => by rw [if_neg (by omega)]
theorem mixR_next {G H G' : List Bool} {m j : Nat} (h : MixR G H G' m j) (hl : G'.length = m + 1) (hj : j ≤ m) : MixR G H (G'.set j (G'[j]?.getD false || H[j]?.getD false)) m (j + 1) := fun b hb => by
  rw [set_at _ _ _ (by omega)]
  by_cases e : b = j
  · subst e
    rw [if_pos rfl, if_pos (by omega), h b hb, if_neg (by omega)]
  · rw [if_neg e, h b hb]
    by_cases hlt : b < j
    · rw [if_pos hlt, if_pos (by omega)]
    · rw [if_neg hlt, if_neg (by omega)]
theorem mixR_done {G H G' : List Bool} {m : Nat} (h : MixR G H G' m (m + 1)) : ∀ b, b ≤ m → (G'[b]?.getD false = true ↔ G[b]?.getD false = true ∨ H[b]?.getD false = true) := fun b hb => by
  rw [h b hb, if_pos (by omega)]
  simp
/-- Is there, ahead of place j, what the one has and the other one has not? -/
def moB (N O : List Bool) (j : Nat) : Bool := (List.range j).any fun b => N[b]?.getD false && !(O[b]?.getD false)
theorem moB_succ (N O : List Bool) (j : Nat) : moB N O (j + 1) = (moB N O j || (N[j]?.getD false && !(O[j]?.getD false))) := by
  unfold moB
  rw [List.range_succ, List.any_append]
  simp
theorem moB_iff {N O : List Bool} {j : Nat} : moB N O j = true ↔ ∃ b, b < j ∧ N[b]?.getD false = true ∧ O[b]?.getD false = false := by
  unfold moB
  rw [List.any_eq_true]
  constructor
  · rintro ⟨b, h1, h2⟩
    simp only [Bool.and_eq_true, Bool.not_eq_true'] at h2
    exact ⟨b, by simpa using h1, h2⟩
  · rintro ⟨b, h1, h2, h3⟩
    exact ⟨b, by simpa using h1, by simp [h2, h3]⟩
def uS (R : Nat → Nat → Prop) (q t : Nat) (a b : Nat) : Prop := ∃ u, u ≤ t ∧ cnR R (q + u) a b
/-- What the two rows are behind t rounds. -/
def CtS (mx : Int) (q : Nat) (R : Nat → Nat → Prop) (f O N : List Bool) (m t : Nat) : Prop := Fwd f O m (uS R q t) ∧ (mx = -1 → Fwd f N m (uS R q t)) ∧ (mx ≠ -1 → Fwd f N m (cnR R (q + t)))
theorem uS_zero (R : Nat → Nat → Prop) (q a b : Nat) : cnR R q a b ↔ uS R q 0 a b := by
  constructor
  · intro h; exact ⟨0, Nat.le_refl _, h⟩
  · rintro ⟨u, hu, h⟩
    have : u = 0 := by omega
    subst this; exact h
theorem cts_start {mx : Int} {q : Nat} {R : Nat → Nat → Prop} {f N : List Bool} {m : Nat} (h : Fwd f N m (cnR R q)) : CtS mx q R f N N m 0 := ⟨fwd_congr h (uS_zero R q), fun _ => fwd_congr h (uS_zero R q), fun _ => h⟩
section
variable {mx : Int} {q m t : Nat} {R : Nat → Nat → Prop} {f O N N2 O2 : List Bool}
theorem cts_now (hR : ∀ a b, R a b → a ≤ b) (h : CtS mx q R f O N m t) (h2 : Fwd N N2 m R) : (mx = -1 → Fwd f N2 m (fun a b => ∃ k, uS R q t a k ∧ R k b)) ∧ (mx ≠ -1 → Fwd f N2 m (cnR R (q + (t + 1)))) := by
  refine ⟨fun e => fwd_comp hR (h.2.1 e) h2, fun e => fwd_congr (fwd_comp hR (h.2.2 e) h2) (fun a b => ?_)⟩
  rw [show q + (t + 1) = (q + t) + 1 from rfl]
  exact (cn_snoc _ _ _).symm
theorem cts_out (hR : ∀ a b, R a b → a ≤ b) (h : CtS mx q R f O N m t) (h2 : Fwd N N2 m R) (hO : ∀ b, b ≤ m → (O2[b]?.getD false = true ↔ O[b]?.getD false = true ∨ N2[b]?.getD false = true)) : Fwd f O2 m (uS R q (t + 1)) := fun b hb => by
  obtain ⟨n1, n2⟩ := cts_now hR h h2
  rw [hO b hb, h.1 b hb]
  by_cases e : mx = -1
  · rw [n1 e b hb]
    constructor
    · rintro (⟨a, ha, hf, u, hu, hc⟩ | ⟨a, ha, hf, k, ⟨u, hu, hc⟩, hk⟩)
      · exact ⟨a, ha, hf, u, by omega, hc⟩
      · exact ⟨a, ha, hf, u + 1, by omega, (cn_snoc _ _ _).2 ⟨k, hc, hk⟩⟩
    · rintro ⟨a, ha, hf, u, hu, hc⟩
      by_cases e2 : u ≤ t
      · exact .inl ⟨a, ha, hf, u, e2, hc⟩
      · have : u = t + 1 := by omega
        subst this
        obtain ⟨k, h3, h4⟩ := (cn_snoc (q + t) a b).1 hc
        exact .inr ⟨a, ha, hf, k, ⟨t, Nat.le_refl _, h3⟩, h4⟩
  · rw [n2 e b hb]
    constructor
    · rintro (⟨a, ha, hf, u, hu, hc⟩ | ⟨a, ha, hf, hc⟩)
      · exact ⟨a, ha, hf, u, by omega, hc⟩
      · exact ⟨a, ha, hf, t + 1, by omega, hc⟩
    · rintro ⟨a, ha, hf, u, hu, hc⟩
      by_cases e2 : u ≤ t
      · exact .inl ⟨a, ha, hf, u, e2, hc⟩
      · have : u = t + 1 := by omega
        subst this
        exact .inr ⟨a, ha, hf, hc⟩
/-- One round more. -/
theorem cts_next (hR : ∀ a b, R a b → a ≤ b) (h : CtS mx q R f O N m t) (h2 : Fwd N N2 m R) (hO : ∀ b, b ≤ m → (O2[b]?.getD false = true ↔ O[b]?.getD false = true ∨ N2[b]?.getD false = true)) : (mx = -1 → CtS mx q R f O2 O2 m (t + 1)) ∧ (mx ≠ -1 → CtS mx q R f O2 N2 m (t + 1)) := by
  have ho := cts_out hR h h2 hO
  have hn := cts_now hR h h2
  exact ⟨fun e => ⟨ho, fun _ => ho, fun e2 => absurd e e2⟩, fun e => ⟨ho, fun e2 => absurd e2 e, fun _ => hn.2 e⟩⟩
/-- Nothing new: nothing new will come. -/
theorem cts_stop (hR : ∀ a b, R a b → a ≤ b) (h : CtS mx q R f O N m t) (h2 : Fwd N N2 m R) (hs : ∀ b, b ≤ m → N2[b]?.getD false = true → O[b]?.getD false = true) : ∀ v a b, a ≤ m → b ≤ m → f[a]?.getD false = true → cnR R (q + v) a b → O[b]?.getD false = true := by
  obtain ⟨n1, n2⟩ := cts_now hR h h2
  intro v
  induction v with
  | zero =>
    intro a b ha hb hf hc
    exact (h.1 b hb).2 ⟨a, ha, hf, 0, by omega, hc⟩
  | succ v ih =>
    intro a b ha hb hf hc
    obtain ⟨k, h3, h4⟩ := (cn_snoc (q + v) a b).1 hc
    have hk : k ≤ m := Nat.le_trans (hR _ _ h4) hb
    have hOk := ih a k ha hk hf h3
    obtain ⟨a2, ha2, hf2, u, hu, hc2⟩ := (h.1 k hk).1 hOk
    by_cases e : mx = -1
    · exact hs b hb ((n1 e b hb).2 ⟨a2, ha2, hf2, k, ⟨u, hu, hc2⟩, h4⟩)
    · by_cases e2 : u < t
      · exact (h.1 b hb).2 ⟨a2, ha2, hf2, u + 1, by omega, (cn_snoc (q + u) a2 b).2 ⟨k, hc2, h4⟩⟩
      · have : u = t := by omega
        subst this
        exact hs b hb ((n2 e b hb).2 ⟨a2, ha2, hf2, (cn_snoc (q + u) a2 b).2 ⟨k, hc2, h4⟩⟩)
theorem cts_done (hR : ∀ a b, R a b → a ≤ b) (h : CtS mx q R f O N m t) (h2 : Fwd N N2 m R) (hs : ∀ b, b ≤ m → N2[b]?.getD false = true → O[b]?.getD false = true) (hO : ∀ b, b ≤ m → (O2[b]?.getD false = true ↔ O[b]?.getD false = true ∨ N2[b]?.getD false = true)) (ht : mx = -1 ∨ (q : Int) + t ≤ mx) : Fwd f O2 m (ctR q mx R) := fun b hb => by
  have st := cts_stop hR h h2 hs
  rw [hO b hb]
  have e1 : (O[b]?.getD false = true ∨ N2[b]?.getD false = true) ↔ O[b]?.getD false = true := ⟨fun x => x.elim id (hs b hb), .inl⟩
  rw [e1]
  constructor
  · intro hx
    obtain ⟨a, ha, hf, u, hu, hc⟩ := (h.1 b hb).1 hx
    exact ⟨a, ha, hf, q + u, by omega, by omega, hc⟩
  · rintro ⟨a, ha, hf, k, h3, h4, h5⟩
    obtain ⟨d, rfl⟩ : ∃ d, k = q + d := ⟨k - q, by omega⟩
    exact st d a b ha hb hf h5
theorem cts_full (h : CtS mx q R f O N m t) (ht : (q : Int) + t = mx) : Fwd f O m (ctR q mx R) := fwd_congr h.1 (fun a b => by
  constructor
  · rintro ⟨u, hu, hc⟩; exact ⟨q + u, by omega, by omega, hc⟩
  · rintro ⟨k, h3, h4, h5⟩
    obtain ⟨d, rfl⟩ : ∃ d, k = q + d := ⟨k - q, by omega⟩
    exact ⟨d, by omega, h5⟩)
/-- How many places a row lacks. -/
def lkR (O : List Bool) (m : Nat) : Nat := nf (fun j => O[j]?.getD false) (m + 1)
theorem lk_less (hO : ∀ b, b ≤ m → (O2[b]?.getD false = true ↔ O[b]?.getD false = true ∨ N2[b]?.getD false = true)) (hl : O.length = m + 1) (hl2 : O2.length = m + 1) (hm : moB N2 O (m + 1) = true) : lkR O2 m < lkR O m := by
  obtain ⟨b, h1, h2, h3⟩ := moB_iff.1 hm
  refine nf_lt (fun x hx => ?_) h3 ((hO b (by omega)).2 (.inr h2)) _ h1
  by_cases e : x ≤ m
  · exact (hO x e).2 (.inl hx)
  · rw [List.getElem?_eq_none (by omega)] at hx
    cases hx
end
end Go.Proofs.YtbijilnbbbicmaaDoor
