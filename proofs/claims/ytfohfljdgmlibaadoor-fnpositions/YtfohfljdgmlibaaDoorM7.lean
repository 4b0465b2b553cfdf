/-
  Texts put together: TkMath, TkL, TkT.
-/
import Derived.Test.YtfohfljdgmlibaaDoorM6
import Derived.Test.YtfohfljdgmlibaaDoorM5
/-
  Plain facts on the positions of a model, of no program's run: where rows of a node begin and end, what may follow what.
-/
namespace Go.Proofs.YtfohfljdgmlibaaDoor
set_option linter.unusedVariables false
set_option linter.unusedSimpArgs false
/-- What is told of kids in a row, up to the first that a row does not pass by. -/
def seqE (g : Int → List Int) (nul : Int → Bool) : List Int → List Int
  | [] => []
  | k :: ks => g k ++ (if nul k = true then seqE g nul ks else [])
theorem seqE_congr {g h : Int → List Int} {nul : Int → Bool} : ∀ {L : List Int}, (∀ k ∈ L, g k = h k) → seqE g nul L = seqE h nul L
  | [], _ => rfl
  | k :: ks, hk => by
    rw [seqE, seqE, hk k (List.mem_cons_self ..), seqE_congr (L := ks) (fun j hj => hk j (List.mem_cons_of_mem _ hj))]
theorem mem_seqE {g : Int → List Int} {nul : Int → Bool} {x : Int} : ∀ {L : List Int}, x ∈ seqE g nul L ↔ ∃ L1 k L2, L = L1 ++ k :: L2 ∧ (∀ j ∈ L1, nul j = true) ∧ x ∈ g k
  | [] => by
    constructor
    · intro h; exact absurd h (List.not_mem_nil)
    · rintro ⟨L1, k, L2, h, -⟩; simp at h
  | k :: ks => by
    rw [seqE, List.mem_append]
    constructor
    · rintro (h | h)
      · exact ⟨[], k, ks, rfl, fun j hj => absurd hj (List.not_mem_nil), h⟩
      · by_cases hn : nul k = true
        · rw [if_pos hn] at h
          obtain ⟨L1, j, L2, e, h1, h2⟩ := mem_seqE.1 h
          refine ⟨k :: L1, j, L2, by rw [e]; rfl, fun i hi => ?_, h2⟩
          rcases List.mem_cons.1 hi with rfl | hi
          · exact hn
          · exact h1 i hi
        · rw [if_neg hn] at h; exact absurd h (List.not_mem_nil)
    · rintro ⟨L1, j, L2, e, h1, h2⟩
      match L1, e, h1 with
      | [], e, h1 =>
        simp only [List.nil_append, List.cons.injEq] at e
        exact .inl (by rw [e.1]; exact h2)
      | i :: L1, e, h1 =>
        simp only [List.cons_append, List.cons.injEq] at e
        obtain ⟨rfl, rfl⟩ := e
        rw [if_pos (h1 k (List.mem_cons_self ..))]
        exact .inr (mem_seqE.2 ⟨L1, j, L2, rfl, fun i hi => h1 i (List.mem_cons_of_mem _ hi), h2⟩)
theorem seqE_snoc {g : Int → List Int} {nul : Int → Bool} (k : Int) : ∀ (L : List Int), seqE g nul (L ++ [k]) = seqE g nul L ++ (if L.all nul = true then g k else [])
  | [] => by simp [seqE]
  | j :: L => by
    rw [List.cons_append, seqE, seqE, seqE_snoc k L, List.all_cons]
    cases hn : nul j with
    | true => simp
    | false => simp
theorem seqE_len {g : Int → List Int} {nul : Int → Bool} : ∀ (L : List Int), (seqE g nul L).length ≤ (L.map g).flatten.length
  | [] => Nat.le_refl _
  | k :: ks => by
    have := seqE_len (g := g) (nul := nul) ks
    rw [seqE, List.map_cons, List.flatten_cons, List.length_append, List.length_append]
    split
    · omega
    · simp
def ordL (rev : Bool) (L : List Int) : List Int := if rev = true then L.reverse else L
theorem mem_ordL {rev : Bool} {L : List Int} {k : Int} : k ∈ ordL rev L ↔ k ∈ L := by unfold ordL; split <;> simp
theorem ordL_len (rev : Bool) (L : List Int) : (ordL rev L).length = L.length := by unfold ordL; split <;> simp
def bdE (k : Int) (i : Nat) (nul : Int → Bool) (g : Int → List Int) (L : List Int) : List Int := if k = 2 ∨ k = 3 then seqE g (fun j => decide (k ≠ 2) || nul j) L else [(i : Int)]
def edF (D : Pn) (rev : Bool) : Nat → Nat → List Int
  | 0, _ => []
  | f + 1, i => bdE (D.K i) i (fun k => nl D k.toNat) (fun k => edF D rev f k.toNat) (ordL rev (D.KL i))
theorem bdE_congr {k : Int} {i : Nat} {nul : Int → Bool} {g h : Int → List Int} {L : List Int} (hk : ∀ k ∈ L, g k = h k) : bdE k i nul g L = bdE k i nul h L := by
  unfold bdE
  split
  · exact seqE_congr hk
  · rfl
theorem edF_more {D : Pn} {rev : Bool} : ∀ (f g i : Nat), Lo D i → i < f → i < g → edF D rev f i = edF D rev g i
  | 0, g, i, hl, hf, hg => by omega
  | f + 1, 0, i, hl, hf, hg => by omega
  | f + 1, g + 1, i, hl, hf, hg => bdE_congr (fun k hk => by
      have := hl i (Nat.le_refl _) k (mem_ordL.1 hk)
      exact edF_more f g k.toNat (lo_less hl (by omega)) (by omega) (by omega))
/-- The positions at which a row of a node begins (or, turned round, ends). -/
def ed (D : Pn) (rev : Bool) (i : Nat) : List Int := edF D rev (i + 1) i
theorem ed_eq {D : Pn} {rev : Bool} {i : Nat} (hl : Lo D i) : ed D rev i = bdE (D.K i) i (fun k => nl D k.toNat) (fun k => ed D rev k.toNat) (ordL rev (D.KL i)) :=
  bdE_congr (fun k hk => by
    have := hl i (Nat.le_refl _) k (mem_ordL.1 hk)
    exact edF_more i (k.toNat + 1) k.toNat (lo_less hl (by omega)) (by omega) (by omega))
theorem ed_range {D : Pn} {rev : Bool} : ∀ (m i : Nat), i < m → Lo D i → ∀ x ∈ ed D rev i, 0 ≤ x ∧ x ≤ (i : Int)
  | 0, i, hm, _ => by omega
  | m + 1, i, hm, hl => by
    intro x hx
    rw [ed_eq hl] at hx
    unfold bdE at hx
    split at hx
    · obtain ⟨L1, k, L2, e, -, hx⟩ := mem_seqE.1 hx
      have hk := hl i (Nat.le_refl _) k (mem_ordL.1 (by rw [e]; simp))
      have := ed_range m k.toNat (by omega) (lo_less hl (by omega)) x hx
      omega
    · simp at hx; omega
theorem flat_rev (g : Int → List Int) : ∀ (L : List Int), (L.reverse.map g).flatten.length = (L.map g).flatten.length
  | [] => rfl
  | r :: t => by rw [List.reverse_cons, List.map_append, List.flatten_append, List.length_append, flat_rev g t, List.map_cons, List.flatten_cons, List.length_append]; simp; omega
theorem fd_ed {D : Pn} {rev : Bool} : ∀ (ks : List Int) (a f : Nat), (∀ j c, j < a → tr D j = some c → (ed D rev j).length ≤ j + 1 - c) → fd (tr D) ks a = some f → (ks.map fun k => ed D rev k.toNat).flatten.length ≤ a - f ∧ f ≤ a
  | [], a, f, ih, h => by
    simp [fd] at h
    subst h
    exact ⟨Nat.zero_le _, Nat.le_refl _⟩
  | k :: ks, a, f, ih, h => by
    by_cases hc : 0 < a ∧ k = (a : Int) - 1
    · cases hg : tr D (a - 1) with
      | none => rw [fd_none hc hg] at h; cases h
      | some c =>
        have hca := tr_le hg
        rw [fd_yes hc hg] at h
        obtain ⟨h1, h2⟩ := fd_ed ks c f (fun j d hj => ih j d (by omega)) h
        have h3 := ih (a - 1) c (by omega) hg
        rw [List.map_cons, List.flatten_cons, List.length_append, show k.toNat = a - 1 by omega]
        exact ⟨by omega, by omega⟩
    · rw [fd_no hc] at h; cases h
theorem ed_len {D : Pn} {rev : Bool} (hlo : ∀ j, j < D.n → ∀ k, k ∈ D.KL j → 0 ≤ k ∧ k < (j : Int)) : ∀ (m i c : Nat), i < m → i < D.n → tr D i = some c → (ed D rev i).length ≤ i + 1 - c ∧ ((D.KL i).map fun k => ed D rev k.toNat).flatten.length ≤ i
  | 0, i, c, hm, hi, h => by omega
  | m + 1, i, c, hm, hi, h => by
    have hc := tr_le h
    have ht := h
    rw [tr_eq] at ht
    obtain ⟨h2, h3⟩ := fd_ed (rev := rev) _ i c (fun j d hj hd => (ed_len hlo m j d (by omega) (by omega) hd).1) ht
    rw [flat_rev] at h2
    refine ⟨?_, by omega⟩
    rw [ed_eq (fun j hj => hlo j (by omega))]
    unfold bdE
    split
    · show (seqE (fun k => ed D rev k.toNat) (fun j => decide (D.K i ≠ 2) || nl D j.toNat) (ordL rev (D.KL i))).length ≤ _
      have h4 := seqE_len (g := fun k => ed D rev k.toNat) (nul := fun j => decide (D.K i ≠ 2) || (nl D j.toNat)) (ordL rev (D.KL i))
      have h5 : ((ordL rev (D.KL i)).map fun k => ed D rev k.toNat).flatten.length = ((D.KL i).map fun k => ed D rev k.toNat).flatten.length := by
        unfold ordL
        split
        · exact flat_rev _ _
        · rfl
      omega
    · simp; omega
/-- What a node itself lets follow: q behind p. -/
def OwP (D : Pn) (i : Nat) (p q : Int) : Prop :=
  (2 ≤ D.OC i ∧ p ∈ ed D true i ∧ q ∈ ed D false i) ∨ (D.K i = 2 ∧ ∃ L1 a L2 b L3, D.KL i = L1 ++ a :: (L2 ++ b :: L3) ∧ (∀ j ∈ L2, nl D j.toNat = true) ∧ p ∈ ed D true a.toNat ∧ q ∈ ed D false b.toNat)
/-- q may stand right behind p in rows of a node. -/
def lkF (D : Pn) (p q : Int) : Nat → Nat → Prop
  | 0, _ => False
  | f + 1, i => OwP D i p q ∨ ∃ k ∈ D.KL i, lkF D p q f k.toNat
theorem lkF_more {D : Pn} {p q : Int} : ∀ (f g i : Nat), Lo D i → i < f → i < g → (lkF D p q f i ↔ lkF D p q g i)
  | 0, g, i, hl, hf, hg => by omega
  | f + 1, 0, i, hl, hf, hg => by omega
  | f + 1, g + 1, i, hl, hf, hg => by
    have key : ∀ k, k ∈ D.KL i → (lkF D p q f k.toNat ↔ lkF D p q g k.toNat) := fun k hk => by
      have := hl i (Nat.le_refl _) k hk
      exact lkF_more f g k.toNat (lo_less hl (by omega)) (by omega) (by omega)
    rw [lkF, lkF]
    constructor
    · rintro (h | ⟨k, hk, h⟩)
      · exact .inl h
      · exact .inr ⟨k, hk, (key k hk).1 h⟩
    · rintro (h | ⟨k, hk, h⟩)
      · exact .inl h
      · exact .inr ⟨k, hk, (key k hk).2 h⟩
def lk (D : Pn) (i : Nat) (p q : Int) : Prop := lkF D p q (i + 1) i
theorem lk_iff {D : Pn} {i : Nat} {p q : Int} (hl : Lo D i) : lk D i p q ↔ OwP D i p q ∨ ∃ k ∈ D.KL i, lk D k.toNat p q := by
  have key : ∀ k, k ∈ D.KL i → (lkF D p q i k.toNat ↔ lk D k.toNat p q) := fun k hk => by
    have := hl i (Nat.le_refl _) k hk
    exact lkF_more i (k.toNat + 1) k.toNat (lo_less hl (by omega)) (by omega) (by omega)
  unfold lk
  rw [lkF]
  constructor
  · rintro (h | ⟨k, hk, h⟩)
    · exact .inl h
    · exact .inr ⟨k, hk, (key k hk).1 h⟩
  · rintro (h | ⟨k, hk, h⟩)
    · exact .inl h
    · exact .inr ⟨k, hk, (key k hk).2 h⟩
theorem lk_node {D : Pn} {p q : Int} : ∀ (m i : Nat), i < m → Lo D i → lk D i p q → ∃ j, j ≤ i ∧ OwP D j p q
  | 0, i, hm, _, _ => by omega
  | m + 1, i, hm, hl, h => by
    rcases (lk_iff hl).1 h with h | ⟨k, hk, h⟩
    · exact ⟨i, Nat.le_refl _, h⟩
    · have hk2 := hl i (Nat.le_refl _) k hk
      obtain ⟨j, hj, h2⟩ := lk_node m k.toNat (by omega) (lo_less hl (by omega)) h
      exact ⟨j, by omega, h2⟩
/-- Every node of a tree is reached from its root. -/
theorem fd_lk {D : Pn} {p q : Int} : ∀ (ks : List Int) (a f : Nat), (∀ j c, j < a → tr D j = some c → ∀ i, c ≤ i → i ≤ j → OwP D i p q → lk D j p q) → fd (tr D) ks a = some f → ∀ i, f ≤ i → i < a → OwP D i p q → ∃ k ∈ ks, lk D k.toNat p q
  | [], a, f, ih, h, i, h1, h2, h3 => by
    simp [fd] at h
    omega
  | k :: ks, a, f, ih, h, i, h1, h2, h3 => by
    by_cases hc : 0 < a ∧ k = (a : Int) - 1
    · cases hg : tr D (a - 1) with
      | none => rw [fd_none hc hg] at h; cases h
      | some c =>
        have hca := tr_le hg
        rw [fd_yes hc hg] at h
        by_cases hi : c ≤ i
        · exact ⟨k, List.mem_cons_self .., by rw [show k.toNat = a - 1 by omega]; exact ih (a - 1) c (by omega) hg i hi (by omega) h3⟩
        · obtain ⟨k2, hk2, h4⟩ := fd_lk ks c f (fun j d hj => ih j d (by omega)) h i h1 (by omega) h3
          exact ⟨k2, List.mem_cons_of_mem _ hk2, h4⟩
    · rw [fd_no hc] at h; cases h
theorem tr_lk {D : Pn} {p q : Int} : ∀ (m r c : Nat), r < m → Lo D r → tr D r = some c → ∀ i, c ≤ i → i ≤ r → OwP D i p q → lk D r p q
  | 0, r, c, hm, hl, h => by omega
  | m + 1, r, c, hm, hl, h => by
    intro i h1 h2 h3
    rw [lk_iff hl]
    by_cases e : i = r
    · subst e; exact .inl h3
    · have ht := h
      rw [tr_eq] at ht
      obtain ⟨k, hk, h4⟩ := fd_lk _ r c (fun j d hj hd => tr_lk m j d (by omega) (lo_less hl (by omega)) hd) ht i h1 (by omega) h3
      exact .inr ⟨k, List.mem_reverse.1 hk, h4⟩
/-- A row's links, as the program tells them: each kid behind what ends ahead of it. -/
theorem ow_prog {L : List Int} {nul : Int → Bool} {g h : Int → List Int} {p q : Int} : (∃ L1 a L2 b L3, L = L1 ++ a :: (L2 ++ b :: L3) ∧ (∀ j ∈ L2, nul j = true) ∧ p ∈ g a ∧ q ∈ h b) ↔ ∃ M b L3, L = M ++ b :: L3 ∧ p ∈ seqE g nul M.reverse ∧ q ∈ h b := by
  constructor
  · rintro ⟨L1, a, L2, b, L3, e, h1, h2, h3⟩
    refine ⟨L1 ++ a :: L2, b, L3, by rw [e]; simp, mem_seqE.2 ⟨L2.reverse, a, L1.reverse, by simp, fun j hj => h1 j (List.mem_reverse.1 hj), h2⟩, h3⟩
  · rintro ⟨M, b, L3, e, h1, h2⟩
    obtain ⟨R1, a, R2, e2, h3, h4⟩ := mem_seqE.1 h1
    have e3 : M = R2.reverse ++ a :: R1.reverse := by
      have := congrArg List.reverse e2
      rw [List.reverse_reverse] at this
      rw [this]
      simp
    exact ⟨R2.reverse, a, R1.reverse, b, L3, by rw [e, e3]; simp, fun j hj => h3 j (List.mem_reverse.1 hj), h4, h2⟩
/-- and as the specification tells them: what may begin behind a kid. -/
theorem ow_spec {L : List Int} {nul : Int → Bool} {g h : Int → List Int} {p q : Int} : (∃ L1 a L2 b L3, L = L1 ++ a :: (L2 ++ b :: L3) ∧ (∀ j ∈ L2, nul j = true) ∧ p ∈ g a ∧ q ∈ h b) ↔ ∃ L1 a R, L = L1 ++ a :: R ∧ p ∈ g a ∧ q ∈ seqE h nul R := by
  constructor
  · rintro ⟨L1, a, L2, b, L3, e, h1, h2, h3⟩
    exact ⟨L1, a, L2 ++ b :: L3, e, h2, mem_seqE.2 ⟨L2, b, L3, rfl, h1, h3⟩⟩
  · rintro ⟨L1, a, R, e, h1, h2⟩
    obtain ⟨L2, b, L3, e2, h3, h4⟩ := mem_seqE.1 h2
    exact ⟨L1, a, L2, b, L3, by rw [e, e2], h3, h1, h4⟩
/-- A set is told by its bits. -/
def BitS (x : Nat) (S : List Int) : Prop := x < 1099511627776 ∧ ∀ q : Nat, x.testBit q = true ↔ (q : Int) ∈ S
theorem bitS_nil : BitS 0 [] := ⟨by decide, fun q => by simp⟩
theorem or_lt40 {x y : Nat} (hx : x < 1099511627776) (hy : y < 1099511627776) : x ||| y < 1099511627776 := Nat.or_lt_two_pow (n := 40) hx hy
theorem bitS_app {x y : Nat} {S T : List Int} (h1 : BitS x S) (h2 : BitS y T) : BitS (x ||| y) (S ++ T) :=
  ⟨or_lt40 h1.1 h2.1, fun q => by rw [Nat.testBit_or, Bool.or_eq_true, h1.2 q, h2.2 q, List.mem_append]⟩
theorem bitS_congr {x : Nat} {S T : List Int} (h : BitS x S) (e : ∀ q : Nat, (q : Int) ∈ S ↔ (q : Int) ∈ T) : BitS x T := ⟨h.1, fun q => (h.2 q).trans (e q)⟩
theorem bitS_one {n : Nat} (hn : n < 40) : BitS (2 ^ n) [(n : Int)] := ⟨Nat.pow_lt_pow_right (a := 2) (n := 40) (by decide) hn, fun q => by
  rw [Nat.testBit_two_pow, decide_eq_true_eq]
  simp
  omega⟩
end Go.Proofs.YtfohfljdgmlibaaDoor

/-
  Plain facts: what follows what, told by bits, while a model is gone through.
-/
namespace Go.Proofs.YtfohfljdgmlibaaDoor
open Go.RowKit Go.Joins
set_option linter.unusedVariables false
set_option linter.unusedSimpArgs false
/-- To what followed already has come R. -/
def LkB (F F' : Nat → Nat) (R : Int → Int → Prop) : Prop := ∀ p : Nat, p < 41 → F' p < 1099511627776 ∧ ∀ q : Nat, (F' p).testBit q = true ↔ ((F p).testBit q = true ∨ R p q)
theorem lkB_lt {F F' : Nat → Nat} {R : Int → Int → Prop} (h : LkB F F' R) : ∀ p, p < 41 → F' p < 18446744073709551616 := fun p hp => Nat.lt_of_lt_of_le (h p hp).1 (by decide)
theorem lkB_refl {F : Nat → Nat} {R : Int → Int → Prop} (h : ∀ p, p < 41 → F p < 1099511627776) (hR : ∀ p q : Nat, ¬ R p q) : LkB F F R := fun p hp => ⟨h p hp, fun q => ⟨.inl, fun h9 => h9.elim id (fun h8 => absurd h8 (hR p q))⟩⟩
theorem lkB_trans {F F1 F2 : Nat → Nat} {R1 R2 R : Int → Int → Prop} (h1 : LkB F F1 R1) (h2 : LkB F1 F2 R2) (hR : ∀ p q : Nat, R p q ↔ R1 p q ∨ R2 p q) : LkB F F2 R := fun p hp => ⟨(h2 p hp).1, fun q => by rw [(h2 p hp).2 q, (h1 p hp).2 q, hR p q, or_assoc]⟩
theorem lkB_congr {F F1 : Nat → Nat} {R R' : Int → Int → Prop} (h1 : LkB F F1 R) (hR : ∀ p q : Nat, R p q ↔ R' p q) : LkB F F1 R' := fun p hp => ⟨(h1 p hp).1, fun q => by rw [(h1 p hp).2 q, hR p q]⟩
theorem bits_mem {x : Nat} {S : List Int} (h : BitS x S) (p : Nat) : (p : Int) ∈ bts x ↔ (p : Int) ∈ S := by
  rw [bts_mem (x + 1) x (by omega) (Nat.lt_of_lt_of_le h.1 (by decide)), ← h.2 p]
  constructor
  · rintro ⟨j, e, hj⟩
    have : p = j := by omega
    subst this
    exact hj
  · intro hj; exact ⟨p, rfl, hj⟩
theorem lkB_link {F : Nat → Nat} {a t : Nat} {S T : List Int} (h : ∀ p, p < 41 → F p < 1099511627776) (ha : BitS a S) (ht : BitS t T) : LkB F (lkU F (bts a) t) (fun p q => p ∈ S ∧ q ∈ T) := fun p hp => by
  unfold lkU
  by_cases hm : (p : Int) ∈ bts a
  · rw [if_pos hm]
    refine ⟨or_lt40 (h p hp) ht.1, fun q => ?_⟩
    rw [Nat.testBit_or, Bool.or_eq_true, ht.2 q]
    have := (bits_mem ha p).1 hm
    exact ⟨fun h9 => h9.elim .inl (fun h8 => .inr ⟨this, h8⟩), fun h9 => h9.elim .inl (fun h8 => .inr h8.2)⟩
  · rw [if_neg hm]
    refine ⟨h p hp, fun q => ⟨.inl, fun h9 => h9.elim id (fun h8 => absurd ((bits_mem ha p).2 h8.1) hm)⟩⟩
/-- What has come of the first m kids of a row. -/
def SqR (D : Pn) (L : List Int) (p q : Int) : Prop := (∃ k ∈ L, lk D k.toNat p q) ∨ ∃ M b R, L = M ++ b :: R ∧ p ∈ seqE (fun k => ed D true k.toNat) (fun k => nl D k.toNat) M.reverse ∧ q ∈ ed D false b.toNat
theorem sqR_nil (D : Pn) (p q : Int) : ¬ SqR D [] p q := by
  rintro (⟨k, hk, -⟩ | ⟨M, b, R, e, -⟩)
  · exact absurd hk (List.not_mem_nil)
  · simp at e
theorem sqR_snoc (D : Pn) (L : List Int) (k : Int) (p q : Int) : SqR D (L ++ [k]) p q ↔ SqR D L p q ∨ (lk D k.toNat p q ∨ (p ∈ seqE (fun k => ed D true k.toNat) (fun k => nl D k.toNat) L.reverse ∧ q ∈ ed D false k.toNat)) := by
  constructor
  · rintro (⟨j, hj, h⟩ | ⟨M, b, R, e, h1, h2⟩)
    · rcases List.mem_append.1 hj with hj | hj
      · exact .inl (.inl ⟨j, hj, h⟩)
      · simp at hj; subst hj; exact .inr (.inl h)
    · rcases List.eq_nil_or_concat R with rfl | ⟨R', z, rfl⟩
      · have := List.append_inj' e (by simp)
        obtain ⟨rfl, e2⟩ := this
        simp at e2
        subst e2
        exact .inr (.inr ⟨h1, h2⟩)
      · have e2 : L ++ [k] = (M ++ b :: R') ++ [z] := by rw [e]; simp
        have := List.append_inj' e2 (by simp)
        exact .inl (.inr ⟨M, b, R', this.1, h1, h2⟩)
  · rintro ((⟨j, hj, h⟩ | ⟨M, b, R, e, h1, h2⟩) | (h | ⟨h1, h2⟩))
    · exact .inl ⟨j, List.mem_append_left _ hj, h⟩
    · exact .inr ⟨M, b, R ++ [k], by rw [e]; simp, h1, h2⟩
    · exact .inl ⟨k, by simp, h⟩
    · exact .inr ⟨L, k, [], rfl, h1, h2⟩
/-- The sets of a row: what one kid more makes of them. -/
theorem seq_next {g h : Int → List Int} {nul : Int → Bool} {L : List Int} {k : Int} {f l fk lk9 : Nat} (hf : BitS f (seqE g nul L)) (hl : BitS l (seqE h nul L.reverse)) (hfk : BitS fk (g k)) (hlk : BitS lk9 (h k)) :
    BitS (thF (L.all nul) f fk) (seqE g nul (L ++ [k])) ∧ BitS (thL (nul k) lk9 l) (seqE h nul (L ++ [k]).reverse) := by
  constructor
  · rw [seqE_snoc]
    unfold thF
    by_cases e : L.all nul = true
    · rw [if_pos e, if_pos e]; exact bitS_app hf hfk
    · rw [if_neg e, if_neg e, List.append_nil]; exact hf
  · rw [List.reverse_append]
    show BitS _ (seqE h nul (k :: L.reverse))
    rw [seqE]
    unfold thL
    by_cases e : nul k = true
    · rw [if_pos e, if_pos e]; exact bitS_app hlk hl
    · rw [if_neg e, if_neg e, List.append_nil]; exact hlk
theorem orr_next {g h : Int → List Int} {L : List Int} {k : Int} {f l fk lk9 : Nat} (hf : BitS f (seqE g (fun _ => true) L)) (hl : BitS l (seqE h (fun _ => true) L.reverse)) (hfk : BitS fk (g k)) (hlk : BitS lk9 (h k)) :
    BitS (f ||| fk) (seqE g (fun _ => true) (L ++ [k])) ∧ BitS (l ||| lk9) (seqE h (fun _ => true) (L ++ [k]).reverse) := by
  obtain ⟨h1, h2⟩ := seq_next hf hl hfk hlk
  unfold thF at h1
  unfold thL at h2
  rw [if_pos (by simp)] at h1
  rw [if_pos rfl] at h2
  exact ⟨h1, by rw [Nat.or_comm]; exact h2⟩
/-- The answer of a node, once its kids are done. -/
theorem lk_seq {D : Pn} {i : Nat} (hl : Lo D i) (hk : D.K i = 2) (p q : Int) : lk D i p q ↔ SqR D (D.KL i) p q ∨ (2 ≤ D.OC i ∧ p ∈ ed D true i ∧ q ∈ ed D false i) := by
  rw [lk_iff hl]
  unfold OwP SqR
  rw [← ow_prog (L := D.KL i) (nul := fun k => nl D k.toNat) (g := fun k => ed D true k.toNat) (h := fun k => ed D false k.toNat) (p := p) (q := q)]
  constructor
  · rintro ((h | ⟨-, h⟩) | h)
    · exact .inr h
    · exact .inl (.inr h)
    · exact .inl (.inl h)
  · rintro ((h | h) | h)
    · exact .inr h
    · exact .inl (.inr ⟨hk, h⟩)
    · exact .inl (.inl h)
theorem lk_other {D : Pn} {i : Nat} (hl : Lo D i) (hk : D.K i ≠ 2) (p q : Int) : lk D i p q ↔ (∃ k ∈ D.KL i, lk D k.toNat p q) ∨ (2 ≤ D.OC i ∧ p ∈ ed D true i ∧ q ∈ ed D false i) := by
  rw [lk_iff hl]
  unfold OwP
  constructor
  · rintro ((h | ⟨h, -⟩) | h)
    · exact .inr h
    · exact absurd h hk
    · exact .inl h
  · rintro (h | h)
    · exact .inr h
    · exact .inl (.inl h)
theorem ed_seq {D : Pn} {i : Nat} {rev : Bool} (hl : Lo D i) (hk : D.K i = 2) : ed D rev i = seqE (fun k => ed D rev k.toNat) (fun k => nl D k.toNat) (ordL rev (D.KL i)) := by
  rw [ed_eq hl]
  unfold bdE
  rw [if_pos (.inl hk)]
  have : (fun j : Int => decide (D.K i ≠ 2) || nl D j.toNat) = fun k => nl D k.toNat := by
    funext j
    rw [decide_eq_false (by simp [hk])]
    rfl
  exact congrArg (fun z => seqE (fun k => ed D rev k.toNat) z (ordL rev (D.KL i))) this
theorem ed_or {D : Pn} {i : Nat} {rev : Bool} (hl : Lo D i) (hk : D.K i = 3) : ed D rev i = seqE (fun k => ed D rev k.toNat) (fun _ => true) (ordL rev (D.KL i)) := by
  rw [ed_eq hl]
  unfold bdE
  rw [if_pos (.inr hk)]
  have : (fun j : Int => decide (D.K i ≠ 2) || nl D j.toNat) = fun _ => true := by
    funext j
    rw [decide_eq_true (by rw [hk]; decide)]
    rfl
  exact congrArg (fun z => seqE (fun k => ed D rev k.toNat) z (ordL rev (D.KL i))) this
theorem ed_leaf {D : Pn} {i : Nat} {rev : Bool} (hl : Lo D i) (hk : D.K i = 1 ∨ D.K i = 4) : ed D rev i = [(i : Int)] := by
  rw [ed_eq hl]
  unfold bdE
  rw [if_neg (by omega)]
end Go.Proofs.YtfohfljdgmlibaaDoor

/-
  Contract: what a node tells of its rows, and what follows what in them (the program's closure that calls itself).
-/
namespace Go.Proofs.YtfohfljdgmlibaaDoor
open Go.RowKit Go.Joins
set_option linter.unusedVariables false
set_option linter.unusedSimpArgs false
/-- The closure that tells. -/
def tellV (PB T TB : Nat) : Value := .func (.func 66) #[] #[.pointer (some ⟨PB, 0, none⟩), .pointer (some ⟨T, 0, none⟩), .pointer (some ⟨TB, 0, none⟩)]
/-- What stands while a model is gone through: the library's table, the captured variables, the model. -/
structure TkW (w : World) (D : Pn) (n b0 off cap PB T TB B0 : Nat) : Prop where
  tz : TzT w
  pb : CellsAt w PB #[.slice (some ⟨b0, off, none⟩) n cap]
  tb : CellsAt w TB #[tellV PB T TB]
  row : PnRow w b0 off D B0
  hb0 : b0 < B0
  hB : B0 ≤ T
  hsz : B0 ≤ w.heap.size
  htz : 0 < B0
  hPB : PB ≠ T
  hTB : TB ≠ T
theorem tkW_go {w w' : World} {D : Pn} {n b0 off cap PB T TB B0 : Nat} (h : TkW w D n b0 off cap PB T TB B0) (hg : w.grownBy w' (some T)) : TkW w' D n b0 off cap PB T TB B0 :=
  have hb := grown_below hg h.hB h.hsz
  ⟨fun j hj => (hb.cell (p := ⟨0, j, none⟩) h.htz).trans (h.tz j hj), cellsAt_grown h.pb hg h.hPB, cellsAt_grown h.tb hg h.hTB, pnRow_go h.row h.hb0 hb, h.hb0, h.hB, Nat.le_trans h.hsz hg.size, h.htz, h.hPB, h.hTB⟩
/-- What a node answers. -/
def TellA (D : Pn) (i T : Nat) (mv : Value) (F : Nat → Nat) (e : Nat) (w : World) (r : Ending) (w' : World) : Prop := ∃ (f l : Nat) (F' : Nat → Nat), r = .returned (.agg #[.bool (nl D i), .int .u64 (f : Int), .int .u64 (l : Int)]) ∧ BitS f (ed D false i) ∧ BitS l (ed D true i) ∧ LkB F F' (lk D i) ∧ CellsAt w' T (tkC mv F' e) ∧ w.grownBy w' (some T)
theorem tkW_drew {w : World} {D : Pn} {n b0 off cap PB T TB B0 : Nat} (h : TkW w D n b0 off cap PB T TB B0) : TkW w.drew D n b0 off cap PB T TB B0 := tkW_go h ⟨rfl, rfl, rfl, Nat.le_refl _, fun _ _ _ => rfl⟩
/-- What a call has in memory of its own while it goes through a node: its answer, the node, what the node tells so far, and the ways. -/
def TkB (w wr : World) (T : Nat) (rs nd : Array Value) (e : Bool) (f l : Nat) (mv : Value) (F : Nat → Nat) (e0 : Nat) : Prop := CellsAt wr w.heap.size rs ∧ CellsAt wr (w.heap.size + 1) nd ∧ CellsAt wr (w.heap.size + 1 + 1) #[.bool e, .int .u64 (f : Int), .int .u64 (l : Int)] ∧ CellsAt wr T (tkC mv F e0) ∧ w.grownBy wr (some T)
theorem tkB_go {w wr w2 : World} {T : Nat} {rs nd : Array Value} {e : Bool} {f l : Nat} {mv : Value} {F F2 : Nat → Nat} {e0 : Nat} (h : TkB w wr T rs nd e f l mv F e0) (hg : wr.grownBy w2 (some T)) (hc : CellsAt w2 T (tkC mv F2 e0)) (hT : T < w.heap.size) : TkB w w2 T rs nd e f l mv F2 e0 :=
  ⟨cellsAt_grown h.1 hg (by omega), cellsAt_grown h.2.1 hg (by omega), cellsAt_grown h.2.2.1 hg (by omega), hc, grown_trans9 h.2.2.2.2 hg⟩
theorem tkB_drew {w wr : World} {T : Nat} {rs nd : Array Value} {e : Bool} {f l : Nat} {mv : Value} {F : Nat → Nat} {e0 : Nat} (h : TkB w wr T rs nd e f l mv F e0) : TkB w wr.drew T rs nd e f l mv F e0 := ⟨h.1, h.2.1, h.2.2.1, h.2.2.2.1, grown_drew9 h.2.2.2.2⟩
theorem tkB_set {w wr : World} {T : Nat} {rs nd : Array Value} {e e' : Bool} {f l f' l' : Nat} {mv : Value} {F : Nat → Nat} {e0 : Nat} (h : TkB w wr T rs nd e f l mv F e0) (hT : T < w.heap.size) : TkB w (((wr.setCell ⟨w.heap.size + 1 + 1, 0, none⟩ (.bool e')).setCell ⟨w.heap.size + 1 + 1, 1, none⟩ (.int .u64 (f' : Int))).setCell ⟨w.heap.size + 1 + 1, 2, none⟩ (.int .u64 (l' : Int))) T rs nd e' f' l' mv F e0 := by
  obtain ⟨h1, h2, h3, h4, h5⟩ := h
  refine ⟨?_, ?_, ?_, ?_, ?_⟩
  · refine cellsAt_far (cellsAt_far (cellsAt_far h1 _ ?_) _ ?_) _ ?_ <;> (simp only []; omega)
  · refine cellsAt_far (cellsAt_far (cellsAt_far h2 _ ?_) _ ?_) _ ?_ <;> (simp only []; omega)
  · exact cellsAt_set (cellsAt_set (cellsAt_set h3 _) _) _
  · refine cellsAt_far (cellsAt_far (cellsAt_far h4 _ ?_) _ ?_) _ ?_ <;> (simp only []; omega)
  · refine grown_far (grown_far (grown_far h5 _ ?_) _ ?_) _ ?_ <;> (simp only []; omega)
theorem tkB_set0 {w wr : World} {T : Nat} {rs nd : Array Value} {e e' : Bool} {f l : Nat} {mv : Value} {F : Nat → Nat} {e0 : Nat} (h : TkB w wr T rs nd e f l mv F e0) (hT : T < w.heap.size) : TkB w (wr.setCell ⟨w.heap.size + 1 + 1, 0, none⟩ (.bool e')) T rs nd e' f l mv F e0 := by
  obtain ⟨h1, h2, h3, h4, h5⟩ := h
  exact ⟨cellsAt_far h1 _ (by simp only []; omega), cellsAt_far h2 _ (by simp only []; omega), cellsAt_set h3 _, cellsAt_far h4 _ (by simp only []; omega), grown_far h5 _ (by simp only []; omega)⟩
theorem tkB_own {w wr : World} {T : Nat} {rs nd : Array Value} {e : Bool} {f l : Nat} {mv : Value} {F : Nat → Nat} {e0 : Nat} (h : TkB w wr T rs nd e f l mv F e0) : wr.cell? ⟨w.heap.size + 1 + 1, 0, none⟩ = some (.bool e) ∧ wr.cell? ⟨w.heap.size + 1 + 1, 1, none⟩ = some (.int .u64 (f : Int)) ∧ wr.cell? ⟨w.heap.size + 1 + 1, 2, none⟩ = some (.int .u64 (l : Int)) ∧ wr.frozen? ⟨w.heap.size + 1 + 1, 0, none⟩ = false ∧ wr.frozen? ⟨w.heap.size + 1 + 1, 1, none⟩ = false ∧ wr.frozen? ⟨w.heap.size + 1 + 1, 2, none⟩ = false :=
  ⟨cellsAt_cell h.2.2.1 0, cellsAt_cell h.2.2.1 1, cellsAt_cell h.2.2.1 2, cellsAt_frozen h.2.2.1 0, cellsAt_frozen h.2.2.1 1, cellsAt_frozen h.2.2.1 2⟩
/-- The answer is written. -/
theorem tkB_end {w wr : World} {T : Nat} {rs nd : Array Value} {e : Bool} {f l : Nat} {mv : Value} {F : Nat → Nat} {e0 : Nat} {a b c : Value} (h : TkB w wr T rs nd e f l mv F e0) (hT : T < w.heap.size) : CellsAt (((wr.setCell ⟨w.heap.size, 0, none⟩ a).setCell ⟨w.heap.size, 1, none⟩ b).setCell ⟨w.heap.size, 2, none⟩ c) T (tkC mv F e0) := by
  refine cellsAt_far (cellsAt_far (cellsAt_far h.2.2.2.1 _ ?_) _ ?_) _ ?_ <;> (simp only []; omega)
theorem tkB_end2 {w wr : World} {T : Nat} {rs nd : Array Value} {e : Bool} {f l : Nat} {mv : Value} {F : Nat → Nat} {e0 : Nat} {a b c : Value} (h : TkB w wr T rs nd e f l mv F e0) (hT : T < w.heap.size) : w.grownBy (((wr.setCell ⟨w.heap.size, 0, none⟩ a).setCell ⟨w.heap.size, 1, none⟩ b).setCell ⟨w.heap.size, 2, none⟩ c) (some T) := by
  refine grown_far (grown_far (grown_far h.2.2.2.2 _ ?_) _ ?_) _ ?_ <;> (simp only []; omega)
theorem i_often (oc : Int) (w : World) : Calls Tryd.prog 69 #[.int .i64 oc] w fun r w' => r = .returned (.bool (decide (oc = 2 ∨ oc = 3))) ∧ w' = w := by
  by_cases h1 : oc = 2
  · subst h1
    go_enter Tryd.func69, Tryd.ntmps69
    go_wp2
    go_ret
    exact ⟨rfl, rfl⟩
  · have f1 : (oc == 2) = false := by simpa using h1
    by_cases h2 : oc = 3
    · subst h2
      go_enter Tryd.func69, Tryd.ntmps69
      go_wp2
      go_ret
      exact ⟨rfl, rfl⟩
    · have f2 : (oc == 3) = false := by simpa using h2
      have HD : Hid (decide (oc = 2 ∨ oc = 3) = false) := hide (by simp [h1, h2])
      clear h1 h2
      go_enter Tryd.func69, Tryd.ntmps69
      go_wp2
      go_ret
      exact ⟨by rw [HD.out]; rfl, rfl⟩
theorem i_opt9 (oc : Int) (w : World) : Calls Tryd.prog 71 #[.int .i64 oc] w fun r w' => r = .returned (.bool (decide (oc = 1 ∨ oc = 2))) ∧ w' = w := by
  by_cases h1 : oc = 1
  · subst h1
    go_enter Tryd.func71, Tryd.ntmps71
    go_wp2
    go_ret
    exact ⟨rfl, rfl⟩
  · have f1 : (oc == 1) = false := by simpa using h1
    by_cases h2 : oc = 2
    · subst h2
      go_enter Tryd.func71, Tryd.ntmps71
      go_wp2
      go_ret
      exact ⟨rfl, rfl⟩
    · have f2 : (oc == 2) = false := by simpa using h2
      have HD : Hid (decide (oc = 1 ∨ oc = 2) = false) := hide (by simp [h1, h2])
      clear h1 h2
      go_enter Tryd.func71, Tryd.ntmps71
      go_wp2
      go_ret
      exact ⟨by rw [HD.out]; rfl, rfl⟩
end Go.Proofs.YtfohfljdgmlibaaDoor
