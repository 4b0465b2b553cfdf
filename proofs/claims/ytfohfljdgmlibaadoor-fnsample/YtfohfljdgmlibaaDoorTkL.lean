/-
  Plain facts: what follows what, told by bits, while a model is gone through.
-/
import Derived.Test.YtfohfljdgmlibaaDoorTkI
import Derived.Test.YtfohfljdgmlibaaDoorTkMath
namespace Go.Proofs.YtfohfljdgmlibaaDoor
open Go.RowKit Go.Joins
set_option linter.unusedVariables false
set_option linter.unusedSimpArgs false
/-- To what followed already has come R. -/
def LkB (F F' : Nat → Nat) (R : Int → Int → Prop) : Prop := ∀ p : Nat, p < 41 → F' p < 1099511627776 ∧ ∀ q : Nat, (F' p).testBit q = true ↔ ((F p).testBit q = true ∨ R p q)
theorem lkB_lt {F F' : Nat → Nat} {R : Int → Int → Prop} (h : LkB F F' R) : ∀ p, p < 41 → F' p < 18446744073709551616 := fun p hp => Nat.lt_of_lt_of_le (h p hp).1 (by decide)
theorem lkB_refl {F : Nat → Nat} {R : Int → Int → Prop} (h : ∀ p, p < 41 → F p < 1099511627776) (hR : ∀ p q : Nat, ¬ R p q) : LkB F F R := fun p hp => ⟨h p hp, fun q => ⟨.inl, fun h9 => h9.elim id (fun h8 => absurd h8 (hR p q))⟩⟩
theorem lkB_trans {F F1 F2 : Nat → Nat} {R1 R2 R : Int → Int → Prop} (h1 : LkB F F1 R1) (h2 : LkB F1 F2 R2) (hR : ∀ p q : Nat, R p q ↔ R1 p q ∨ R2 p q) : LkB F F2 R := fun p hp => ⟨(h2 p hp).1, fun q => by rw [(h2 p hp).2 q, (h1 p hp).2 q, hR p q, or_assoc]⟩
theorem lkB_congr {F F1 : Nat → Nat} {R R' : Int → Int → Prop} (h1 : LkB F F1 R) (hR : ∀ p q : Nat, R p q ↔ R' p q) : LkB F F1 R' := fun p hp => ⟨(h1 p hp).1, fun q => by rw [(h1 p hp).2 q, hR p q]⟩
theorem bits_mem {x : Nat} {S : List Int} (h : BitS x S) (p : Nat) : (p : Int) ∈ bts x ↔ (p : Int) ∈ S := by
  rw [bts_mem (x + 1) x (by omega) (Nat.lt_of_lt_of_le h.1 (by decide)), ← h.2 p]
  constructor
  · rintro ⟨j, e, hj⟩
    have : p = j := by omega
    subst this
    exact hj
  · intro hj; exact ⟨p, rfl, hj⟩
theorem lkB_link {F : Nat → Nat} {a t : Nat} {S T : List Int} (h : ∀ p, p < 41 → F p < 1099511627776) (ha : BitS a S) (ht : BitS t T) : LkB F (lkU F (bts a) t) (fun p q => p ∈ S ∧ q ∈ T) := fun p hp => by
  unfold lkU
  by_cases hm : (p : Int) ∈ bts a
  · rw [if_pos hm]
    refine ⟨or_lt40 (h p hp) ht.1, fun q => ?_⟩
    rw [Nat.testBit_or, Bool.or_eq_true, ht.2 q]
    have := (bits_mem ha p).1 hm
    exact ⟨fun h9 => h9.elim .inl (fun h8 => .inr ⟨this, h8⟩), fun h9 => h9.elim .inl (fun h8 => .inr h8.2)⟩
  · rw [if_neg hm]
    refine ⟨h p hp, fun q => ⟨.inl, fun h9 => h9.elim id (fun h8 => absurd ((bits_mem ha p).2 h8.1) hm)⟩⟩
/-- What has come of the first m kids of a row. -/
def SqR (D : Pn) (L : List Int) (p q : Int) : Prop := (∃ k ∈ L, lk D k.toNat p q) ∨ ∃ M b R, L = M ++ b :: R ∧ p ∈ seqE (fun k => ed D true k.toNat) (fun k => nl D k.toNat) M.reverse ∧ q ∈ ed D false b.toNat
theorem sqR_nil (D : Pn) (p q : Int) : ¬ SqR D [] p q := by
  rintro (⟨k, hk, -⟩ | ⟨M, b, R, e, -⟩)
  · exact absurd hk (List.not_mem_nil)
  · simp at e
theorem sqR_snoc (D : Pn) (L : List Int) (k : Int) (p q : Int) : SqR D (L ++ [k]) p q ↔ SqR D L p q ∨ (lk D k.toNat p q ∨ (p ∈ seqE (fun k => ed D true k.toNat) (fun k => nl D k.toNat) L.reverse ∧ q ∈ ed D false k.toNat)) := by
  constructor
  · rintro (⟨j, hj, h⟩ | ⟨M, b, R, e, h1, h2⟩)
    · rcases List.mem_append.1 hj with hj | hj
      · exact .inl (.inl ⟨j, hj, h⟩)
      · simp at hj; subst hj; exact .inr (.inl h)
    · rcases List.eq_nil_or_concat R with rfl | ⟨R', z, rfl⟩
      · have := List.append_inj' e (by simp)
        obtain ⟨rfl, e2⟩ := this
        simp at e2
        subst e2
        exact .inr (.inr ⟨h1, h2⟩)
      · have e2 : L ++ [k] = (M ++ b :: R') ++ [z] := by rw [e]; simp
        have := List.append_inj' e2 (by simp)
        exact .inl (.inr ⟨M, b, R', this.1, h1, h2⟩)
  · rintro ((⟨j, hj, h⟩ | ⟨M, b, R, e, h1, h2⟩) | (h | ⟨h1, h2⟩))
    · exact .inl ⟨j, List.mem_append_left _ hj, h⟩
    · exact .inr ⟨M, b, R ++ [k], by rw [e]; simp, h1, h2⟩
    · exact .inl ⟨k, by simp, h⟩
    · exact .inr ⟨L, k, [], rfl, h1, h2⟩
/-- The sets of a row: what one kid more makes of them. -/
theorem seq_next {g h : Int → List Int} {nul : Int → Bool} {L : List Int} {k : Int} {f l fk lk9 : Nat} (hf : BitS f (seqE g nul L)) (hl : BitS l (seqE h nul L.reverse)) (hfk : BitS fk (g k)) (hlk : BitS lk9 (h k)) :
    BitS (thF (L.all nul) f fk) (seqE g nul (L ++ [k])) ∧ BitS (thL (nul k) lk9 l) (seqE h nul (L ++ [k]).reverse) := by
  constructor
  · rw [seqE_snoc]
    unfold thF
    by_cases e : L.all nul = true
    · rw [if_pos e, if_pos e]; exact bitS_app hf hfk
    · rw [if_neg e, if_neg e, List.append_nil]; exact hf
  · rw [List.reverse_append]
    show BitS _ (seqE h nul (k :: L.reverse))
    rw [seqE]
    unfold thL
    by_cases e : nul k = true
    · rw [if_pos e, if_pos e]; exact bitS_app hlk hl
    · rw [if_neg e, if_neg e, List.append_nil]; exact hlk
theorem orr_next {g h : Int → List Int} {L : List Int} {k : Int} {f l fk lk9 : Nat} (hf : BitS f (seqE g (fun _ => true) L)) (hl : BitS l (seqE h (fun _ => true) L.reverse)) (hfk : BitS fk (g k)) (hlk : BitS lk9 (h k)) :
    BitS (f ||| fk) (seqE g (fun _ => true) (L ++ [k])) ∧ BitS (l ||| lk9) (seqE h (fun _ => true) (L ++ [k]).reverse) := by
  obtain ⟨h1, h2⟩ := seq_next hf hl hfk hlk
  unfold thF at h1
  unfold thL at h2
  rw [if_pos (by simp)] at h1
  rw [if_pos rfl] at h2
  exact ⟨h1, by rw [Nat.or_comm]; exact h2⟩
/-- The answer of a node, once its kids are done. -/
theorem lk_seq {D : Pn} {i : Nat} (hl : Lo D i) (hk : D.K i = 2) (p q : Int) : lk D i p q ↔ SqR D (D.KL i) p q ∨ (2 ≤ D.OC i ∧ p ∈ ed D true i ∧ q ∈ ed D false i) := by
  rw [lk_iff hl]
  unfold OwP SqR
  rw [← ow_prog (L := D.KL i) (nul := fun k => nl D k.toNat) (g := fun k => ed D true k.toNat) (h := fun k => ed D false k.toNat) (p := p) (q := q)]
  constructor
  · rintro ((h | ⟨-, h⟩) | h)
    · exact .inr h
    · exact .inl (.inr h)
    · exact .inl (.inl h)
  · rintro ((h | h) | h)
    · exact .inr h
    · exact .inl (.inr ⟨hk, h⟩)
    · exact .inl (.inl h)
theorem lk_other {D : Pn} {i : Nat} (hl : Lo D i) (hk : D.K i ≠ 2) (p q : Int) : lk D i p q ↔ (∃ k ∈ D.KL i, lk D k.toNat p q) ∨ (2 ≤ D.OC i ∧ p ∈ ed D true i ∧ q ∈ ed D false i) := by
  rw [lk_iff hl]
  unfold OwP
  constructor
  · rintro ((h | ⟨h, -⟩) | h)
    · exact .inr h
    · exact absurd h hk
    · exact .inl h
  · rintro (h | h)
    · exact .inr h
    · exact .inl (.inl h)
theorem ed_seq {D : Pn} {i : Nat} {rev : Bool} (hl : Lo D i) (hk : D.K i = 2) : ed D rev i = seqE (fun k => ed D rev k.toNat) (fun k => nl D k.toNat) (ordL rev (D.KL i)) := by
  rw [ed_eq hl]
  unfold bdE
  rw [if_pos (.inl hk)]
  have : (fun j : Int => decide (D.K i ≠ 2) || nl D j.toNat) = fun k => nl D k.toNat := by
    funext j
    rw [decide_eq_false (by simp [hk])]
    rfl
  exact congrArg (fun z => seqE (fun k => ed D rev k.toNat) z (ordL rev (D.KL i))) this
theorem ed_or {D : Pn} {i : Nat} {rev : Bool} (hl : Lo D i) (hk : D.K i = 3) : ed D rev i = seqE (fun k => ed D rev k.toNat) (fun _ => true) (ordL rev (D.KL i)) := by
  rw [ed_eq hl]
  unfold bdE
  rw [if_pos (.inr hk)]
  have : (fun j : Int => decide (D.K i ≠ 2) || nl D j.toNat) = fun _ => true := by
    funext j
    rw [decide_eq_true (by rw [hk]; decide)]
    rfl
  exact congrArg (fun z => seqE (fun k => ed D rev k.toNat) z (ordL rev (D.KL i))) this
theorem ed_leaf {D : Pn} {i : Nat} {rev : Bool} (hl : Lo D i) (hk : D.K i = 1 ∨ D.K i = 4) : ed D rev i = [(i : Int)] := by
  rw [ed_eq hl]
  unfold bdE
  rw [if_neg (by omega)]
end Go.Proofs.YtfohfljdgmlibaaDoor
