/-
  Plain facts on the rows that a model takes, of no program's run: by its nodes, and by its positions.
-/
import Derived.Test.YtfohfljdgmlibaaDoorS12
import Derived.Test.YtfohfljdgmlibaaDoorS15
namespace Go.Proofs.YtfohfljdgmlibaaDoor
set_option linter.unusedVariables false
set_option linter.unusedSimpArgs false
/-- As often as one likes. -/
inductive St (R : Nat → Nat → Prop) : Nat → Nat → Prop
  | refl (a : Nat) : St R a a
  | step {a b c : Nat} : R a b → St R b c → St R a c
theorem St.trans {R : Nat → Nat → Prop} {a b c : Nat} (h : St R a b) (k : St R b c) : St R a c := by
  induction h with
  | refl => exact k
  | step h1 _ ih => exact .step h1 (ih k)
theorem St.mono {R R' : Nat → Nat → Prop} (hR : ∀ a b, R a b → R' a b) {a b : Nat} (h : St R a b) : St R' a b := by
  induction h with
  | refl => exact .refl _
  | step h1 _ ih => exact .step (hR _ _ h1) ih
/-- One behind the other. -/
def chn (R : Int → Nat → Nat → Prop) : List Int → Nat → Nat → Prop
  | [], a, b => a = b
  | k :: ks, a, b => ∃ c, R k a c ∧ chn R ks c b
theorem chn_congr {R R' : Int → Nat → Nat → Prop} : ∀ {L : List Int}, (∀ k ∈ L, ∀ a b, R k a b ↔ R' k a b) → ∀ a b, chn R L a b ↔ chn R' L a b
  | [], _, a, b => Iff.rfl
  | k :: ks, h, a, b => by
    rw [chn, chn]
    constructor
    · rintro ⟨c, h1, h2⟩
      exact ⟨c, (h k (List.mem_cons_self ..) a c).1 h1, (chn_congr (fun j hj => h j (List.mem_cons_of_mem _ hj)) c b).1 h2⟩
    · rintro ⟨c, h1, h2⟩
      exact ⟨c, (h k (List.mem_cons_self ..) a c).2 h1, (chn_congr (fun j hj => h j (List.mem_cons_of_mem _ hj)) c b).2 h2⟩
theorem chn_snoc {R : Int → Nat → Nat → Prop} {k : Int} : ∀ {L : List Int} {a b : Nat}, chn R (L ++ [k]) a b ↔ ∃ c, chn R L a c ∧ R k c b
  | [], a, b => by simp [chn]
  | j :: L, a, b => by
    rw [List.cons_append, chn]
    constructor
    · rintro ⟨c, h1, h2⟩
      obtain ⟨d, h3, h4⟩ := chn_snoc.1 h2
      exact ⟨d, ⟨c, h1, h3⟩, h4⟩
    · rintro ⟨d, ⟨c, h1, h3⟩, h4⟩
      exact ⟨c, h1, chn_snoc.2 ⟨d, h3, h4⟩⟩
/-- A name stands there that leads to the position. -/
def mtN (D : Pn) (W : List ByteArray) (q a : Nat) : Prop := a < W.length ∧ mtP D (W[a]?.getD ⟨#[]⟩) q = true
def onc (D : Pn) (W : List ByteArray) (g : Nat → Nat → Nat → Prop) (i a b : Nat) : Prop :=
  (D.K i = 2 ∧ chn (fun k => g k.toNat) (D.KL i) a b) ∨ (D.K i = 3 ∧ ∃ k ∈ D.KL i, g k.toNat a b) ∨ ((D.K i = 1 ∨ D.K i = 4) ∧ b = a + 1 ∧ mtN D W i a)
def rep (oc : Int) (R : Nat → Nat → Prop) (a b : Nat) : Prop := (oc = 0 ∧ R a b) ∨ (oc = 1 ∧ (a = b ∨ R a b)) ∨ (oc = 2 ∧ St R a b) ∨ (oc = 3 ∧ ∃ c, R a c ∧ St R c b)
theorem rep_mono {oc : Int} {R R' : Nat → Nat → Prop} (hR : ∀ a b, R a b → R' a b) {a b : Nat} (h : rep oc R a b) : rep oc R' a b := by
  rcases h with ⟨h0, h⟩ | ⟨h0, h | h⟩ | ⟨h0, h⟩ | ⟨h0, c, h1, h2⟩
  · exact .inl ⟨h0, hR _ _ h⟩
  · exact .inr (.inl ⟨h0, .inl h⟩)
  · exact .inr (.inl ⟨h0, .inr (hR _ _ h)⟩)
  · exact .inr (.inr (.inl ⟨h0, h.mono hR⟩))
  · exact .inr (.inr (.inr ⟨h0, c, hR _ _ h1, h2.mono hR⟩))
theorem onc_congr {D : Pn} {W : List ByteArray} {g g' : Nat → Nat → Nat → Prop} {i : Nat} (h : ∀ k ∈ D.KL i, ∀ a b, g k.toNat a b ↔ g' k.toNat a b) (a b : Nat) : onc D W g i a b ↔ onc D W g' i a b := by
  unfold onc
  rw [chn_congr (R := fun k => g k.toNat) (R' := fun k => g' k.toNat) h a b]
  refine or_congr Iff.rfl (or_congr (and_congr_right fun _ => ?_) Iff.rfl)
  constructor
  · rintro ⟨k, hk, h1⟩; exact ⟨k, hk, (h k hk a b).1 h1⟩
  · rintro ⟨k, hk, h1⟩; exact ⟨k, hk, (h k hk a b).2 h1⟩
def enF (D : Pn) (W : List ByteArray) : Nat → Nat → Nat → Nat → Prop
  | 0, _ => fun _ _ => False
  | f + 1, i => rep (D.OC i) (onc D W (enF D W f) i)
theorem enF_more {D : Pn} {W : List ByteArray} : ∀ (f g i : Nat), Lo D i → i < f → i < g → ∀ a b, enF D W f i a b ↔ enF D W g i a b
  | 0, g, i, hl, hf, hg => by omega
  | f + 1, 0, i, hl, hf, hg => by omega
  | f + 1, g + 1, i, hl, hf, hg => fun a b => by
    have key : ∀ a b, onc D W (enF D W f) i a b ↔ onc D W (enF D W g) i a b := onc_congr (fun k hk => by
      have := hl i (Nat.le_refl _) k hk
      exact enF_more f g k.toNat (lo_less hl (by omega)) (by omega) (by omega))
    exact ⟨rep_mono fun a b => (key a b).1, rep_mono fun a b => (key a b).2⟩
/-- A node takes the names from one place to another. -/
def en (D : Pn) (W : List ByteArray) (i a b : Nat) : Prop := enF D W (i + 1) i a b
theorem en_iff {D : Pn} {W : List ByteArray} {i : Nat} (hl : Lo D i) (a b : Nat) : en D W i a b ↔ rep (D.OC i) (onc D W (en D W) i) a b := by
  have key : ∀ a b, onc D W (enF D W i) i a b ↔ onc D W (en D W) i a b := onc_congr (fun k hk => by
    have := hl i (Nat.le_refl _) k hk
    exact enF_more i (k.toNat + 1) k.toNat (lo_less hl (by omega)) (by omega) (by omega))
  exact ⟨rep_mono fun a b => (key a b).1, rep_mono fun a b => (key a b).2⟩
/-- Where the kids of a node lie: one behind the other. -/
def Inc (D : Pn) : List Int → Prop
  | [] => True
  | k :: R => 0 ≤ k ∧ (∃ c, tr D k.toNat = some c) ∧ (∀ j ∈ R, ∃ c : Nat, tr D j.toNat = some c ∧ k < (c : Int)) ∧ Inc D R
theorem inc_snoc {D : Pn} {k : Int} {c : Nat} (hk : 0 ≤ k) (hc : tr D k.toNat = some c) : ∀ {R : List Int}, Inc D R → (∀ j ∈ R, j < (c : Int)) → Inc D (R ++ [k])
  | [], _, _ => ⟨hk, ⟨c, hc⟩, fun j hj => absurd hj (List.not_mem_nil), trivial⟩
  | j :: R, h, hlt => by
    obtain ⟨h1, h2, h3, h4⟩ := h
    refine ⟨h1, h2, fun z hz => ?_, inc_snoc hk hc h4 (fun z hz => hlt z (List.mem_cons_of_mem _ hz))⟩
    rcases List.mem_append.1 hz with hz | hz
    · exact h3 z hz
    · simp at hz
      subst hz
      exact ⟨c, hc, hlt j (List.mem_cons_self ..)⟩
theorem fd_inc {D : Pn} : ∀ (ks : List Int) (a f : Nat), fd (tr D) ks a = some f → Inc D ks.reverse ∧ (∀ k ∈ ks, (f : Int) ≤ k ∧ k < (a : Int)) ∧ f ≤ a ∧ ∀ k ∈ ks, ∃ c, tr D k.toNat = some c ∧ f ≤ c
  | [], a, f, h => by
    simp [fd] at h
    subst h
    exact ⟨trivial, fun k hk => absurd hk (List.not_mem_nil), Nat.le_refl _, fun k hk => absurd hk (List.not_mem_nil)⟩
  | k :: ks, a, f, h => by
    by_cases hc : 0 < a ∧ k = (a : Int) - 1
    · cases hg : tr D (a - 1) with
      | none => rw [fd_none hc hg] at h; cases h
      | some c =>
        have hca := tr_le hg
        rw [fd_yes hc hg] at h
        obtain ⟨h1, h2, h3, h4⟩ := fd_inc ks c f h
        have hkk : k.toNat = a - 1 := by omega
        refine ⟨?_, ?_, by omega, ?_⟩
        · rw [List.reverse_cons]
          exact inc_snoc (by omega) (by rw [hkk]; exact hg) h1 (fun j hj => (h2 j (List.mem_reverse.1 hj)).2)
        · intro j hj
          rcases List.mem_cons.1 hj with rfl | hj
          · omega
          · have := h2 j hj; omega
        · intro j hj
          rcases List.mem_cons.1 hj with rfl | hj
          · exact ⟨c, by rw [hkk]; exact hg, h3⟩
          · exact h4 j hj
    · rw [fd_no hc] at h; cases h
theorem tr_inc {D : Pn} {i f : Nat} (h : tr D i = some f) : Inc D (D.KL i) ∧ (∀ k ∈ D.KL i, (f : Int) ≤ k ∧ k < (i : Int)) ∧ ∀ k ∈ D.KL i, ∃ c, tr D k.toNat = some c ∧ f ≤ c := by
  rw [tr_eq] at h
  obtain ⟨h1, h2, -, h4⟩ := fd_inc _ _ _ h
  rw [List.reverse_reverse] at h1
  exact ⟨h1, fun k hk => h2 k (List.mem_reverse.2 hk), fun k hk => h4 k (List.mem_reverse.2 hk)⟩
/-- Positions of a node lie within it. -/
theorem ed_in {D : Pn} {rev : Bool} : ∀ (m i c : Nat), i < m → Lo D i → tr D i = some c → ∀ x ∈ ed D rev i, (c : Int) ≤ x ∧ x ≤ (i : Int)
  | 0, i, c, hm, _, _ => by omega
  | m + 1, i, c, hm, hl, ht => by
    intro x hx
    have hci := tr_le ht
    rw [ed_eq hl] at hx
    unfold bdE at hx
    split at hx
    · obtain ⟨L1, k, L2, e, -, hx⟩ := mem_seqE.1 hx
      have hk0 : k ∈ D.KL i := mem_ordL.1 (by rw [e]; simp)
      have hk := hl i (Nat.le_refl _) k hk0
      obtain ⟨ck, hck, hle⟩ := (tr_inc ht).2.2 k hk0
      have := ed_in m k.toNat ck (by omega) (lo_less hl (by omega)) hck x hx
      omega
    · simp at hx; omega
theorem ow_in {D : Pn} {i c : Nat} (hl : Lo D i) (ht : tr D i = some c) {p q : Int} (h : OwP D i p q) : ((c : Int) ≤ p ∧ p ≤ (i : Int)) ∧ (c : Int) ≤ q ∧ q ≤ (i : Int) := by
  rcases h with ⟨-, h1, h2⟩ | ⟨-, L1, a, L2, b, L3, e, -, h1, h2⟩
  · exact ⟨ed_in (i + 1) i c (by omega) hl ht p h1, ed_in (i + 1) i c (by omega) hl ht q h2⟩
  · have ha : a ∈ D.KL i := by rw [e]; simp
    have hb : b ∈ D.KL i := by rw [e]; simp
    have ka := hl i (Nat.le_refl _) a ha
    have kb := hl i (Nat.le_refl _) b hb
    obtain ⟨ca, hca, la⟩ := (tr_inc ht).2.2 a ha
    obtain ⟨cb, hcb, lb⟩ := (tr_inc ht).2.2 b hb
    have h3 := ed_in (a.toNat + 1) a.toNat ca (by omega) (lo_less hl (by omega)) hca p h1
    have h4 := ed_in (b.toNat + 1) b.toNat cb (by omega) (lo_less hl (by omega)) hcb q h2
    omega
theorem lk_in {D : Pn} {p q : Int} : ∀ (m i c : Nat), i < m → Lo D i → tr D i = some c → lk D i p q → ((c : Int) ≤ p ∧ p ≤ (i : Int)) ∧ (c : Int) ≤ q ∧ q ≤ (i : Int)
  | 0, i, c, hm, _, _, _ => by omega
  | m + 1, i, c, hm, hl, ht, h => by
    rcases (lk_iff hl).1 h with h | ⟨k, hk, h⟩
    · exact ow_in hl ht h
    · have hk2 := hl i (Nat.le_refl _) k hk
      obtain ⟨ck, hck, hle⟩ := (tr_inc ht).2.2 k hk
      have := lk_in m k.toNat ck (by omega) (lo_less hl (by omega)) hck h
      omega
/-- A way from position to position, a name for each. -/
inductive Pa (Lk : Int → Int → Prop) (mt : Int → Nat → Prop) : Nat → Int → Nat → Int → Prop
  | one {a : Nat} {p : Int} : mt p a → Pa Lk mt a p (a + 1) p
  | more {a : Nat} {p r : Int} {b : Nat} {q : Int} : mt p a → Lk p r → Pa Lk mt (a + 1) r b q → Pa Lk mt a p b q
section
variable {Lk Lk' : Int → Int → Prop} {mt : Int → Nat → Prop}
theorem Pa.mono (hL : ∀ p q, Lk p q → Lk' p q) {a b : Nat} {p q : Int} (h : Pa Lk mt a p b q) : Pa Lk' mt a p b q := by
  induction h with
  | one h1 => exact .one h1
  | more h1 h2 _ ih => exact .more h1 (hL _ _ h2) ih
theorem Pa.join {a b c : Nat} {p q r s : Int} (h : Pa Lk mt a p b q) (hl : Lk q r) (k : Pa Lk mt b r c s) : Pa Lk mt a p c s := by
  induction h with
  | one h1 => exact .more h1 hl k
  | more h1 h2 _ ih => exact .more h1 h2 (ih hl k)
theorem Pa.last {a b : Nat} {p q : Int} (h : Pa Lk mt a p b q) : ∃ c, b = c + 1 ∧ a ≤ c ∧ mt q c ∧ ((a = c ∧ p = q) ∨ ∃ r, Pa Lk mt a p c r ∧ Lk r q) := by
  induction h with
  | @one a p h1 => exact ⟨a, rfl, Nat.le_refl _, h1, .inl ⟨rfl, rfl⟩⟩
  | @more a p r b q h1 h2 h3 ih =>
    obtain ⟨c, rfl, hac, h4, h5⟩ := ih
    refine ⟨c, rfl, by omega, h4, .inr ?_⟩
    rcases h5 with ⟨rfl, rfl⟩ | ⟨s, h6, h7⟩
    · exact ⟨p, .one h1, h2⟩
    · exact ⟨s, .more h1 h2 h6, h7⟩
theorem Pa.snoc {a b : Nat} {p q r : Int} (h : Pa Lk mt a p b q) (hl : Lk q r) (hm : mt r b) : Pa Lk mt a p (b + 1) r := h.join hl (.one hm)
end
def mtI (D : Pn) (W : List ByteArray) (p : Int) (a : Nat) : Prop := mtN D W p.toNat a
def Gl (D : Pn) (W : List ByteArray) (i a b : Nat) : Prop := (nl D i = true ∧ a = b) ∨ ∃ p q, p ∈ ed D false i ∧ q ∈ ed D true i ∧ Pa (lk D i) (mtI D W) a p b q
def fsR (D : Pn) (R : List Int) : List Int := seqE (fun k => ed D false k.toNat) (fun k => nl D k.toNat) R
def lsR (D : Pn) (R : List Int) : List Int := seqE (fun k => ed D true k.toNat) (fun k => nl D k.toNat) R.reverse
theorem sqR_cons {D : Pn} {k : Int} {R : List Int} {p q : Int} : SqR D (k :: R) p q ↔ lk D k.toNat p q ∨ (p ∈ ed D true k.toNat ∧ q ∈ fsR D R) ∨ SqR D R p q := by
  constructor
  · rintro (⟨j, hj, h⟩ | ⟨M, b, R', e, h1, h2⟩)
    · rcases List.mem_cons.1 hj with rfl | hj
      · exact .inl h
      · exact .inr (.inr (.inl ⟨j, hj, h⟩))
    · match M, e, h1 with
      | [], e, h1 => exact absurd h1 (List.not_mem_nil)
      | j :: M, e, h1 =>
        simp only [List.cons_append, List.cons.injEq] at e
        obtain ⟨rfl, rfl⟩ := e
        rw [List.reverse_cons, seqE_snoc, List.mem_append] at h1
        rcases h1 with h1 | h1
        · exact .inr (.inr (.inr ⟨M, b, R', rfl, h1, h2⟩))
        · split at h1
          · rename_i hall
            rw [List.all_reverse, List.all_eq_true] at hall
            exact .inr (.inl ⟨h1, mem_seqE.2 ⟨M, b, R', rfl, hall, h2⟩⟩)
          · exact absurd h1 (List.not_mem_nil)
  · rintro (h | ⟨h1, h2⟩ | (⟨j, hj, h⟩ | ⟨M, b, R', e, h1, h2⟩))
    · exact .inl ⟨k, List.mem_cons_self .., h⟩
    · obtain ⟨M, b, R', e, h3, h4⟩ := mem_seqE.1 h2
      refine .inr ⟨k :: M, b, R', by rw [e]; rfl, ?_, h4⟩
      rw [List.reverse_cons, seqE_snoc, if_pos (by rw [List.all_reverse]; exact List.all_eq_true.2 h3)]
      exact List.mem_append_right _ h1
    · exact .inl ⟨j, List.mem_cons_of_mem _ hj, h⟩
    · refine .inr ⟨k :: M, b, R', by rw [e]; rfl, ?_, h2⟩
      rw [List.reverse_cons, seqE_snoc]
      exact List.mem_append_left _ h1
/-- The kids in a row, and what their rows come to. -/
theorem gl_seq {D : Pn} {W : List ByteArray} : ∀ {R : List Int}, Inc D R → (∀ k ∈ R, Lo D k.toNat) → (∀ k ∈ R, ∀ a b, en D W k.toNat a b ↔ Gl D W k.toNat a b) → ∀ a b, chn (fun k => en D W k.toNat) R a b ↔ ((R.all (fun k => nl D k.toNat) = true ∧ a = b) ∨ ∃ p q, p ∈ fsR D R ∧ q ∈ lsR D R ∧ Pa (SqR D R) (mtI D W) a p b q)
  | [], _, _, _, a, b => by
    constructor
    · intro h; exact .inl ⟨rfl, h⟩
    · rintro (⟨-, h⟩ | ⟨p, q, hp, -⟩)
      · exact h
      · exact absurd hp (List.not_mem_nil)
  | k :: R, hI, hlo, hen, a, b => by
    obtain ⟨hk0, ⟨ck, hck⟩, hgt, hI2⟩ := hI
    have IH := gl_seq hI2 (fun j hj => hlo j (List.mem_cons_of_mem _ hj)) (fun j hj => hen j (List.mem_cons_of_mem _ hj))
    have hlk := hlo k (List.mem_cons_self ..)
    have ek : ∀ rev, ∀ x ∈ ed D rev k.toNat, x ≤ k := fun rev x hx => by
      have := ed_in (k.toNat + 1) k.toNat ck (by omega) hlk hck x hx
      omega
    have lkk : ∀ p q, lk D k.toNat p q → p ≤ k ∧ q ≤ k := fun p q h => by
      have := lk_in (k.toNat + 1) k.toNat ck (by omega) hlk hck h
      omega
    have ej : ∀ rev, ∀ j ∈ R, ∀ x ∈ ed D rev j.toNat, k < x := fun rev j hj x hx => by
      obtain ⟨c, hc, hlt⟩ := hgt j hj
      have := ed_in (j.toNat + 1) j.toNat c (by omega) (hlo j (List.mem_cons_of_mem _ hj)) hc x hx
      omega
    have fR : ∀ x ∈ fsR D R, k < x := fun x hx => by
      obtain ⟨L1, j, L2, e, -, hx⟩ := mem_seqE.1 hx
      exact ej false j (by rw [e]; simp) x hx
    have lR : ∀ x ∈ lsR D R, k < x := fun x hx => by
      obtain ⟨L1, j, L2, e, -, hx⟩ := mem_seqE.1 hx
      exact ej true j (by rw [← List.mem_reverse, e]; simp) x hx
    have sR : ∀ p q, SqR D R p q → k < p ∧ k < q := by
      rintro p q (⟨j, hj, h⟩ | ⟨M, b, R', e, h1, h2⟩)
      · obtain ⟨c, hc, hlt⟩ := hgt j hj
        have := lk_in (j.toNat + 1) j.toNat c (by omega) (hlo j (List.mem_cons_of_mem _ hj)) hc h
        omega
      · obtain ⟨L1, j, L2, e2, -, h1⟩ := mem_seqE.1 h1
        exact ⟨ej true j (by rw [e]; exact List.mem_append_left _ (by rw [← List.mem_reverse, e2]; simp)) p h1, ej false b (by rw [e]; simp) q h2⟩
    have stay : ∀ {a p b q}, Pa (SqR D (k :: R)) (mtI D W) a p b q → k < p → Pa (SqR D R) (mtI D W) a p b q ∧ k < q := by
      intro a p b q h
      induction h with
      | one h1 => intro hp; exact ⟨.one h1, hp⟩
      | more h1 h2 _ ih =>
        intro hp
        rcases sqR_cons.1 h2 with h3 | ⟨h3, -⟩ | h3
        · have := (lkk _ _ h3).1; omega
        · have := ek true _ h3; omega
        · obtain ⟨h4, h5⟩ := ih (sR _ _ h3).2
          exact ⟨.more h1 h3 h4, h5⟩
    have split : ∀ {a p b q}, Pa (SqR D (k :: R)) (mtI D W) a p b q → p ≤ k → (q ≤ k ∧ Pa (lk D k.toNat) (mtI D W) a p b q) ∨ (k < q ∧ ∃ c r p', Pa (lk D k.toNat) (mtI D W) a p c r ∧ r ∈ ed D true k.toNat ∧ p' ∈ fsR D R ∧ Pa (SqR D R) (mtI D W) c p' b q) := by
      intro a p b q h
      induction h with
      | one h1 => intro hp; exact .inl ⟨hp, .one h1⟩
      | @more a p r b q h1 h2 h9 ih =>
        intro hp
        rcases sqR_cons.1 h2 with h3 | ⟨h3, h4⟩ | h3
        · rcases ih (lkk _ _ h3).2 with ⟨h5, h6⟩ | ⟨h5, c, s, p', h6, h7, h8⟩
          · exact .inl ⟨h5, .more h1 h3 h6⟩
          · exact .inr ⟨h5, c, s, p', .more h1 h3 h6, h7, h8⟩
        · obtain ⟨h5, h6⟩ := stay h9 (fR _ h4)
          exact .inr ⟨h6, a + 1, p, r, .one h1, h3, h4, h5⟩
        · have := (sR _ _ h3).1; omega
    have hfs : fsR D (k :: R) = ed D false k.toNat ++ (if nl D k.toNat = true then fsR D R else []) := rfl
    have hls : lsR D (k :: R) = lsR D R ++ (if R.all (fun k => nl D k.toNat) = true then ed D true k.toNat else []) := by
      unfold lsR
      rw [List.reverse_cons, seqE_snoc, List.all_reverse]
    have hcons : ∀ {a p b q}, Pa (SqR D R) (mtI D W) a p b q → Pa (SqR D (k :: R)) (mtI D W) a p b q := fun h => h.mono (fun p q h => sqR_cons.2 (.inr (.inr h)))
    have hkons : ∀ {a p b q}, Pa (lk D k.toNat) (mtI D W) a p b q → Pa (SqR D (k :: R)) (mtI D W) a p b q := fun h => h.mono (fun p q h => sqR_cons.2 (.inl h))
    rw [chn, hfs, hls, List.all_cons]
    constructor
    · rintro ⟨c, h1, h2⟩
      rw [hen k (List.mem_cons_self ..)] at h1
      rw [IH] at h2
      rcases h1 with ⟨n1, rfl⟩ | ⟨p1, q1, hp1, hq1, P1⟩
      · rcases h2 with ⟨n2, rfl⟩ | ⟨p2, q2, hp2, hq2, P2⟩
        · exact .inl ⟨by rw [n1, n2]; rfl, rfl⟩
        · exact .inr ⟨p2, q2, List.mem_append_right _ (by rw [if_pos n1]; exact hp2), List.mem_append_left _ hq2, hcons P2⟩
      · rcases h2 with ⟨n2, rfl⟩ | ⟨p2, q2, hp2, hq2, P2⟩
        · exact .inr ⟨p1, q1, List.mem_append_left _ hp1, List.mem_append_right _ (by rw [if_pos n2]; exact hq1), hkons P1⟩
        · exact .inr ⟨p1, q2, List.mem_append_left _ hp1, List.mem_append_left _ hq2, (hkons P1).join (sqR_cons.2 (.inr (.inl ⟨hq1, hp2⟩))) (hcons P2)⟩
    · rintro (⟨h1, rfl⟩ | ⟨p, q, hp, hq, P⟩)
      · rw [Bool.and_eq_true] at h1
        exact ⟨a, (hen k (List.mem_cons_self ..) a a).2 (.inl ⟨h1.1, rfl⟩), (IH a a).2 (.inl ⟨h1.2, rfl⟩)⟩
      · rcases List.mem_append.1 hp with hp | hp
        · rcases split P (ek false p hp) with ⟨h5, h6⟩ | ⟨h5, c, r, p', h6, h7, h8, h9⟩
          · rcases List.mem_append.1 hq with hq | hq
            · have := lR q hq; omega
            · split at hq
              · rename_i hall
                exact ⟨b, (hen k (List.mem_cons_self ..) a b).2 (.inr ⟨p, q, hp, hq, h6⟩), (IH b b).2 (.inl ⟨hall, rfl⟩)⟩
              · exact absurd hq (List.not_mem_nil)
          · rcases List.mem_append.1 hq with hq | hq
            · exact ⟨c, (hen k (List.mem_cons_self ..) a c).2 (.inr ⟨p, r, hp, h7, h6⟩), (IH c b).2 (.inr ⟨p', q, h8, hq, h9⟩)⟩
            · split at hq
              · have := ek true q hq; omega
              · exact absurd hq (List.not_mem_nil)
        · split at hp
          · rename_i n1
            obtain ⟨h5, h6⟩ := stay P (fR p hp)
            rcases List.mem_append.1 hq with hq | hq
            · exact ⟨a, (hen k (List.mem_cons_self ..) a a).2 (.inl ⟨n1, rfl⟩), (IH a b).2 (.inr ⟨p, q, hp, hq, h5⟩)⟩
            · split at hq
              · have := ek true q hq; omega
              · exact absurd hq (List.not_mem_nil)
          · exact absurd hp (List.not_mem_nil)
end Go.Proofs.YtfohfljdgmlibaaDoor
