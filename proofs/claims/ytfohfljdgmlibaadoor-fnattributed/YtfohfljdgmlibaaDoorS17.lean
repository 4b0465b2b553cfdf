/-
  Texts put together: AcN, TxRow.
-/
import Derived.Test.YtfohfljdgmlibaaDoorS16
import Derived.Test.YtfohfljdgmlibaaDoorS2
/-
  Plain facts: a node takes just the rows that positions lead through, of no program's run.
-/
namespace Go.Proofs.YtfohfljdgmlibaaDoor
set_option linter.unusedVariables false
set_option linter.unusedSimpArgs false
theorem mem_seqT {g : Int → List Int} {x : Int} {L : List Int} : x ∈ seqE g (fun _ => true) L ↔ ∃ k ∈ L, x ∈ g k := by
  rw [mem_seqE]
  constructor
  · rintro ⟨L1, k, L2, e, -, h⟩; exact ⟨k, by rw [e]; simp, h⟩
  · rintro ⟨k, hk, h⟩
    obtain ⟨L1, L2, e⟩ := List.append_of_mem hk
    exact ⟨L1, k, L2, e, fun _ _ => rfl, h⟩
theorem inc_disj {D : Pn} : ∀ {R : List Int}, Inc D R → ∀ {j k : Int}, j ∈ R → k ∈ R → ∀ {cj ck : Nat}, tr D j.toNat = some cj → tr D k.toNat = some ck → ∀ {x : Int}, (cj : Int) ≤ x → x ≤ j → (ck : Int) ≤ x → x ≤ k → j = k
  | [], _, j, k, hj, _, _, _, _, _, _, _, _, _, _ => absurd hj (List.not_mem_nil)
  | z :: R, h, j, k, hj, hk, cj, ck, tj, tk, x, h1, h2, h3, h4 => by
    obtain ⟨-, -, hgt, hI⟩ := h
    rcases List.mem_cons.1 hj with e1 | hj
    · rcases List.mem_cons.1 hk with e2 | hk
      · rw [e1, e2]
      · obtain ⟨c, hc, hlt⟩ := hgt k hk
        rw [tk] at hc
        cases hc
        omega
    · rcases List.mem_cons.1 hk with e2 | hk
      · obtain ⟨c, hc, hlt⟩ := hgt j hj
        rw [tj] at hc
        cases hc
        omega
      · exact inc_disj hI hj hk tj tk h1 h2 h3 h4
theorem gl_or {D : Pn} {W : List ByteArray} {L : List Int} (hI : Inc D L) (hlo : ∀ k ∈ L, Lo D k.toNat) (htr : ∀ k ∈ L, 0 ≤ k ∧ ∃ c, tr D k.toNat = some c) (hen : ∀ k ∈ L, ∀ a b, en D W k.toNat a b ↔ Gl D W k.toNat a b) (a b : Nat) :
    (∃ k ∈ L, en D W k.toNat a b) ↔ ((L.any (fun k => nl D k.toNat) = true ∧ a = b) ∨ ∃ p q, p ∈ seqE (fun k => ed D false k.toNat) (fun _ => true) L ∧ q ∈ seqE (fun k => ed D true k.toNat) (fun _ => true) L.reverse ∧ Pa (fun p q => ∃ k ∈ L, lk D k.toNat p q) (mtI D W) a p b q) := by
  constructor
  · rintro ⟨k, hk, h⟩
    rw [hen k hk] at h
    rcases h with ⟨h1, rfl⟩ | ⟨p, q, hp, hq, P⟩
    · exact .inl ⟨List.any_eq_true.2 ⟨k, hk, h1⟩, rfl⟩
    · exact .inr ⟨p, q, mem_seqT.2 ⟨k, hk, hp⟩, mem_seqT.2 ⟨k, List.mem_reverse.2 hk, hq⟩, P.mono (fun p q h => ⟨k, hk, h⟩)⟩
  · rintro (⟨h, rfl⟩ | ⟨p, q, hp, hq, P⟩)
    · obtain ⟨k, hk, h1⟩ := List.any_eq_true.1 h
      exact ⟨k, hk, (hen k hk a a).2 (.inl ⟨h1, rfl⟩)⟩
    · obtain ⟨k, hk, hp⟩ := mem_seqT.1 hp
      obtain ⟨hk0, ck, tk⟩ := htr k hk
      have key : ∀ {a p b q}, Pa (fun p q => ∃ k ∈ L, lk D k.toNat p q) (mtI D W) a p b q → ((ck : Int) ≤ p ∧ p ≤ k) → Pa (lk D k.toNat) (mtI D W) a p b q ∧ (ck : Int) ≤ q ∧ q ≤ k := by
        intro a p b q h
        induction h with
        | one h1 => intro hp; exact ⟨.one h1, hp⟩
        | more h1 h2 _ ih =>
          intro hp
          obtain ⟨j, hj, h3⟩ := h2
          obtain ⟨hj0, cj, tj⟩ := htr j hj
          have h4 := lk_in (j.toNat + 1) j.toNat cj (by omega) (hlo j hj) tj h3
          have : j = k := inc_disj hI hj hk tj tk h4.1.1 (by omega) hp.1 hp.2
          subst this
          rw [tj] at tk
          cases tk
          obtain ⟨h5, h6⟩ := ih ⟨h4.2.1, by omega⟩
          exact ⟨.more h1 h3 h5, h6⟩
      have hpr := ed_in (k.toNat + 1) k.toNat ck (by omega) (hlo k hk) tk p hp
      obtain ⟨P2, hq1, hq2⟩ := key P ⟨hpr.1, by omega⟩
      obtain ⟨j, hj, hqj⟩ := mem_seqT.1 hq
      have hj := List.mem_reverse.1 hj
      obtain ⟨hj0, cj, tj⟩ := htr j hj
      have hqr := ed_in (j.toNat + 1) j.toNat cj (by omega) (hlo j hj) tj q hqj
      have : j = k := inc_disj hI hj hk tj tk hqr.1 (by omega) hq1 hq2
      subst this
      exact ⟨j, hj, (hen j hj a b).2 (.inr ⟨p, q, hp, hqj, P2⟩)⟩
/-- What follows within a node that stands once. -/
def lk1 (D : Pn) (i : Nat) (p q : Int) : Prop := (D.K i = 2 ∧ SqR D (D.KL i) p q) ∨ (D.K i ≠ 2 ∧ ∃ k ∈ D.KL i, lk D k.toNat p q)
def nl1 (D : Pn) (i : Nat) : Bool := if D.K i = 2 then (D.KL i).all (fun k => nl D k.toNat) else if D.K i = 3 then (D.KL i).any (fun k => nl D k.toNat) else false
theorem lk_lk1 {D : Pn} {i : Nat} (hl : Lo D i) (p q : Int) : lk D i p q ↔ lk1 D i p q ∨ (2 ≤ D.OC i ∧ p ∈ ed D true i ∧ q ∈ ed D false i) := by
  unfold lk1
  by_cases hk : D.K i = 2
  · rw [lk_seq hl hk]
    exact or_congr_left ⟨fun h => .inl ⟨hk, h⟩, fun h => h.elim (fun h => h.2) (fun h => absurd hk h.1)⟩
  · rw [lk_other hl hk]
    exact or_congr_left ⟨fun h => .inr ⟨hk, h⟩, fun h => h.elim (fun h => absurd h.1 hk) (fun h => h.2)⟩
theorem nl_nl1 {D : Pn} {i : Nat} (hl : Lo D i) : nl D i = (decide (D.OC i = 1 ∨ D.OC i = 2) || nl1 D i) := by
  rw [nl_eq hl]
  unfold bdN nl1
  rw [List.all_map, List.any_map]
  rfl
theorem gl_once {D : Pn} {W : List ByteArray} {i c : Nat} (hl : Lo D i) (hk : D.K i = 1 ∨ D.K i = 2 ∨ D.K i = 3 ∨ D.K i = 4) (hlf : D.K i = 1 ∨ D.K i = 4 → D.KL i = []) (ht : tr D i = some c) (hen : ∀ k ∈ D.KL i, ∀ a b, en D W k.toNat a b ↔ Gl D W k.toNat a b) (a b : Nat) :
    onc D W (en D W) i a b ↔ ((nl1 D i = true ∧ a = b) ∨ ∃ p q, p ∈ ed D false i ∧ q ∈ ed D true i ∧ Pa (lk1 D i) (mtI D W) a p b q) := by
  obtain ⟨hI, hr, htr⟩ := tr_inc ht
  have hlo : ∀ k ∈ D.KL i, Lo D k.toNat := fun k hk => lo_less hl (by have := hr k hk; omega)
  unfold onc nl1
  by_cases h2 : D.K i = 2
  · rw [if_pos h2, ed_seq hl h2, ed_seq hl h2]
    have e1 : ∀ p q, lk1 D i p q ↔ SqR D (D.KL i) p q := fun p q => by
      unfold lk1
      exact ⟨fun h => h.elim (fun h => h.2) (fun h => absurd h2 h.1), fun h => .inl ⟨h2, h⟩⟩
    have g := gl_seq (W := W) hI hlo hen a b
    constructor
    · rintro (⟨-, h⟩ | ⟨h, -⟩ | ⟨h, -⟩)
      · rcases g.1 h with h | ⟨p, q, h3, h4, h5⟩
        · exact .inl h
        · exact .inr ⟨p, q, h3, h4, h5.mono (fun p q => (e1 p q).2)⟩
      · omega
      · omega
    · rintro (h | ⟨p, q, h3, h4, h5⟩)
      · exact .inl ⟨h2, g.2 (.inl h)⟩
      · exact .inl ⟨h2, g.2 (.inr ⟨p, q, h3, h4, h5.mono (fun p q => (e1 p q).1)⟩)⟩
  · rw [if_neg h2]
    by_cases h3 : D.K i = 3
    · rw [if_pos h3, ed_or hl h3, ed_or hl h3]
      have e1 : ∀ p q, lk1 D i p q ↔ ∃ k ∈ D.KL i, lk D k.toNat p q := fun p q => by
        unfold lk1
        exact ⟨fun h => h.elim (fun h => absurd h.1 h2) (fun h => h.2), fun h => .inr ⟨h2, h⟩⟩
      have g := gl_or (W := W) hI hlo (fun k hk => ⟨by have := hr k hk; omega, by obtain ⟨c', h, -⟩ := htr k hk; exact ⟨c', h⟩⟩) hen a b
      constructor
      · rintro (⟨h, -⟩ | ⟨-, h⟩ | ⟨h, -⟩)
        · omega
        · rcases g.1 h with h | ⟨p, q, h4, h5, h6⟩
          · exact .inl h
          · exact .inr ⟨p, q, h4, h5, h6.mono (fun p q => (e1 p q).2)⟩
        · omega
      · rintro (h | ⟨p, q, h4, h5, h6⟩)
        · exact .inr (.inl ⟨h3, g.2 (.inl h)⟩)
        · exact .inr (.inl ⟨h3, g.2 (.inr ⟨p, q, h4, h5, h6.mono (fun p q => (e1 p q).1)⟩)⟩)
    · have h14 : D.K i = 1 ∨ D.K i = 4 := by omega
      rw [if_neg h3, ed_leaf hl h14, ed_leaf hl h14]
      have e1 : ∀ p q, ¬ lk1 D i p q := fun p q h => by
        unfold lk1 at h
        rw [hlf h14] at h
        rcases h with ⟨h, -⟩ | ⟨-, k, hk, -⟩
        · exact h2 h
        · exact absurd hk (List.not_mem_nil)
      constructor
      · rintro (⟨h, -⟩ | ⟨h, -⟩ | ⟨-, rfl, h⟩)
        · exact absurd h h2
        · exact absurd h h3
        · exact .inr ⟨i, i, by simp, by simp, .one (show mtN D W ((i : Int)).toNat a by rw [show ((i : Int)).toNat = i by omega]; exact h)⟩
      · rintro (⟨h, -⟩ | ⟨p, q, hp, hq, P⟩)
        · cases h
        · simp at hp hq
          subst hp hq
          cases P with
          | one h => exact .inr (.inr ⟨h14, rfl, by have h9 : mtN D W ((i : Int)).toNat a := h; rw [show ((i : Int)).toNat = i by omega] at h9; exact h9⟩)
          | more _ h _ => exact absurd h (e1 _ _)
/-- A node takes a row just where positions lead through it. -/
theorem gl_node {D : Pn} {W : List ByteArray} (hk : ∀ j, j < D.n → D.K j = 1 ∨ D.K j = 2 ∨ D.K j = 3 ∨ D.K j = 4) (hoc : ∀ j, j < D.n → 0 ≤ D.OC j ∧ D.OC j ≤ 3) (hlf : ∀ j, j < D.n → D.K j = 1 ∨ D.K j = 4 → D.KL j = []) :
    ∀ (m i c : Nat), i < m → i < D.n → Lo D i → tr D i = some c → ∀ a b, en D W i a b ↔ Gl D W i a b
  | 0, i, c, hm, _, _, _ => by omega
  | m + 1, i, c, hm, hi, hl, ht => by
    intro a b
    obtain ⟨hI, hr, htr⟩ := tr_inc ht
    have hen : ∀ k ∈ D.KL i, ∀ a b, en D W k.toNat a b ↔ Gl D W k.toNat a b := fun k hk2 => by
      have h1 := hr k hk2
      obtain ⟨ck, tk, -⟩ := htr k hk2
      exact gl_node hk hoc hlf m k.toNat ck (by omega) (by omega) (lo_less hl (by omega)) tk
    have G1 := gl_once (W := W) hl (hk i hi) (hlf i hi) ht hen
    have hoci := hoc i hi
    rw [en_iff hl]
    unfold rep Gl
    rw [nl_nl1 hl]
    have h1k : ∀ {p q}, lk1 D i p q → lk D i p q := fun h => (lk_lk1 hl _ _).2 (.inl h)
    by_cases h2 : 2 ≤ D.OC i
    · have hst : ∀ {p q}, p ∈ ed D true i → q ∈ ed D false i → lk D i p q := fun h3 h4 => (lk_lk1 hl _ _).2 (.inr ⟨h2, h3, h4⟩)
      -- a way through is taken again and again
      have fwd : ∀ {a b}, St (onc D W (en D W) i) a b → a = b ∨ ∃ p q, p ∈ ed D false i ∧ q ∈ ed D true i ∧ Pa (lk D i) (mtI D W) a p b q := by
        intro a b h
        induction h with
        | refl => exact .inl rfl
        | @step a b c h3 _ ih =>
          rcases (G1 a b).1 h3 with ⟨-, rfl⟩ | ⟨p, q, hp, hq, P⟩
          · exact ih
          · rcases ih with rfl | ⟨p2, q2, hp2, hq2, P2⟩
            · exact .inr ⟨p, q, hp, hq, P.mono (fun _ _ => h1k)⟩
            · exact .inr ⟨p, q2, hp, hq2, (P.mono (fun _ _ => h1k)).join (hst hq hp2) P2⟩
      have bwd : ∀ {a p b q}, Pa (lk D i) (mtI D W) a p b q → q ∈ ed D true i → ∃ c r, Pa (lk1 D i) (mtI D W) a p c r ∧ r ∈ ed D true i ∧ St (onc D W (en D W) i) c b := by
        intro a p b q h
        induction h with
        | @one a p h1 => intro hq; exact ⟨a + 1, p, .one h1, hq, .refl _⟩
        | @more a p r b q h3 h4 _ ih =>
          intro hq
          obtain ⟨c, s, P, hs, S⟩ := ih hq
          rcases (lk_lk1 hl _ _).1 h4 with h5 | ⟨-, h5, h6⟩
          · exact ⟨c, s, .more h3 h5 P, hs, S⟩
          · exact ⟨a + 1, p, .one h3, h5, .step ((G1 (a + 1) c).2 (.inr ⟨r, s, h6, hs, P⟩)) S⟩
      by_cases h3 : D.OC i = 2
      · rw [decide_eq_true (.inr h3), Bool.true_or]
        constructor
        · rintro (⟨h, -⟩ | ⟨h, -⟩ | ⟨-, h⟩ | ⟨h, -⟩)
          · omega
          · omega
          · rcases fwd h with h | h
            · exact .inl ⟨rfl, h⟩
            · exact .inr h
          · omega
        · rintro (⟨-, rfl⟩ | ⟨p, q, hp, hq, P⟩)
          · exact .inr (.inr (.inl ⟨h3, .refl _⟩))
          · obtain ⟨c, r, P1, hr1, S⟩ := bwd P hq
            exact .inr (.inr (.inl ⟨h3, .step ((G1 a c).2 (.inr ⟨p, r, hp, hr1, P1⟩)) S⟩))
      · have h33 : D.OC i = 3 := by omega
        rw [decide_eq_false (by omega), Bool.false_or]
        constructor
        · rintro (⟨h, -⟩ | ⟨h, -⟩ | ⟨h, -⟩ | ⟨-, c, h, S⟩)
          · omega
          · omega
          · omega
          · rcases (G1 a c).1 h with ⟨n1, rfl⟩ | ⟨p, q, hp, hq, P⟩
            · rcases fwd S with h | h
              · exact .inl ⟨n1, h⟩
              · exact .inr h
            · rcases fwd S with rfl | ⟨p2, q2, hp2, hq2, P2⟩
              · exact .inr ⟨p, q, hp, hq, P.mono (fun _ _ => h1k)⟩
              · exact .inr ⟨p, q2, hp, hq2, (P.mono (fun _ _ => h1k)).join (hst hq hp2) P2⟩
        · rintro (⟨n1, rfl⟩ | ⟨p, q, hp, hq, P⟩)
          · exact .inr (.inr (.inr ⟨h33, a, (G1 a a).2 (.inl ⟨n1, rfl⟩), .refl _⟩))
          · obtain ⟨c, r, P1, hr1, S⟩ := bwd P hq
            exact .inr (.inr (.inr ⟨h33, c, (G1 a c).2 (.inr ⟨p, r, hp, hr1, P1⟩), S⟩))
    · have hk1 : ∀ p q, lk D i p q ↔ lk1 D i p q := fun p q => by
        rw [lk_lk1 hl]
        exact ⟨fun h => h.elim id (fun h => absurd h.1 h2), .inl⟩
      by_cases h0 : D.OC i = 0
      · rw [decide_eq_false (by omega), Bool.false_or]
        constructor
        · rintro (⟨-, h⟩ | ⟨h, -⟩ | ⟨h, -⟩ | ⟨h, -⟩)
          · rcases (G1 a b).1 h with h | ⟨p, q, hp, hq, P⟩
            · exact .inl h
            · exact .inr ⟨p, q, hp, hq, P.mono (fun _ _ => h1k)⟩
          · omega
          · omega
          · omega
        · rintro (h | ⟨p, q, hp, hq, P⟩)
          · exact .inl ⟨h0, (G1 a b).2 (.inl h)⟩
          · exact .inl ⟨h0, (G1 a b).2 (.inr ⟨p, q, hp, hq, P.mono (fun p q => (hk1 p q).1)⟩)⟩
      · have h1 : D.OC i = 1 := by omega
        rw [decide_eq_true (.inl h1), Bool.true_or]
        constructor
        · rintro (⟨h, -⟩ | ⟨-, h | h⟩ | ⟨h, -⟩ | ⟨h, -⟩)
          · omega
          · exact .inl ⟨rfl, h⟩
          · rcases (G1 a b).1 h with h | ⟨p, q, hp, hq, P⟩
            · exact .inl ⟨rfl, h.2⟩
            · exact .inr ⟨p, q, hp, hq, P.mono (fun _ _ => h1k)⟩
          · omega
          · omega
        · rintro (⟨-, h⟩ | ⟨p, q, hp, hq, P⟩)
          · exact .inr (.inl ⟨h1, .inl h⟩)
          · exact .inr (.inl ⟨h1, .inr ((G1 a b).2 (.inr ⟨p, q, hp, hq, P.mono (fun p q => (hk1 p q).1)⟩))⟩)
theorem gl_root {D : Pn} {W : List ByteArray} (h : pkB D = true) (a b : Nat) : en D W (D.n - 1) a b ↔ Gl D W (D.n - 1) a b := by
  obtain ⟨h1, h2, h3, -⟩ := pk_facts h
  refine gl_node (fun j hj => nd_kinds (h2 j hj)) (fun j hj => ?_) (fun j hj hk => leaf_kids9 (h2 j hj) hk) D.n (D.n - 1) 0 (by omega) (by omega) (lo_root h) h3 a b
  have h9 := h2 j hj
  unfold nodeB ndB at h9
  simp only [Bool.and_eq_true, decide_eq_true_eq] at h9
  exact h9.1
/-- The positions at which a row may end, behind so many names. -/
def rch (D : Pn) (W : List ByteArray) : Nat → Nat → Prop
  | 0, _ => False
  | t + 1, q => ((t = 0 ∧ (q : Int) ∈ ed D false (D.n - 1)) ∨ ∃ p, rch D W t p ∧ lk D (D.n - 1) p q) ∧ mtN D W q t
theorem rch_iff {D : Pn} {W : List ByteArray} (h : pkB D = true) : ∀ (t q : Nat), rch D W t q ↔ ∃ p, p ∈ ed D false (D.n - 1) ∧ Pa (lk D (D.n - 1)) (mtI D W) 0 p t (q : Int)
  | 0, q => by
    constructor
    · intro h; exact h.elim
    · rintro ⟨p, -, P⟩
      obtain ⟨c, e, -⟩ := P.last
      omega
  | t + 1, q => by
    rw [rch]
    constructor
    · rintro ⟨⟨rfl, hq⟩ | ⟨p, hp, hl⟩, hm⟩
      · exact ⟨q, hq, .one (show mtN D W ((q : Int)).toNat 0 by rw [show ((q : Int)).toNat = q by omega]; exact hm)⟩
      · obtain ⟨p0, hp0, P⟩ := (rch_iff h t p).1 hp
        exact ⟨p0, hp0, P.snoc hl (show mtN D W ((q : Int)).toNat t by rw [show ((q : Int)).toNat = q by omega]; exact hm)⟩
    · rintro ⟨p0, hp0, P⟩
      obtain ⟨c, e, -, hm, h5⟩ := P.last
      have : c = t := by omega
      subst this
      have hm2 : mtN D W q c := by have h9 : mtN D W ((q : Int)).toNat c := hm; rw [show ((q : Int)).toNat = q by omega] at h9; exact h9
      refine ⟨?_, hm2⟩
      rcases h5 with ⟨h6, h7⟩ | ⟨r, P2, hl⟩
      · exact .inl ⟨h6.symm, by rw [← h7]; exact hp0⟩
      · have hlo := lo_root h
        have hn := (pk_facts h).1
        have hr := (lk_in D.n (D.n - 1) 0 (by omega) hlo (pk_facts h).2.2.1 hl).1
        obtain ⟨r', rfl⟩ : ∃ r' : Nat, r = (r' : Int) := ⟨r.toNat, by omega⟩
        exact .inr ⟨r', (rch_iff h c r').2 ⟨p0, hp0, P2⟩, hl⟩
/-- The model takes the row. -/
def AcP (D : Pn) (W : List ByteArray) : Prop := pkB D = true ∧ W.length ≤ 200 ∧ en D W (D.n - 1) 0 W.length
theorem ac_iff {D : Pn} {W : List ByteArray} (h : pkB D = true) : en D W (D.n - 1) 0 W.length ↔ (W.length = 0 ∧ nl D (D.n - 1) = true) ∨ ∃ q : Nat, rch D W W.length q ∧ (q : Int) ∈ ed D true (D.n - 1) := by
  rw [gl_root h]
  unfold Gl
  have hn := (pk_facts h).1
  constructor
  · rintro (⟨h1, h2⟩ | ⟨p, q, hp, hq, P⟩)
    · exact .inl ⟨h2.symm, h1⟩
    · have := ed_range (D.n - 1 + 1) (D.n - 1) (by omega) (lo_root h) q hq
      obtain ⟨q', rfl⟩ : ∃ q' : Nat, q = (q' : Int) := ⟨q.toNat, by omega⟩
      exact .inr ⟨q', (rch_iff h _ _).2 ⟨p, hp, P⟩, hq⟩
  · rintro (⟨h1, h2⟩ | ⟨q, hr, hq⟩)
    · exact .inl ⟨h2, h1.symm⟩
    · obtain ⟨p, hp, P⟩ := (rch_iff h _ _).1 hr
      exact .inr ⟨p, q, hp, hq, P⟩
end Go.Proofs.YtfohfljdgmlibaaDoor

/-
  Contracts of the laws' helpers on rows of texts that come in: how much they hold, a copy in new memory, that two rows that are alike are told so.
-/
namespace Go.Proofs.YtfohfljdgmlibaaDoor
open Go.RowKit Go.Joins
set_option linter.unusedVariables false
set_option linter.unusedSimpArgs false
theorem infoStr9 : (Tryd.prog.info? 9).map (fun i => (i.zero, i.size, i.bytes)) = some (some (.string ByteArray.empty), 1, 16) := by kernel_rfl
theorem drewN_below9 (w : World) (q : Nat) : Below w.heap.size w (w.drewN q) := ⟨rfl, rfl, rfl, Nat.le_refl _, fun _ _ => rfl⟩
/-- A row of texts lies somewhere. -/
def TxAt (w : World) (a : Option Addr) (L : List ByteArray) (B : Nat) : Prop := L ≠ [] → ∃ b off, a = some ⟨b, off, none⟩ ∧ b < B ∧ ∀ j, j < L.length → w.cell? ⟨b, off + j, none⟩ = some (.string (L[j]?.getD ⟨#[]⟩))
theorem tx_go {w w' : World} {a : Option Addr} {L : List ByteArray} {B : Nat} (h : TxAt w a L B) (hb : Below B w w') : TxAt w' a L B := fun h0 => by
  obtain ⟨b, off, e, hl, hc⟩ := h h0
  exact ⟨b, off, e, hl, fun j hj => (hb.cell (p := ⟨b, off + j, none⟩) hl).trans (hc j hj)⟩
theorem tx_up {w : World} {a : Option Addr} {L : List ByteArray} {B B' : Nat} (h : TxAt w a L B) (hB : B ≤ B') : TxAt w a L B' := fun h0 => by
  obtain ⟨b, off, e, hl, hc⟩ := h h0
  exact ⟨b, off, e, Nat.lt_of_lt_of_le hl hB, hc⟩
theorem tx_cell {w : World} {a : Option Addr} {L : List ByteArray} {B : Nat} (h : TxAt w a L B) (j : Nat) (hj : j < L.length) : ∃ b off, a = some ⟨b, off, none⟩ ∧ b < B ∧ ∀ j, j < L.length → w.cell? ⟨b, off + j, none⟩ = some (.string (L[j]?.getD ⟨#[]⟩)) := h (fun e => by rw [e] at hj; simp at hj)
theorem tx_own {w : World} {B n c : Nat} {ad : Option Addr} {t : TypeId} {xs : List ByteArray} (h : w.ownsRow B t 1 (.slice ad n c) n (xs.map Value.string)) : TxAt w ad xs w.heap.size := fun h0 => by
  have hl := h.1
  rcases h.2 with ⟨-, hz⟩ | ⟨g, cap, cur, hv, hB, hh, -, -, -, hx⟩
  · exact absurd (List.length_eq_zero_iff.1 (by rw [hz] at hl; simpa using hl)) h0
  · simp only [Value.slice.injEq] at hv
    obtain ⟨rfl, -, rfl⟩ := hv
    refine ⟨g, 0, rfl, (Array.getElem?_eq_some_iff.1 hh).1, fun j hj => ?_⟩
    have hn : xs.length = n := by simpa using hl
    have := h.cellAt j (by omega)
    rw [Nat.zero_add, this, List.getElem?_map, List.getElem?_eq_getElem hj]
    rfl
/-- How much a row of texts holds. -/
def txS (L : List ByteArray) (k : Nat) : Nat := sumN (fun j => (L[j]?.getD ⟨#[]⟩).size) k
def txTot (L : List ByteArray) : Nat := L.length + txS L L.length
def TxSz (L : List ByteArray) : Prop := L.length ≤ maxLen ∧ ∀ s ∈ L, s.size ≤ maxLen
theorem set_stepT (xs : List ByteArray) (n k : Nat) (hn : xs.length = n) (hk : k < n) :
    ((xs.take k ++ List.replicate (n - k) ByteArray.empty).map Value.string).set k (.string (xs[k]?.getD ⟨#[]⟩)) = (xs.take (k + 1) ++ List.replicate (n - (k + 1)) ByteArray.empty).map Value.string := by
  apply List.ext_getElem
  · simp; omega
  · intro i h1 h2
    simp at h1 h2
    simp only [List.getElem_set, List.getElem_map, List.getElem_append, List.getElem_take, List.length_take, List.getElem_replicate]
    by_cases e : k = i
    · subst e
      simp [List.getElem?_eq_getElem (show k < xs.length by omega), show k < min (k + 1) xs.length by omega]
    · simp only [e, if_false]
      by_cases h : i < k
      · simp [show i < min k xs.length by omega, show i < min (k + 1) xs.length by omega]
      · simp [show ¬ i < min k xs.length by omega, show ¬ i < min (k + 1) xs.length by omega]

end Go.Proofs.YtfohfljdgmlibaaDoor
