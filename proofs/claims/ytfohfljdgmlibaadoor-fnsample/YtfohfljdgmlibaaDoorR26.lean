/-
  Texts put together: AcN, MtMath, SmMath.
-/
import Derived.Test.YtfohfljdgmlibaaDoorR25
import Derived.Test.YtfohfljdgmlibaaDoorR3
import Derived.Lib.Join
/-
  Plain facts: a node takes just the rows that positions lead through, of no program's run.
-/
namespace Go.Proofs.YtfohfljdgmlibaaDoor
set_option linter.unusedVariables false
set_option linter.unusedSimpArgs false
theorem mem_seqT {g : Int → List Int} {x : Int} {L : List Int} : x ∈ seqE g (fun _ => true) L ↔ ∃ k ∈ L, x ∈ g k := by
  rw [mem_seqE]
  constructor
  · rintro ⟨L1, k, L2, e, -, h⟩; exact ⟨k, by rw [e]; simp, h⟩
  · rintro ⟨k, hk, h⟩
    obtain ⟨L1, L2, e⟩ := List.append_of_mem hk
    exact ⟨L1, k, L2, e, fun _ _ => rfl, h⟩
theorem inc_disj {D : Pn} : ∀ {R : List Int}, Inc D R → ∀ {j k : Int}, j ∈ R → k ∈ R → ∀ {cj ck : Nat}, tr D j.toNat = some cj → tr D k.toNat = some ck → ∀ {x : Int}, (cj : Int) ≤ x → x ≤ j → (ck : Int) ≤ x → x ≤ k → j = k
  | [], _, j, k, hj, _, _, _, _, _, _, _, _, _, _ => absurd hj (List.not_mem_nil)
  | z :: R, h, j, k, hj, hk, cj, ck, tj, tk, x, h1, h2, h3, h4 => by
    obtain ⟨-, -, hgt, hI⟩ := h
    rcases List.mem_cons.1 hj with e1 | hj
    · rcases List.mem_cons.1 hk with e2 | hk
      · rw [e1, e2]
      · obtain ⟨c, hc, hlt⟩ := hgt k hk
        rw [tk] at hc
        cases hc
        omega
    · rcases List.mem_cons.1 hk with e2 | hk
      · obtain ⟨c, hc, hlt⟩ := hgt j hj
        rw [tj] at hc
        cases hc
        omega
      · exact inc_disj hI hj hk tj tk h1 h2 h3 h4
theorem gl_or {D : Pn} {W : List ByteArray} {L : List Int} (hI : Inc D L) (hlo : ∀ k ∈ L, Lo D k.toNat) (htr : ∀ k ∈ L, 0 ≤ k ∧ ∃ c, tr D k.toNat = some c) (hen : ∀ k ∈ L, ∀ a b, en D W k.toNat a b ↔ Gl D W k.toNat a b) (a b : Nat) :
    (∃ k ∈ L, en D W k.toNat a b) ↔ ((L.any (fun k => nl D k.toNat) = true ∧ a = b) ∨ ∃ p q, p ∈ seqE (fun k => ed D false k.toNat) (fun _ => true) L ∧ q ∈ seqE (fun k => ed D true k.toNat) (fun _ => true) L.reverse ∧ Pa (fun p q => ∃ k ∈ L, lk D k.toNat p q) (mtI D W) a p b q) := by
  constructor
  · rintro ⟨k, hk, h⟩
    rw [hen k hk] at h
    rcases h with ⟨h1, rfl⟩ | ⟨p, q, hp, hq, P⟩
    · exact .inl ⟨List.any_eq_true.2 ⟨k, hk, h1⟩, rfl⟩
    · exact .inr ⟨p, q, mem_seqT.2 ⟨k, hk, hp⟩, mem_seqT.2 ⟨k, List.mem_reverse.2 hk, hq⟩, P.mono (fun p q h => ⟨k, hk, h⟩)⟩
  · rintro (⟨h, rfl⟩ | ⟨p, q, hp, hq, P⟩)
    · obtain ⟨k, hk, h1⟩ := List.any_eq_true.1 h
      exact ⟨k, hk, (hen k hk a a).2 (.inl ⟨h1, rfl⟩)⟩
    · obtain ⟨k, hk, hp⟩ := mem_seqT.1 hp
      obtain ⟨hk0, ck, tk⟩ := htr k hk
      have key : ∀ {a p b q}, Pa (fun p q => ∃ k ∈ L, lk D k.toNat p q) (mtI D W) a p b q → ((ck : Int) ≤ p ∧ p ≤ k) → Pa (lk D k.toNat) (mtI D W) a p b q ∧ (ck : Int) ≤ q ∧ q ≤ k := by
        intro a p b q h
        induction h with
        | one h1 => intro hp; exact ⟨.one h1, hp⟩
        | more h1 h2 _ ih =>
          intro hp
          obtain ⟨j, hj, h3⟩ := h2
          obtain ⟨hj0, cj, tj⟩ := htr j hj
          have h4 := lk_in (j.toNat + 1) j.toNat cj (by omega) (hlo j hj) tj h3
          have : j = k := inc_disj hI hj hk tj tk h4.1.1 (by omega) hp.1 hp.2
          subst this
          rw [tj] at tk
          cases tk
          obtain ⟨h5, h6⟩ := ih ⟨h4.2.1, by omega⟩
          exact ⟨.more h1 h3 h5, h6⟩
      have hpr := ed_in (k.toNat + 1) k.toNat ck (by omega) (hlo k hk) tk p hp
      obtain ⟨P2, hq1, hq2⟩ := key P ⟨hpr.1, by omega⟩
      obtain ⟨j, hj, hqj⟩ := mem_seqT.1 hq
      have hj := List.mem_reverse.1 hj
      obtain ⟨hj0, cj, tj⟩ := htr j hj
      have hqr := ed_in (j.toNat + 1) j.toNat cj (by omega) (hlo j hj) tj q hqj
      have : j = k := inc_disj hI hj hk tj tk hqr.1 (by omega) hq1 hq2
      subst this
      exact ⟨j, hj, (hen j hj a b).2 (.inr ⟨p, q, hp, hqj, P2⟩)⟩
/-- What follows within a node that stands once. -/
def lk1 (D : Pn) (i : Nat) (p q : Int) : Prop := (D.K i = 2 ∧ SqR D (D.KL i) p q) ∨ (D.K i ≠ 2 ∧ ∃ k ∈ D.KL i, lk D k.toNat p q)
def nl1 (D : Pn) (i : Nat) : Bool := if D.K i = 2 then (D.KL i).all (fun k => nl D k.toNat) else if D.K i = 3 then (D.KL i).any (fun k => nl D k.toNat) else false
theorem lk_lk1 {D : Pn} {i : Nat} (hl : Lo D i) (p q : Int) : lk D i p q ↔ lk1 D i p q ∨ (2 ≤ D.OC i ∧ p ∈ ed D true i ∧ q ∈ ed D false i) := by
  unfold lk1
  by_cases hk : D.K i = 2
  · rw [lk_seq hl hk]
    exact or_congr_left ⟨fun h => .inl ⟨hk, h⟩, fun h => h.elim (fun h => h.2) (fun h => absurd hk h.1)⟩
  · rw [lk_other hl hk]
    exact or_congr_left ⟨fun h => .inr ⟨hk, h⟩, fun h => h.elim (fun h => absurd h.1 hk) (fun h => h.2)⟩
theorem nl_nl1 {D : Pn} {i : Nat} (hl : Lo D i) : nl D i = (decide (D.OC i = 1 ∨ D.OC i = 2) || nl1 D i) := by
  rw [nl_eq hl]
  unfold bdN nl1
  rw [List.all_map, List.any_map]
  rfl
theorem gl_once {D : Pn} {W : List ByteArray} {i c : Nat} (hl : Lo D i) (hk : D.K i = 1 ∨ D.K i = 2 ∨ D.K i = 3 ∨ D.K i = 4) (hlf : D.K i = 1 ∨ D.K i = 4 → D.KL i = []) (ht : tr D i = some c) (hen : ∀ k ∈ D.KL i, ∀ a b, en D W k.toNat a b ↔ Gl D W k.toNat a b) (a b : Nat) :
    onc D W (en D W) i a b ↔ ((nl1 D i = true ∧ a = b) ∨ ∃ p q, p ∈ ed D false i ∧ q ∈ ed D true i ∧ Pa (lk1 D i) (mtI D W) a p b q) := by
  obtain ⟨hI, hr, htr⟩ := tr_inc ht
  have hlo : ∀ k ∈ D.KL i, Lo D k.toNat := fun k hk => lo_less hl (by have := hr k hk; omega)
  unfold onc nl1
  by_cases h2 : D.K i = 2
  · rw [if_pos h2, ed_seq hl h2, ed_seq hl h2]
    have e1 : ∀ p q, lk1 D i p q ↔ SqR D (D.KL i) p q := fun p q => by
      unfold lk1
      exact ⟨fun h => h.elim (fun h => h.2) (fun h => absurd h2 h.1), fun h => .inl ⟨h2, h⟩⟩
    have g := gl_seq (W := W) hI hlo hen a b
    constructor
    · rintro (⟨-, h⟩ | ⟨h, -⟩ | ⟨h, -⟩)
      · rcases g.1 h with h | ⟨p, q, h3, h4, h5⟩
        · exact .inl h
        · exact .inr ⟨p, q, h3, h4, h5.mono (fun p q => (e1 p q).2)⟩
      · omega
      · omega
    · rintro (h | ⟨p, q, h3, h4, h5⟩)
      · exact .inl ⟨h2, g.2 (.inl h)⟩
      · exact .inl ⟨h2, g.2 (.inr ⟨p, q, h3, h4, h5.mono (fun p q => (e1 p q).1)⟩)⟩
  · rw [if_neg h2]
    by_cases h3 : D.K i = 3
    · rw [if_pos h3, ed_or hl h3, ed_or hl h3]
      have e1 : ∀ p q, lk1 D i p q ↔ ∃ k ∈ D.KL i, lk D k.toNat p q := fun p q => by
        unfold lk1
        exact ⟨fun h => h.elim (fun h => absurd h.1 h2) (fun h => h.2), fun h => .inr ⟨h2, h⟩⟩
      have g := gl_or (W := W) hI hlo (fun k hk => ⟨by have := hr k hk; omega, by obtain ⟨c', h, -⟩ := htr k hk; exact ⟨c', h⟩⟩) hen a b
      constructor
      · rintro (⟨h, -⟩ | ⟨-, h⟩ | ⟨h, -⟩)
        · omega
        · rcases g.1 h with h | ⟨p, q, h4, h5, h6⟩
          · exact .inl h
          · exact .inr ⟨p, q, h4, h5, h6.mono (fun p q => (e1 p q).2)⟩
        · omega
      · rintro (h | ⟨p, q, h4, h5, h6⟩)
        · exact .inr (.inl ⟨h3, g.2 (.inl h)⟩)
        · exact .inr (.inl ⟨h3, g.2 (.inr ⟨p, q, h4, h5, h6.mono (fun p q => (e1 p q).1)⟩)⟩)
    · have h14 : D.K i = 1 ∨ D.K i = 4 := by omega
      rw [if_neg h3, ed_leaf hl h14, ed_leaf hl h14]
      have e1 : ∀ p q, ¬ lk1 D i p q := fun p q h => by
        unfold lk1 at h
        rw [hlf h14] at h
        rcases h with ⟨h, -⟩ | ⟨-, k, hk, -⟩
        · exact h2 h
        · exact absurd hk (List.not_mem_nil)
      constructor
      · rintro (⟨h, -⟩ | ⟨h, -⟩ | ⟨-, rfl, h⟩)
        · exact absurd h h2
        · exact absurd h h3
        · exact .inr ⟨i, i, by simp, by simp, .one (show mtN D W ((i : Int)).toNat a by rw [show ((i : Int)).toNat = i by omega]; exact h)⟩
      · rintro (⟨h, -⟩ | ⟨p, q, hp, hq, P⟩)
        · cases h
        · simp at hp hq
          subst hp hq
          cases P with
          | one h => exact .inr (.inr ⟨h14, rfl, by have h9 : mtN D W ((i : Int)).toNat a := h; rw [show ((i : Int)).toNat = i by omega] at h9; exact h9⟩)
          | more _ h _ => exact absurd h (e1 _ _)
/-- A node takes a row just where positions lead through it. -/
theorem gl_node {D : Pn} {W : List ByteArray} (hk : ∀ j, j < D.n → D.K j = 1 ∨ D.K j = 2 ∨ D.K j = 3 ∨ D.K j = 4) (hoc : ∀ j, j < D.n → 0 ≤ D.OC j ∧ D.OC j ≤ 3) (hlf : ∀ j, j < D.n → D.K j = 1 ∨ D.K j = 4 → D.KL j = []) :
    ∀ (m i c : Nat), i < m → i < D.n → Lo D i → tr D i = some c → ∀ a b, en D W i a b ↔ Gl D W i a b
  | 0, i, c, hm, _, _, _ => by omega
  | m + 1, i, c, hm, hi, hl, ht => by
    intro a b
    obtain ⟨hI, hr, htr⟩ := tr_inc ht
    have hen : ∀ k ∈ D.KL i, ∀ a b, en D W k.toNat a b ↔ Gl D W k.toNat a b := fun k hk2 => by
      have h1 := hr k hk2
      obtain ⟨ck, tk, -⟩ := htr k hk2
      exact gl_node hk hoc hlf m k.toNat ck (by omega) (by omega) (lo_less hl (by omega)) tk
    have G1 := gl_once (W := W) hl (hk i hi) (hlf i hi) ht hen
    have hoci := hoc i hi
    rw [en_iff hl]
    unfold rep Gl
    rw [nl_nl1 hl]
    have h1k : ∀ {p q}, lk1 D i p q → lk D i p q := fun h => (lk_lk1 hl _ _).2 (.inl h)
    by_cases h2 : 2 ≤ D.OC i
    · have hst : ∀ {p q}, p ∈ ed D true i → q ∈ ed D false i → lk D i p q := fun h3 h4 => (lk_lk1 hl _ _).2 (.inr ⟨h2, h3, h4⟩)
      -- a way through is taken again and again
      have fwd : ∀ {a b}, St (onc D W (en D W) i) a b → a = b ∨ ∃ p q, p ∈ ed D false i ∧ q ∈ ed D true i ∧ Pa (lk D i) (mtI D W) a p b q := by
        intro a b h
        induction h with
        | refl => exact .inl rfl
        | @step a b c h3 _ ih =>
          rcases (G1 a b).1 h3 with ⟨-, rfl⟩ | ⟨p, q, hp, hq, P⟩
          · exact ih
          · rcases ih with rfl | ⟨p2, q2, hp2, hq2, P2⟩
            · exact .inr ⟨p, q, hp, hq, P.mono (fun _ _ => h1k)⟩
            · exact .inr ⟨p, q2, hp, hq2, (P.mono (fun _ _ => h1k)).join (hst hq hp2) P2⟩
      have bwd : ∀ {a p b q}, Pa (lk D i) (mtI D W) a p b q → q ∈ ed D true i → ∃ c r, Pa (lk1 D i) (mtI D W) a p c r ∧ r ∈ ed D true i ∧ St (onc D W (en D W) i) c b := by
        intro a p b q h
        induction h with
        | @one a p h1 => intro hq; exact ⟨a + 1, p, .one h1, hq, .refl _⟩
        | @more a p r b q h3 h4 _ ih =>
          intro hq
          obtain ⟨c, s, P, hs, S⟩ := ih hq
          rcases (lk_lk1 hl _ _).1 h4 with h5 | ⟨-, h5, h6⟩
          · exact ⟨c, s, .more h3 h5 P, hs, S⟩
          · exact ⟨a + 1, p, .one h3, h5, .step ((G1 (a + 1) c).2 (.inr ⟨r, s, h6, hs, P⟩)) S⟩
      by_cases h3 : D.OC i = 2
      · rw [decide_eq_true (.inr h3), Bool.true_or]
        constructor
        · rintro (⟨h, -⟩ | ⟨h, -⟩ | ⟨-, h⟩ | ⟨h, -⟩)
          · omega
          · omega
          · rcases fwd h with h | h
            · exact .inl ⟨rfl, h⟩
            · exact .inr h
          · omega
        · rintro (⟨-, rfl⟩ | ⟨p, q, hp, hq, P⟩)
          · exact .inr (.inr (.inl ⟨h3, .refl _⟩))
          · obtain ⟨c, r, P1, hr1, S⟩ := bwd P hq
            exact .inr (.inr (.inl ⟨h3, .step ((G1 a c).2 (.inr ⟨p, r, hp, hr1, P1⟩)) S⟩))
      · have h33 : D.OC i = 3 := by omega
        rw [decide_eq_false (by omega), Bool.false_or]
        constructor
        · rintro (⟨h, -⟩ | ⟨h, -⟩ | ⟨h, -⟩ | ⟨-, c, h, S⟩)
          · omega
          · omega
          · omega
          · rcases (G1 a c).1 h with ⟨n1, rfl⟩ | ⟨p, q, hp, hq, P⟩
            · rcases fwd S with h | h
              · exact .inl ⟨n1, h⟩
              · exact .inr h
            · rcases fwd S with rfl | ⟨p2, q2, hp2, hq2, P2⟩
              · exact .inr ⟨p, q, hp, hq, P.mono (fun _ _ => h1k)⟩
              · exact .inr ⟨p, q2, hp, hq2, (P.mono (fun _ _ => h1k)).join (hst hq hp2) P2⟩
        · rintro (⟨n1, rfl⟩ | ⟨p, q, hp, hq, P⟩)
          · exact .inr (.inr (.inr ⟨h33, a, (G1 a a).2 (.inl ⟨n1, rfl⟩), .refl _⟩))
          · obtain ⟨c, r, P1, hr1, S⟩ := bwd P hq
            exact .inr (.inr (.inr ⟨h33, c, (G1 a c).2 (.inr ⟨p, r, hp, hr1, P1⟩), S⟩))
    · have hk1 : ∀ p q, lk D i p q ↔ lk1 D i p q := fun p q => by
        rw [lk_lk1 hl]
        exact ⟨fun h => h.elim id (fun h => absurd h.1 h2), .inl⟩
      by_cases h0 : D.OC i = 0
      · rw [decide_eq_false (by omega), Bool.false_or]
        constructor
        · rintro (⟨-, h⟩ | ⟨h, -⟩ | ⟨h, -⟩ | ⟨h, -⟩)
          · rcases (G1 a b).1 h with h | ⟨p, q, hp, hq, P⟩
            · exact .inl h
            · exact .inr ⟨p, q, hp, hq, P.mono (fun _ _ => h1k)⟩
          · omega
          · omega
          · omega
        · rintro (h | ⟨p, q, hp, hq, P⟩)
          · exact .inl ⟨h0, (G1 a b).2 (.inl h)⟩
          · exact .inl ⟨h0, (G1 a b).2 (.inr ⟨p, q, hp, hq, P.mono (fun p q => (hk1 p q).1)⟩)⟩
      · have h1 : D.OC i = 1 := by omega
        rw [decide_eq_true (.inl h1), Bool.true_or]
        constructor
        · rintro (⟨h, -⟩ | ⟨-, h | h⟩ | ⟨h, -⟩ | ⟨h, -⟩)
          · omega
          · exact .inl ⟨rfl, h⟩
          · rcases (G1 a b).1 h with h | ⟨p, q, hp, hq, P⟩
            · exact .inl ⟨rfl, h.2⟩
            · exact .inr ⟨p, q, hp, hq, P.mono (fun _ _ => h1k)⟩
          · omega
          · omega
        · rintro (⟨-, h⟩ | ⟨p, q, hp, hq, P⟩)
          · exact .inr (.inl ⟨h1, .inl h⟩)
          · exact .inr (.inl ⟨h1, .inr ((G1 a b).2 (.inr ⟨p, q, hp, hq, P.mono (fun p q => (hk1 p q).1)⟩))⟩)
theorem gl_root {D : Pn} {W : List ByteArray} (h : pkB D = true) (a b : Nat) : en D W (D.n - 1) a b ↔ Gl D W (D.n - 1) a b := by
  obtain ⟨h1, h2, h3, -⟩ := pk_facts h
  refine gl_node (fun j hj => nd_kinds (h2 j hj)) (fun j hj => ?_) (fun j hj hk => leaf_kids9 (h2 j hj) hk) D.n (D.n - 1) 0 (by omega) (by omega) (lo_root h) h3 a b
  have h9 := h2 j hj
  unfold nodeB ndB at h9
  simp only [Bool.and_eq_true, decide_eq_true_eq] at h9
  exact h9.1
/-- The positions at which a row may end, behind so many names. -/
def rch (D : Pn) (W : List ByteArray) : Nat → Nat → Prop
  | 0, _ => False
  | t + 1, q => ((t = 0 ∧ (q : Int) ∈ ed D false (D.n - 1)) ∨ ∃ p, rch D W t p ∧ lk D (D.n - 1) p q) ∧ mtN D W q t
theorem rch_iff {D : Pn} {W : List ByteArray} (h : pkB D = true) : ∀ (t q : Nat), rch D W t q ↔ ∃ p, p ∈ ed D false (D.n - 1) ∧ Pa (lk D (D.n - 1)) (mtI D W) 0 p t (q : Int)
  | 0, q => by
    constructor
    · intro h; exact h.elim
    · rintro ⟨p, -, P⟩
      obtain ⟨c, e, -⟩ := P.last
      omega
  | t + 1, q => by
    rw [rch]
    constructor
    · rintro ⟨⟨rfl, hq⟩ | ⟨p, hp, hl⟩, hm⟩
      · exact ⟨q, hq, .one (show mtN D W ((q : Int)).toNat 0 by rw [show ((q : Int)).toNat = q by omega]; exact hm)⟩
      · obtain ⟨p0, hp0, P⟩ := (rch_iff h t p).1 hp
        exact ⟨p0, hp0, P.snoc hl (show mtN D W ((q : Int)).toNat t by rw [show ((q : Int)).toNat = q by omega]; exact hm)⟩
    · rintro ⟨p0, hp0, P⟩
      obtain ⟨c, e, -, hm, h5⟩ := P.last
      have : c = t := by omega
      subst this
      have hm2 : mtN D W q c := by have h9 : mtN D W ((q : Int)).toNat c := hm; rw [show ((q : Int)).toNat = q by omega] at h9; exact h9
      refine ⟨?_, hm2⟩
      rcases h5 with ⟨h6, h7⟩ | ⟨r, P2, hl⟩
      · exact .inl ⟨h6.symm, by rw [← h7]; exact hp0⟩
      · have hlo := lo_root h
        have hn := (pk_facts h).1
        have hr := (lk_in D.n (D.n - 1) 0 (by omega) hlo (pk_facts h).2.2.1 hl).1
        obtain ⟨r', rfl⟩ : ∃ r' : Nat, r = (r' : Int) := ⟨r.toNat, by omega⟩
        exact .inr ⟨r', (rch_iff h c r').2 ⟨p0, hp0, P2⟩, hl⟩
/-- The model takes the row. -/
def AcP (D : Pn) (W : List ByteArray) : Prop := pkB D = true ∧ W.length ≤ 200 ∧ en D W (D.n - 1) 0 W.length
theorem ac_iff {D : Pn} {W : List ByteArray} (h : pkB D = true) : en D W (D.n - 1) 0 W.length ↔ (W.length = 0 ∧ nl D (D.n - 1) = true) ∨ ∃ q : Nat, rch D W W.length q ∧ (q : Int) ∈ ed D true (D.n - 1) := by
  rw [gl_root h]
  unfold Gl
  have hn := (pk_facts h).1
  constructor
  · rintro (⟨h1, h2⟩ | ⟨p, q, hp, hq, P⟩)
    · exact .inl ⟨h2.symm, h1⟩
    · have := ed_range (D.n - 1 + 1) (D.n - 1) (by omega) (lo_root h) q hq
      obtain ⟨q', rfl⟩ : ∃ q' : Nat, q = (q' : Int) := ⟨q.toNat, by omega⟩
      exact .inr ⟨q', (rch_iff h _ _).2 ⟨p, hp, P⟩, hq⟩
  · rintro (⟨h1, h2⟩ | ⟨q, hr, hq⟩)
    · exact .inl ⟨h2, h1.symm⟩
    · obtain ⟨p, hp, P⟩ := (rch_iff h _ _).1 hr
      exact .inr ⟨p, q, hp, hq, P⟩
end Go.Proofs.YtfohfljdgmlibaaDoor

/-
  Plain facts on the text of a model, of no program's run.
-/
namespace Go.Proofs.YtfohfljdgmlibaaDoor
set_option linter.unusedVariables false
set_option linter.unusedSimpArgs false
def sgP (oc : Int) : List UInt8 := if oc = 1 then [63] else if oc = 2 then [42] else if oc = 3 then [43] else []
def sepP (k : Int) : List UInt8 := if k = 2 then [44] else [124]
def bdP (k : Int) (nm : ByteArray) (ts : List (List UInt8)) : List UInt8 := if k = 1 then nm.data.toList else if k = 4 then [35] else [40] ++ Lib.join ts (sepP k) ++ [41]
def mtF (D : Pn) : Nat → Nat → List UInt8
  | 0, _ => []
  | f + 1, i => bdP (D.K i) (D.NM i) ((D.KL i).map fun k => mtF D f k.toNat) ++ sgP (D.OC i)
theorem mtF_more {D : Pn} : ∀ (f g i : Nat), Lo D i → i < f → i < g → mtF D f i = mtF D g i
  | 0, g, i, hl, hf, hg => by omega
  | f + 1, 0, i, hl, hf, hg => by omega
  | f + 1, g + 1, i, hl, hf, hg => by
    have : ((D.KL i).map fun k => mtF D f k.toNat) = (D.KL i).map fun k => mtF D g k.toNat := List.map_congr_left (fun k hk => by
      have := hl i (Nat.le_refl _) k hk
      exact mtF_more f g k.toNat (lo_less hl (by omega)) (by omega) (by omega))
    rw [mtF, mtF, this]
/-- The text of a node. -/
def mt (D : Pn) (i : Nat) : List UInt8 := mtF D (i + 1) i
theorem mt_eq {D : Pn} {i : Nat} (hl : Lo D i) : mt D i = bdP (D.K i) (D.NM i) ((D.KL i).map fun k => mt D k.toNat) ++ sgP (D.OC i) := by
  have : ((D.KL i).map fun k => mtF D i k.toNat) = (D.KL i).map fun k => mt D k.toNat := List.map_congr_left (fun k hk => by
    have := hl i (Nat.le_refl _) k hk
    exact mtF_more i (k.toNat + 1) k.toNat (lo_less hl (by omega)) (by omega) (by omega))
  show mtF D (i + 1) i = _
  rw [mtF, this]
theorem sg_len (oc : Int) : (sgP oc).length ≤ 1 := by
  unfold sgP
  repeat' split
  all_goals simp
theorem sep_len (k : Int) : (sepP k).length = 1 := by
  unfold sepP
  split <;> rfl
theorem join_snoc (ts : List (List UInt8)) (t sep : List UInt8) : Lib.join (ts ++ [t]) sep = if ts = [] then t else Lib.join ts sep ++ sep ++ t := by
  match ts with
  | [] => rw [if_pos rfl]; exact Lib.join_one t sep
  | x :: r =>
    rw [if_neg (by simp), List.cons_append, Lib.join_cons, Lib.join_cons]
    unfold Lib.joinTail
    simp
def totL : List (List UInt8) → Nat
  | [] => 0
  | t :: ts => t.length + 1 + totL ts
theorem tot_app : ∀ (a b : List (List UInt8)), totL (a ++ b) = totL a + totL b
  | [], b => by simp [totL]
  | t :: a, b => by rw [List.cons_append, totL, totL, tot_app a b]; omega
theorem join_tot (sep : List UInt8) (hs : sep.length = 1) : ∀ ts : List (List UInt8), (Lib.join ts sep).length ≤ totL ts
  | [] => by simp [Lib.join_nil, totL]
  | x :: r => by
    rw [Lib.join_length, hs]
    have : ∀ l : List (List UInt8), Lib.lens l + l.length = totL l := by
      intro l
      induction l with
      | nil => rfl
      | cons y l ih => rw [totL, ← ih]; simp [Lib.lens]; omega
    have h := this (x :: r)
    rw [List.length_cons] at h
    omega
theorem fd_tot {D : Pn} : ∀ (ks : List Int) (a f : Nat), (∀ j c, j < a → tr D j = some c → (mt D j).length + 1 ≤ 50 * (j + 1 - c)) → fd (tr D) ks a = some f → totL (ks.map fun k => mt D k.toNat) ≤ 50 * (a - f) ∧ f ≤ a
  | [], a, f, ih, h => by
    simp [fd] at h
    subst h
    exact ⟨Nat.zero_le _, Nat.le_refl _⟩
  | k :: ks, a, f, ih, h => by
    by_cases hc : 0 < a ∧ k = (a : Int) - 1
    · cases hg : tr D (a - 1) with
      | none => rw [fd_none hc hg] at h; cases h
      | some c =>
        have hca := tr_le hg
        rw [fd_yes hc hg] at h
        obtain ⟨h1, h2⟩ := fd_tot ks c f (fun j d hj => ih j d (by omega)) h
        have h3 := ih (a - 1) c (by omega) hg
        rw [List.map_cons, totL, show k.toNat = a - 1 by omega]
        exact ⟨by omega, by omega⟩
    · rw [fd_no hc] at h; cases h
theorem tot_rev : ∀ l : List (List UInt8), totL l.reverse = totL l
  | [] => rfl
  | t :: l => by rw [List.reverse_cons, tot_app, tot_rev l, totL, totL, totL]; omega
theorem nd_name {k : Int} {nm : ByteArray} {n : Nat} {oc : Int} (h : ndB k nm n oc = true) (hk : k = 1) : nm.size ≤ 40 := by
  unfold ndB at h
  rw [if_pos hk] at h
  simp only [Bool.and_eq_true] at h
  have h2 := h.2.1
  rcases Nat.lt_or_ge 40 nm.size with h3 | h3
  · rw [nameB_long nm h3] at h2; cases h2
  · exact h3
theorem mt_len {D : Pn} (hn : ∀ j, j < D.n → nodeB D j = true) (hlo : ∀ j, j < D.n → ∀ k, k ∈ D.KL j → 0 ≤ k ∧ k < (j : Int)) : ∀ (m i c : Nat), i < m → i < D.n → tr D i = some c → (mt D i).length + 1 ≤ 50 * (i + 1 - c)
  | 0, i, c, hm, hi, h => by omega
  | m + 1, i, c, hm, hi, h => by
    have hc := tr_le h
    rw [mt_eq (fun j hj => hlo j (by omega))]
    have h1 := sg_len (D.OC i)
    rw [List.length_append]
    unfold bdP
    split
    · rename_i hk
      have h2 := nd_name (hn i hi) hk
      have h3 : (D.NM i).data.toList.length = (D.NM i).size := by simp
      omega
    · split
      · simp only [List.length_cons, List.length_nil]; omega
      · have ht := h
        rw [tr_eq] at ht
        obtain ⟨h2, h3⟩ := fd_tot _ i c (fun j d hj hd => mt_len hn hlo m j d (by omega) (by omega) hd) ht
        rw [List.map_reverse, tot_rev] at h2
        have h4 := join_tot (sepP (D.K i)) (sep_len _) ((D.KL i).map fun k => mt D k.toNat)
        simp only [List.length_append, List.length_cons, List.length_nil]
        omega
/-- The texts of a node's kids are short. -/
theorem mt_kids {D : Pn} (hn : ∀ j, j < D.n → nodeB D j = true) (hlo : ∀ j, j < D.n → ∀ k, k ∈ D.KL j → 0 ≤ k ∧ k < (j : Int)) {i c : Nat} (hi : i < D.n) (h : tr D i = some c) : totL ((D.KL i).map fun k => mt D k.toNat) ≤ 50 * i := by
  have ht := h
  rw [tr_eq] at ht
  obtain ⟨h2, h3⟩ := fd_tot _ i c (fun j d hj hd => mt_len hn hlo (j + 1) j d (by omega) (by omega) hd) ht
  rw [List.map_reverse, tot_rev] at h2
  omega
theorem tot_take (l : List (List UInt8)) (m : Nat) : totL (l.take m) ≤ totL l := by
  have := tot_app (l.take m) (l.drop m)
  rw [List.take_append_drop] at this
  omega
/-- What stands in a text behind m kids. -/
theorem join_take (sep : List UInt8) (ts : List (List UInt8)) (m : Nat) (h : m < ts.length) : Lib.join (ts.take (m + 1)) sep = (if m = 0 then [] else Lib.join (ts.take m) sep ++ sep) ++ ts[m]?.getD [] := by
  rw [List.take_succ_eq_append_getElem h, join_snoc, List.getElem?_eq_getElem h]
  by_cases e : m = 0
  · subst e; simp
  · rw [if_neg (by intro h9; rw [List.take_eq_nil_iff] at h9; rcases h9 with h9 | h9; exact e h9; rw [h9] at h; simp at h), if_neg e]; rfl
end Go.Proofs.YtfohfljdgmlibaaDoor

/-
  Plain facts on the shortest rows of a model, of no program's run.
-/
namespace Go.Proofs.YtfohfljdgmlibaaDoor
set_option linter.unusedVariables false
set_option linter.unusedSimpArgs false
/-- The first of those that are shortest. -/
def lsL : List (List ByteArray) → List ByteArray
  | [] => []
  | r :: t => t.foldl (fun o x => if x.length < o.length then x else o) r
theorem lsL_cons (r : List ByteArray) (t : List (List ByteArray)) : lsL (r :: t) = t.foldl (fun o x => if x.length < o.length then x else o) r := rfl
theorem lsL_one (x : List ByteArray) : lsL [x] = x := rfl
theorem lsL_snoc (R : List (List ByteArray)) (x : List ByteArray) (h : R ≠ []) : lsL (R ++ [x]) = if x.length < (lsL R).length then x else lsL R := by
  match R, h with
  | r :: t, _ =>
    rw [List.cons_append, lsL_cons, lsL_cons, List.foldl_append]
    rfl
theorem ls_fold : ∀ (t : List (List ByteArray)) (r : List ByteArray), (t.foldl (fun o x => if x.length < o.length then x else o) r).length ≤ r.length
  | [], r => Nat.le_refl _
  | x :: t, r => by
    rw [List.foldl_cons]
    have := ls_fold t (if x.length < r.length then x else r)
    split at this <;> rename_i hh
    · rw [if_pos hh]; omega
    · rw [if_neg hh]; omega
theorem ls_len (R : List (List ByteArray)) : (lsL R).length ≤ R.flatten.length := by
  match R with
  | [] => exact Nat.le_refl _
  | r :: t =>
    have := ls_fold t r
    rw [lsL_cons, List.flatten_cons, List.length_append]
    omega
def anyT : ByteArray := ⟨#[97, 110, 121]⟩
def bdS (oc k : Int) (nm : ByteArray) (R : List (List ByteArray)) : List ByteArray := if oc = 1 ∨ oc = 2 then [] else if k = 1 then [nm] else if k = 4 then [anyT] else if k = 2 then R.flatten else lsL R
def smF (D : Pn) : Nat → Nat → List ByteArray
  | 0, _ => []
  | f + 1, i => bdS (D.OC i) (D.K i) (D.NM i) ((D.KL i).map fun k => smF D f k.toNat)
theorem smF_more {D : Pn} : ∀ (f g i : Nat), Lo D i → i < f → i < g → smF D f i = smF D g i
  | 0, g, i, hl, hf, hg => by omega
  | f + 1, 0, i, hl, hf, hg => by omega
  | f + 1, g + 1, i, hl, hf, hg => by
    have : ((D.KL i).map fun k => smF D f k.toNat) = (D.KL i).map fun k => smF D g k.toNat := List.map_congr_left (fun k hk => by
      have := hl i (Nat.le_refl _) k hk
      exact smF_more f g k.toNat (lo_less hl (by omega)) (by omega) (by omega))
    rw [smF, smF, this]
/-- The sample of a node. -/
def sm (D : Pn) (i : Nat) : List ByteArray := smF D (i + 1) i
theorem sm_eq {D : Pn} {i : Nat} (hl : Lo D i) : sm D i = bdS (D.OC i) (D.K i) (D.NM i) ((D.KL i).map fun k => sm D k.toNat) := by
  have : ((D.KL i).map fun k => smF D i k.toNat) = (D.KL i).map fun k => sm D k.toNat := List.map_congr_left (fun k hk => by
    have := hl i (Nat.le_refl _) k hk
    exact smF_more i (k.toNat + 1) k.toNat (lo_less hl (by omega)) (by omega) (by omega))
  show smF D (i + 1) i = _
  rw [smF, this]
theorem fl_rev : ∀ (R : List (List ByteArray)), R.reverse.flatten.length = R.flatten.length
  | [] => rfl
  | r :: t => by rw [List.reverse_cons, List.flatten_append, List.length_append, fl_rev t, List.flatten_cons, List.length_append]; simp; omega
theorem fd_sm {D : Pn} : ∀ (ks : List Int) (a f : Nat), (∀ j c, j < a → tr D j = some c → (sm D j).length ≤ j + 1 - c) → fd (tr D) ks a = some f → (ks.map fun k => sm D k.toNat).flatten.length ≤ a - f ∧ f ≤ a
  | [], a, f, ih, h => by
    simp [fd] at h
    subst h
    exact ⟨Nat.zero_le _, Nat.le_refl _⟩
  | k :: ks, a, f, ih, h => by
    by_cases hc : 0 < a ∧ k = (a : Int) - 1
    · cases hg : tr D (a - 1) with
      | none => rw [fd_none hc hg] at h; cases h
      | some c =>
        have hca := tr_le hg
        rw [fd_yes hc hg] at h
        obtain ⟨h1, h2⟩ := fd_sm ks c f (fun j d hj => ih j d (by omega)) h
        have h3 := ih (a - 1) c (by omega) hg
        rw [List.map_cons, List.flatten_cons, List.length_append, show k.toNat = a - 1 by omega]
        exact ⟨by omega, by omega⟩
    · rw [fd_no hc] at h; cases h
theorem sm_len {D : Pn} (hlo : ∀ j, j < D.n → ∀ k, k ∈ D.KL j → 0 ≤ k ∧ k < (j : Int)) : ∀ (m i c : Nat), i < m → i < D.n → tr D i = some c → (sm D i).length ≤ i + 1 - c ∧ ((D.KL i).map fun k => sm D k.toNat).flatten.length ≤ i
  | 0, i, c, hm, hi, h => by omega
  | m + 1, i, c, hm, hi, h => by
    have hc := tr_le h
    have ht := h
    rw [tr_eq] at ht
    obtain ⟨h2, h3⟩ := fd_sm _ i c (fun j d hj hd => (sm_len hlo m j d (by omega) (by omega) hd).1) ht
    rw [List.map_reverse, fl_rev] at h2
    refine ⟨?_, by omega⟩
    have h4 := ls_len ((D.KL i).map fun k => sm D k.toNat)
    rw [sm_eq (fun j hj => hlo j (by omega))]
    unfold bdS
    repeat' split
    · simp
    · simp; omega
    · simp; omega
    · omega
    · omega
theorem fl_take (R : List (List ByteArray)) (m : Nat) : (R.take m).flatten.length ≤ R.flatten.length := by
  have h : (R.take m).flatten ++ (R.drop m).flatten = R.flatten := by rw [← List.flatten_append, List.take_append_drop]
  have := congrArg List.length h
  rw [List.length_append] at this
  omega
theorem fl_next (R : List (List ByteArray)) (m : Nat) (h : m < R.length) : (R.take (m + 1)).flatten = (R.take m).flatten ++ R[m]?.getD [] := by
  rw [List.take_succ_eq_append_getElem h, List.flatten_append, List.getElem?_eq_getElem h]
  simp
theorem ls_next (R : List (List ByteArray)) (m : Nat) (h : m < R.length) (h0 : 0 < m) : lsL (R.take (m + 1)) = if (R[m]?.getD []).length < (lsL (R.take m)).length then R[m]?.getD [] else lsL (R.take m) := by
  rw [List.take_succ_eq_append_getElem h, lsL_snoc _ _ (by intro h9; rw [List.take_eq_nil_iff] at h9; rcases h9 with h9 | h9; omega; rw [h9] at h; simp at h), List.getElem?_eq_getElem h]
  rfl
theorem ls_first (R : List (List ByteArray)) (h : 0 < R.length) : lsL (R.take 1) = R[0]?.getD [] := by
  match R, h with
  | r :: t, _ => rfl
end Go.Proofs.YtfohfljdgmlibaaDoor
