/-
  Plain facts on what may follow a position, as the specification gathers it, of no program's run.
-/
import Derived.Test.YtfohfljdgmlibaaDoorU13
import Derived.Test.YtfohfljdgmlibaaDoorU14
namespace Go.Proofs.YtfohfljdgmlibaaDoor
set_option linter.unusedVariables false
set_option linter.unusedSimpArgs false
/-- What a node lets follow when it stands again. -/
def sgL (D : Pn) (z : Int) (i : Nat) : List Int := if 2 ≤ D.OC i ∧ z ∈ ed D true i then ed D false i else []
/-- What begins behind the a-th kid. -/
def kdL (D : Pn) (z : Int) (L : List Int) (a : Nat) : List Int := if z ∈ ed D true (L[a]?.getD 0).toNat then seqE (fun k => ed D false k.toNat) (fun k => nl D k.toNat) (L.drop (a + 1)) else []
def skL (D : Pn) (z : Int) (L : List Int) : Nat → List Int
  | 0 => []
  | a + 1 => skL D z L a ++ kdL D z L a
def ndL (D : Pn) (z : Int) (i : Nat) : List Int := sgL D z i ++ (if D.K i = 2 then skL D z (D.KL i) (D.KL i).length else [])
def foL (D : Pn) (z : Int) : Nat → List Int
  | 0 => []
  | i + 1 => foL D z i ++ ndL D z i
theorem mem_skL {D : Pn} {z q : Int} {L : List Int} : ∀ m, q ∈ skL D z L m ↔ ∃ a, a < m ∧ q ∈ kdL D z L a
  | 0 => by constructor
            · intro h; exact absurd h (List.not_mem_nil)
            · rintro ⟨a, ha, -⟩; omega
  | m + 1 => by
    rw [skL, List.mem_append, mem_skL m]
    constructor
    · rintro (⟨a, ha, h⟩ | h)
      · exact ⟨a, by omega, h⟩
      · exact ⟨m, by omega, h⟩
    · rintro ⟨a, ha, h⟩
      by_cases e : a = m
      · subst e; exact .inr h
      · exact .inl ⟨a, by omega, h⟩
theorem mem_foL {D : Pn} {z q : Int} : ∀ m, q ∈ foL D z m ↔ ∃ i, i < m ∧ q ∈ ndL D z i
  | 0 => by constructor
            · intro h; exact absurd h (List.not_mem_nil)
            · rintro ⟨a, ha, -⟩; omega
  | m + 1 => by
    rw [foL, List.mem_append, mem_foL m]
    constructor
    · rintro (⟨a, ha, h⟩ | h)
      · exact ⟨a, by omega, h⟩
      · exact ⟨m, by omega, h⟩
    · rintro ⟨a, ha, h⟩
      by_cases e : a = m
      · subst e; exact .inr h
      · exact .inl ⟨a, by omega, h⟩
theorem mem_ndL {D : Pn} {z q : Int} {i : Nat} : q ∈ ndL D z i ↔ OwP D i z q := by
  unfold ndL OwP
  rw [List.mem_append]
  refine or_congr ?_ ?_
  · unfold sgL
    split
    · rename_i h; exact ⟨fun hq => ⟨h.1, h.2, hq⟩, fun hq => hq.2.2⟩
    · rename_i h; exact ⟨fun hq => absurd hq (List.not_mem_nil), fun hq => absurd ⟨hq.1, hq.2.1⟩ h⟩
  · by_cases hk : D.K i = 2
    · rw [if_pos hk, mem_skL, ow_spec (L := D.KL i) (nul := fun k => nl D k.toNat) (g := fun k => ed D true k.toNat) (h := fun k => ed D false k.toNat) (p := z) (q := q)]
      constructor
      · rintro ⟨a, ha, h⟩
        unfold kdL at h
        split at h
        · rename_i hz
          refine ⟨hk, (D.KL i).take a, (D.KL i)[a], (D.KL i).drop (a + 1), ?_, ?_, h⟩
          · rw [← List.drop_eq_getElem_cons ha, List.take_append_drop]
          · rw [List.getElem?_eq_getElem ha] at hz; exact hz
        · exact absurd h (List.not_mem_nil)
      · rintro ⟨-, L1, a, R, e, h1, h2⟩
        refine ⟨L1.length, by rw [e]; simp, ?_⟩
        unfold kdL
        rw [e, List.getElem?_append_right (Nat.le_refl _), Nat.sub_self, List.getElem?_cons_zero]
        have e2 : (L1 ++ a :: R).drop (L1.length + 1) = R := by
          rw [List.drop_append]
          simp
        rw [e2]
        show q ∈ (if z ∈ ed D true a.toNat then _ else _)
        rw [if_pos h1]
        exact h2
    · rw [if_neg hk]
      exact ⟨fun h => absurd h (List.not_mem_nil), fun h => absurd h.1 hk⟩
theorem mem_root {D : Pn} (h : pkB D = true) {p q : Int} : q ∈ foL D p D.n ↔ lk D (D.n - 1) p q := by
  have h1 := (pk_facts h).1
  rw [mem_foL]
  constructor
  · rintro ⟨i, hi, hq⟩
    exact tr_lk (D.n) (D.n - 1) 0 (by omega) (lo_root h) (pk_facts h).2.2.1 i (Nat.zero_le _) (by omega) (mem_ndL.1 hq)
  · intro hq
    obtain ⟨j, hj, h2⟩ := lk_node (D.n) (D.n - 1) (by omega) (lo_root h) hq
    exact ⟨j, by omega, mem_ndL.2 h2⟩
theorem fd_klen {g : Nat → Option Nat} : ∀ (ks : List Int) (a f : Nat), (∀ j c, j < a → g j = some c → c ≤ j) → fd g ks a = some f → ks.length ≤ a
  | [], a, f, _, _ => by simp
  | k :: ks, a, f, h2, h => by
    by_cases hc : 0 < a ∧ k = (a : Int) - 1
    · cases hg : g (a - 1) with
      | none => rw [fd_none hc hg] at h; cases h
      | some c =>
        have hb := h2 _ c (by omega) hg
        rw [fd_yes hc hg] at h
        have := fd_klen ks c f (fun j d hj => h2 j d (by omega)) h
        rw [List.length_cons]
        omega
    · rw [fd_no hc] at h; cases h
theorem rn_klen {D : Pn} {n : Nat} (h : RN D n) {i : Nat} (hi : i < n) : (D.KL i).length ≤ 40 := by
  obtain ⟨c, hc⟩ := h.2.2.2.2.1 i hi
  rw [tr_eq] at hc
  have := fd_klen _ i c (fun j d _ hd => tr_le hd) hc
  rw [List.length_reverse] at this
  have := h.2.1
  omega
theorem flat_drop (g : Int → List Int) (M : List Int) (k : Nat) : ((M.drop k).map g).flatten.length ≤ (M.map g).flatten.length := by
  have h : ((M.take k).map g).flatten ++ ((M.drop k).map g).flatten = (M.map g).flatten := by rw [← List.flatten_append, ← List.map_append, List.take_append_drop]
  have := congrArg List.length h
  rw [List.length_append] at this
  omega
theorem rn_flat {D : Pn} {n : Nat} {rev : Bool} (hRN : RN D n) {i : Nat} (hi : i < n) : ((D.KL i).map fun k => ed D rev k.toNat).flatten.length ≤ 40 := by
  obtain ⟨cc, hcc⟩ := hRN.2.2.2.2.1 i hi
  have := (ed_len (rev := rev) (by rw [hRN.1]; exact hRN.2.2.2.1) (i + 1) i cc (by omega) (by rw [hRN.1]; exact hi) hcc).2
  have := hRN.2.1
  omega
theorem rn_seq {D : Pn} {n : Nat} (hRN : RN D n) {i : Nat} (hi : i < n) (a m : Nat) : (seqE (fun k => ed D false k.toNat) (fun k => nl D k.toNat) (((D.KL i).drop a).take m)).length ≤ 40 :=
  Nat.le_trans (seqE_len _) (Nat.le_trans (flat_take _ _ _) (Nat.le_trans (flat_drop _ _ _) (rn_flat hRN hi)))
theorem kdL_len {D : Pn} {n : Nat} (hRN : RN D n) {i : Nat} (hi : i < n) (z : Int) (a : Nat) : (kdL D z (D.KL i) a).length ≤ 40 := by
  unfold kdL
  split
  · have := rn_seq hRN hi (a + 1) (D.KL i).length
    rwa [List.take_of_length_le (by rw [List.length_drop]; omega)] at this
  · simp
theorem skL_len {D : Pn} {n : Nat} (hRN : RN D n) {i : Nat} (hi : i < n) (z : Int) : ∀ m, (skL D z (D.KL i) m).length ≤ 40 * m
  | 0 => by simp [skL]
  | m + 1 => by
    rw [skL, List.length_append]
    have h1 := skL_len hRN hi z m
    have h2 := kdL_len hRN hi z m
    omega
theorem ed_small9 {D : Pn} {n : Nat} {rev : Bool} (hRN : RN D n) {i : Nat} (hi : i < n) : (ed D rev i).length ≤ 40 := by
  obtain ⟨cc, hcc⟩ := hRN.2.2.2.2.1 i hi
  have := (ed_len (rev := rev) (by rw [hRN.1]; exact hRN.2.2.2.1) (i + 1) i cc (by omega) (by rw [hRN.1]; exact hi) hcc).1
  have := hRN.2.1
  omega
theorem sgL_len {D : Pn} {n : Nat} (hRN : RN D n) {i : Nat} (hi : i < n) (z : Int) : (sgL D z i).length ≤ 40 := by
  unfold sgL
  split
  · exact ed_small9 hRN hi
  · simp
theorem foL_len {D : Pn} {n : Nat} (hRN : RN D n) (z : Int) : ∀ m, m ≤ n → (foL D z m).length ≤ 1640 * m
  | 0, _ => by simp [foL]
  | m + 1, hm => by
    rw [foL, List.length_append]
    have h1 := foL_len hRN z m (by omega)
    have h2 := sgL_len hRN (i := m) (by omega) z
    have h3 := skL_len hRN (i := m) (by omega) z (D.KL m).length
    have h4 := rn_klen hRN (i := m) (by omega)
    have h5 : (ndL D z m).length ≤ 1640 := by
      unfold ndL
      rw [List.length_append]
      split
      · omega
      · simp; omega
    omega
/-- Only leaves are positions. -/
theorem ed_leaves {D : Pn} {rev : Bool} (hk : ∀ j, j < D.n → D.K j = 1 ∨ D.K j = 2 ∨ D.K j = 3 ∨ D.K j = 4) : ∀ (m i : Nat), i < m → i < D.n → Lo D i → ∀ x ∈ ed D rev i, D.K x.toNat = 1 ∨ D.K x.toNat = 4
  | 0, i, hm, _, _ => by omega
  | m + 1, i, hm, hi, hl => by
    intro x hx
    rw [ed_eq hl] at hx
    unfold bdE at hx
    split at hx
    · obtain ⟨L1, k, L2, e, -, hx⟩ := mem_seqE.1 hx
      have hk2 := hl i (Nat.le_refl _) k (mem_ordL.1 (by rw [e]; simp))
      exact ed_leaves hk m k.toNat (by omega) (by omega) (lo_less hl (by omega)) x hx
    · rename_i hn
      simp at hx
      subst hx
      have := hk i hi
      simp only [Int.toNat_natCast]
      omega
theorem lk_leaf {D : Pn} {n : Nat} (hRN : RN D n) {p q : Int} (hn : 1 ≤ n) (h : lk D (n - 1) p q) : 0 ≤ p ∧ p < (n : Int) ∧ (D.K p.toNat = 1 ∨ D.K p.toNat = 4) := by
  have hlo : Lo D (n - 1) := fun j hj => hRN.2.2.2.1 j (by omega)
  have hkk : ∀ j, j < D.n → D.K j = 1 ∨ D.K j = 2 ∨ D.K j = 3 ∨ D.K j = 4 := fun j hj => rn_kinds hRN (by rw [← hRN.1]; exact hj)
  obtain ⟨j, hj, h8⟩ := lk_node n (n - 1) (by omega) hlo h
  rcases h8 with ⟨-, h8, -⟩ | ⟨-, L1, a, L2, b, L3, e9, -, h8, -⟩
  · have h1 := ed_range (j + 1) j (by omega) (lo_less hlo hj) _ h8
    exact ⟨h1.1, by omega, ed_leaves hkk (j + 1) j (by omega) (by rw [hRN.1]; omega) (lo_less hlo hj) _ h8⟩
  · have hk := hlo j hj a (by rw [e9]; simp)
    have h1 := ed_range (a.toNat + 1) a.toNat (by omega) (lo_less hlo (by omega)) _ h8
    exact ⟨h1.1, by omega, ed_leaves hkk (a.toNat + 1) a.toNat (by omega) (by rw [hRN.1]; omega) (lo_less hlo (by omega)) _ h8⟩
def posB (D : Pn) (x : Int) : Bool := decide (0 ≤ x ∧ x ≤ (D.n : Int) - 1) && decide (D.K x.toNat = 1 ∨ D.K x.toNat = 4)
/-- What may follow a position of a model. -/
def flV (D : Pn) (x : Int) : List Int := if pkB D = true ∧ posB D x = true then srtL (foL D x D.n) else []
theorem foL_range {D : Pn} (h : pkB D = true) {x : Int} : ∀ z ∈ foL D x D.n, 0 ≤ z ∧ z < (D.n : Int) := by
  intro z hz
  have h1 := (pk_facts h).1
  have hlo := lo_root h
  obtain ⟨j, hj, h8⟩ := lk_node D.n (D.n - 1) (by omega) hlo ((mem_root h).1 hz)
  rcases h8 with ⟨-, -, h8⟩ | ⟨-, L1, a, L2, b, L3, e9, -, -, h8⟩
  · have h1 := ed_range (j + 1) j (by omega) (lo_less hlo hj) _ h8
    omega
  · have hk := hlo j hj b (by rw [e9]; simp)
    have h1 := ed_range (b.toNat + 1) b.toNat (by omega) (lo_less hlo (by omega)) _ h8
    omega
theorem flV_len {D : Pn} {x : Int} : (flV D x).length ≤ 40 := by
  unfold flV
  split
  · rename_i h
    have := sorted_len (n := D.n) (srt_sorted (foL D x D.n)) (fun z hz => foL_range h.1 z ((srt_mem _ z).1 hz))
    have := (pk_facts h.1).1
    omega
  · simp
/-- The program's ways tell the same. -/
theorem tk_follow {D : Pn} {F : Nat → Nat} {e : Nat} (hpk : pkB D = true) (hT : TkOf D F e) {x : Nat} (hx : x < D.n) : bts (F x) = flV D x ∧ F x < 18446744073709551616 := by
  have hn := (pk_facts hpk).1
  obtain ⟨h1, h2⟩ := hT.1 x (by omega)
  have hb : BitS (F x) (foL D x D.n) := ⟨h1, fun q => by rw [h2 q, mem_root hpk]⟩
  refine ⟨?_, Nat.lt_of_lt_of_le h1 (by decide)⟩
  rw [bts_srt hb (fun z hz => (foL_range hpk z hz).1)]
  unfold flV
  by_cases hp : posB D x = true
  · rw [if_pos ⟨hpk, hp⟩]
  · rw [if_neg (fun h => hp h.2)]
    have : foL D x D.n = [] := by
      rw [List.eq_nil_iff_forall_not_mem]
      intro q hq
      have hRN : RN D D.n := ⟨rfl, hn.2, (pk_facts hpk).2.1, fun j hj => (pk_lo hpk j hj).2, fun j hj => (pk_lo hpk j hj).1, fun j hj => by
        obtain ⟨c, hc⟩ := (pk_lo hpk j hj).1
        rw [tr_eq] at hc
        have := fd_klen _ j c (fun j d _ hd => tr_le hd) hc
        rw [List.length_reverse] at this
        omega⟩
      have := lk_leaf hRN hn.1 ((mem_root hpk).1 hq)
      apply hp
      unfold posB
      rw [decide_eq_true (by omega), decide_eq_true this.2.2]
      rfl
    rw [this]
    rfl
end Go.Proofs.YtfohfljdgmlibaaDoor
