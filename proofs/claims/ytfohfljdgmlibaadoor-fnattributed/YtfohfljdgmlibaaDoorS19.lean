/-
  Texts put together: AtM, PoM.
-/
import Derived.Test.YtfohfljdgmlibaaDoorS18
import Derived.Test.YtfohfljdgmlibaaDoorS17
import Derived.Test.YtfohfljdgmlibaaDoorS13
/-
  Plain facts on which position takes which name in a clear model, of no program's run.
-/
namespace Go.Proofs.YtfohfljdgmlibaaDoor
set_option linter.unusedVariables false
set_option linter.unusedSimpArgs false
/-- A name leads to a position. -/
def mz (D : Pn) (s : ByteArray) (z : Int) : Bool := decide (D.K z.toNat = 4) || ((D.NM z.toNat).toList == s.toList)
/-- The last of a row's first positions that a name leads to. -/
def pkN (D : Pn) (s : ByteArray) (L : List Int) : Nat → Int
  | 0 => -1
  | k + 1 => if mz D s (L[k]?.getD 0) = true then L[k]?.getD 0 else pkN D s L k
def pkA (D : Pn) (s : ByteArray) (L : List Int) : Int := pkN D s L L.length
def stp (D : Pn) : Option Int → List Int
  | none => foV D
  | some p => flV D p
def trA (D : Pn) (W : List ByteArray) : Nat → Option (List Int)
  | 0 => some []
  | t + 1 => match trA D W t with
    | none => none
    | some L => if pkA D (W[t]?.getD ⟨#[]⟩) (stp D L.getLast?) < 0 then none else some (L ++ [pkA D (W[t]?.getD ⟨#[]⟩) (stp D L.getLast?)])
def finA (D : Pn) (L : List Int) : Bool := match L.getLast? with
  | none => nl D (D.n - 1)
  | some z => decide (z ∈ laV D)
/-- Which positions take the names: none, where the model does not take them. -/
def arA (D : Pn) (W : List ByteArray) : Option (List Int) := if clB D = true ∧ W.length ≤ 200 then (match trA D W W.length with
  | none => none
  | some L => if finA D L = true then some L else none) else none
theorem apB_get {D : Pn} {L : List Int} (h : apB D L = true) {i k : Nat} (hi : i < L.length) (hk : k < i) : apP D (L[i]?.getD 0) (L[k]?.getD 0) = true := by
  cases hh : apP D (L[i]?.getD 0) (L[k]?.getD 0)
  · rw [apB_no hi hk hh] at h; cases h
  · rfl
theorem apP_not {D : Pn} {s : ByteArray} {x y : Int} (h : apP D x y = true) (hx : mz D s x = true) (hy : mz D s y = true) : False := by
  unfold apP at h
  unfold mz at hx hy
  simp only [Bool.and_eq_true, decide_eq_true_eq, Bool.not_eq_true', Bool.or_eq_true, beq_iff_eq] at h hx hy
  obtain ⟨h1, h2, h3⟩ := h
  rcases hx with hx | hx
  · exact h1 hx
  · rcases hy with hy | hy
    · exact h2 hy
    · rw [hx, hy] at h3
      simp at h3
theorem ap_two {D : Pn} {L : List Int} {s : ByteArray} (h : apB D L = true) {x y : Int} (hx : x ∈ L) (hy : y ∈ L) (h1 : mz D s x = true) (h2 : mz D s y = true) : x = y := by
  obtain ⟨i, hi, rfl⟩ := List.getElem_of_mem hx
  obtain ⟨k, hk, rfl⟩ := List.getElem_of_mem hy
  rcases Nat.lt_trichotomy i k with h3 | h3 | h3
  · have := apB_get h hk h3
    rw [List.getElem?_eq_getElem hi, List.getElem?_eq_getElem hk] at this
    exact (apP_not this h2 h1).elim
  · subst h3; rfl
  · have := apB_get h hi h3
    rw [List.getElem?_eq_getElem hi, List.getElem?_eq_getElem hk] at this
    exact (apP_not this h1 h2).elim
theorem pkN_spec (D : Pn) (s : ByteArray) (L : List Int) : ∀ k, k ≤ L.length → (pkN D s L k = -1 ∧ ∀ j, j < k → mz D s (L[j]?.getD 0) = false) ∨ ∃ j, j < k ∧ pkN D s L k = L[j]?.getD 0 ∧ mz D s (L[j]?.getD 0) = true
  | 0, _ => .inl ⟨rfl, fun j hj => by omega⟩
  | k + 1, hk => by
    rw [pkN]
    cases hm : mz D s (L[k]?.getD 0)
    · rw [if_neg (by simp)]
      rcases pkN_spec D s L k (by omega) with ⟨h1, h2⟩ | ⟨j, h1, h2, h3⟩
      · refine .inl ⟨h1, fun j hj => ?_⟩
        by_cases e : j = k
        · subst e; exact hm
        · exact h2 j (by omega)
      · exact .inr ⟨j, by omega, h2, h3⟩
    · rw [if_pos rfl]
      exact .inr ⟨k, by omega, rfl, hm⟩
theorem pk_spec {D : Pn} {s : ByteArray} {L : List Int} (hap : apB D L = true) : (pkA D s L = -1 ∧ ∀ z ∈ L, mz D s z = false) ∨ ∃ z ∈ L, pkA D s L = z ∧ ∀ y ∈ L, mz D s y = true ↔ y = z := by
  rcases pkN_spec D s L L.length (Nat.le_refl _) with ⟨h1, h2⟩ | ⟨j, h1, h2, h3⟩
  · refine .inl ⟨h1, fun z hz => ?_⟩
    obtain ⟨i, hi, rfl⟩ := List.getElem_of_mem hz
    have := h2 i hi
    rw [List.getElem?_eq_getElem hi] at this
    exact this
  · rw [List.getElem?_eq_getElem h1] at h2 h3
    have hm : L[j] ∈ L := List.getElem_mem h1
    exact .inr ⟨L[j], hm, h2, fun y hy => ⟨fun h => ap_two hap hy hm h h3, fun h => by rw [h]; exact h3⟩⟩
theorem rn_self {D : Pn} (hpk : pkB D = true) : RN D D.n := by
  have hn := (pk_facts hpk).1
  exact ⟨rfl, hn.2, (pk_facts hpk).2.1, fun j hj => (pk_lo hpk j hj).2, fun j hj => (pk_lo hpk j hj).1, fun j hj => by
    obtain ⟨c, hc⟩ := (pk_lo hpk j hj).1
    rw [tr_eq] at hc
    have := fd_klen _ j c (fun j d _ hd => tr_le hd) hc
    rw [List.length_reverse] at this
    omega⟩
theorem pos_of {D : Pn} {x : Int} (h1 : 0 ≤ x) (h2 : x < (D.n : Int)) (h3 : D.K x.toNat = 1 ∨ D.K x.toNat = 4) : posB D x = true := by
  unfold posB
  rw [decide_eq_true (by omega), decide_eq_true h3]
  rfl
theorem of_pos {D : Pn} {x : Int} (h : posB D x = true) : 0 ≤ x ∧ x < (D.n : Int) ∧ (D.K x.toNat = 1 ∨ D.K x.toNat = 4) := by
  unfold posB at h
  rw [Bool.and_eq_true, decide_eq_true_eq, decide_eq_true_eq] at h
  exact ⟨h.1.1, by omega, h.2⟩
theorem ed_posB {D : Pn} {rev : Bool} (hpk : pkB D = true) {i : Nat} (hi : i < D.n) {x : Int} (hx : x ∈ ed D rev i) : posB D x = true := by
  have hn := (pk_facts hpk).1
  have hlo : Lo D i := lo_less (lo_root hpk) (by omega)
  have h1 := ed_range (i + 1) i (by omega) hlo x hx
  exact pos_of h1.1 (by omega) (ed_leaves (fun j hj => rn_kinds (rn_self hpk) hj) (i + 1) i (by omega) hi hlo x hx)
theorem lk_posB {D : Pn} (hpk : pkB D = true) {p q : Int} (h : lk D (D.n - 1) p q) : posB D q = true := by
  have hn := (pk_facts hpk).1
  obtain ⟨j, hj, h8⟩ := lk_node D.n (D.n - 1) (by omega) (lo_root hpk) h
  rcases h8 with ⟨-, -, h8⟩ | ⟨-, L1, a, L2, b, L3, e9, -, -, h8⟩
  · exact ed_posB hpk (by omega) h8
  · have hk := lo_root hpk j hj b (by rw [e9]; simp)
    exact ed_posB hpk (by omega) h8
theorem stp_pos {D : Pn} (hpk : pkB D = true) : ∀ (o : Option Int) (z : Int), z ∈ stp D o → posB D z = true
  | none, z, hz => by
    have hn := (pk_facts hpk).1
    unfold stp foV at hz
    rw [if_pos hpk, srt_mem] at hz
    exact ed_posB hpk (by omega) hz
  | some p, z, hz => by
    have hz : z ∈ flV D p := hz
    unfold flV at hz
    split at hz
    · rw [srt_mem, mem_root hpk] at hz
      exact lk_posB hpk hz
    · exact absurd hz (List.not_mem_nil)
theorem clB_pk {D : Pn} (h : clB D = true) : pkB D = true := by unfold clB at h; rw [Bool.and_eq_true] at h; exact h.1
theorem stp_ap {D : Pn} (h : clB D = true) : ∀ (o : Option Int), apB D (stp D o) = true
  | none => by unfold clB at h; rw [Bool.and_eq_true, Bool.and_eq_true] at h; exact h.2.1
  | some p => by
    show apB D (flV D p) = true
    cases hp : posB D p
    · rw [flV_nopos hp]; rfl
    · obtain ⟨h1, h2, -⟩ := of_pos hp
      unfold clB at h
      rw [Bool.and_eq_true, Bool.and_eq_true, List.all_eq_true] at h
      have := h.2.2 p.toNat (by simp; omega)
      rw [Int.toNat_of_nonneg h1, hp] at this
      simpa using this
theorem mz_mt {D : Pn} {s : ByteArray} {q : Nat} (h : posB D q = true) : mtP D s q = mz D s q := by
  obtain ⟨h1, h2, h3⟩ := of_pos h
  have h4 : mz D s q = (decide (D.K q = 4) || ((D.NM q).toList == s.toList)) := rfl
  have h3 : D.K q = 1 ∨ D.K q = 4 := h3
  rw [h4]
  unfold mtP
  rw [decide_eq_true (show q < D.n by omega)]
  rcases h3 with h3 | h3
  · simp [h3]
  · simp [h3]
theorem bts_one {k : Nat} (hk : k < 64) : bts (2 ^ k) = [(k : Int)] := by
  have h64 : (2 : Nat) ^ k < 18446744073709551616 := Nat.lt_of_lt_of_le (Nat.pow_lt_pow_right (by decide) hk) (by decide)
  have h0 : (2 : Nat) ^ k ≠ 0 := Nat.pos_iff_ne_zero.1 (Nat.pow_pos (by decide))
  have h1 := (ctz_bit h0 h64).1
  rw [Nat.testBit_two_pow, decide_eq_true_eq] at h1
  have h2 : cutB (2 ^ k) = 0 := by
    apply Nat.eq_of_testBit_eq
    intro j
    rw [cut_bit h0 h64, Nat.testBit_two_pow, Nat.zero_testBit, ← h1]
    by_cases e : k = j
    · subst e; simp
    · simp [e]
  rw [bts_step h0, h2, bts_zero, ← h1]
def hxA (L : List Int) : Nat := match L.getLast? with
  | none => 1099511627776
  | some z => 2 ^ z.toNat
def plA (L : List Int) : Nat := match L.getLast? with
  | none => 40
  | some z => z.toNat
theorem hx_pl (L : List Int) : hxA L = 2 ^ plA L := by
  unfold hxA plA
  cases L.getLast? <;> rfl
/-- While the names are taken: the positions so far, and the last one as a set of its own; or none. -/
def InA (D : Pn) (W : List ByteArray) (t x : Nat) (L : List Int) : Prop := (trA D W t = some L ∧ (∀ z ∈ L, posB D z = true) ∧ L.length = t ∧ x = hxA L) ∨ (trA D W t = none ∧ x = 0 ∧ L.length ≤ t)
theorem inA_zero (D : Pn) (W : List ByteArray) : InA D W 0 1099511627776 [] := .inl ⟨rfl, fun z hz => absurd hz (List.not_mem_nil), rfl, rfl⟩
theorem last_pos {D : Pn} {L : List Int} (h : ∀ z ∈ L, posB D z = true) {z : Int} (hz : L.getLast? = some z) : posB D z = true := h z (List.mem_of_getLast? hz)
theorem pl_lt {D : Pn} {L : List Int} (hn : D.n ≤ 40) (h : ∀ z ∈ L, posB D z = true) : plA L < 41 := by
  unfold plA
  cases hl : L.getLast? with
  | none => show 40 < 41; omega
  | some z => have := of_pos (last_pos h hl); show z.toNat < 41; omega
theorem inA_lt {D : Pn} {W : List ByteArray} {t x : Nat} {L : List Int} (hn : D.n ≤ 40) (h : InA D W t x L) : x < 2199023255552 := by
  rcases h with ⟨-, h1, -, rfl⟩ | ⟨-, rfl, -⟩
  · rw [hx_pl]
    exact Nat.lt_of_lt_of_le (Nat.pow_lt_pow_right (by decide) (pl_lt hn h1)) (by decide)
  · decide
theorem inA_len {D : Pn} {W : List ByteArray} {t x : Nat} {L : List Int} (h : InA D W t x L) : L.length ≤ t := by
  rcases h with ⟨-, -, h, -⟩ | ⟨-, -, h⟩ <;> omega
theorem tk_stp {D : Pn} {F : Nat → Nat} {e : Nat} (hpk : pkB D = true) (hT : TkOf D F e) {L : List Int} (h : ∀ z ∈ L, posB D z = true) : bts (F (plA L)) = stp D L.getLast? ∧ F (plA L) < 18446744073709551616 := by
  unfold plA
  cases hl : L.getLast? with
  | none =>
    have hb := hT.2.1
    refine ⟨?_, Nat.lt_of_lt_of_le hb.1 (by decide)⟩
    show bts (F 40) = foV D
    unfold foV
    rw [if_pos hpk]
    exact bts_srt hb (ed_pos hpk)
  | some z =>
    have h1 := of_pos (last_pos h hl)
    have := tk_follow hpk hT (x := z.toNat) (by omega)
    rw [Int.toNat_of_nonneg h1.1] at this
    exact this
theorem inA_next {D : Pn} {W : List ByteArray} {F : Nat → Nat} {e t x y : Nat} {L : List Int} (hc : clB D = true) (hT : TkOf D F e) (h : InA D W t x L) (hb : ∀ q, y.testBit q = true ↔ (∃ p : Nat, p < 41 ∧ x.testBit p = true ∧ (F p).testBit q = true) ∧ mtP D (W[t]?.getD ⟨#[]⟩) q = true) : InA D W (t + 1) y (L ++ bts y) := by
  have hpk := clB_pk hc
  have hn := (pk_facts hpk).1
  rcases h with ⟨h1, h2, h3, rfl⟩ | ⟨h1, rfl, h3⟩
  · obtain ⟨hs, hlt⟩ := tk_stp hpk hT h2
    have hpl := pl_lt hn.2 h2
    have hy : ∀ q : Nat, y.testBit q = true ↔ (q : Int) ∈ stp D L.getLast? ∧ mz D (W[t]?.getD ⟨#[]⟩) q = true := fun q => by
      rw [hb q, ← hs, bts_mem _ _ (Nat.lt_succ_self _) hlt]
      constructor
      · rintro ⟨⟨p, hp, h4, h5⟩, h6⟩
        rw [hx_pl, Nat.testBit_two_pow, decide_eq_true_eq] at h4
        subst h4
        have hm : (q : Int) ∈ stp D L.getLast? := by rw [← hs, bts_mem _ _ (Nat.lt_succ_self _) hlt]; exact ⟨q, rfl, h5⟩
        rw [mz_mt (stp_pos hpk _ _ hm)] at h6
        exact ⟨⟨q, rfl, h5⟩, h6⟩
      · rintro ⟨⟨j, h4, h5⟩, h6⟩
        have : j = q := by omega
        subst this
        have hm : (j : Int) ∈ stp D L.getLast? := by rw [← hs, bts_mem _ _ (Nat.lt_succ_self _) hlt]; exact ⟨j, rfl, h5⟩
        exact ⟨⟨plA L, hpl, by rw [hx_pl, Nat.testBit_two_pow, decide_eq_true_eq], h5⟩, by rw [mz_mt (stp_pos hpk _ _ hm)]; exact h6⟩
    rcases pk_spec (s := W[t]?.getD ⟨#[]⟩) (stp_ap hc L.getLast?) with ⟨h4, h5⟩ | ⟨z, h4, h5, h6⟩
    · have hy0 : y = 0 := by
        apply Nat.eq_of_testBit_eq
        intro q
        rw [Nat.zero_testBit]
        cases hq : y.testBit q
        · rfl
        · have := (hy q).1 hq
          rw [h5 _ this.1] at this
          cases this.2
      refine .inr ⟨?_, hy0, ?_⟩
      · show (match trA D W t with | none => none | some L => _) = none
        rw [h1]
        show (if _ then _ else _) = none
        rw [h4]
        rfl
      · rw [hy0, bts_zero, List.append_nil]; omega
    · have hz := of_pos (stp_pos hpk _ _ h4)
      have hy0 : y = 2 ^ z.toNat := by
        apply Nat.eq_of_testBit_eq
        intro q
        rw [Nat.testBit_two_pow, Bool.eq_iff_iff, hy q, decide_eq_true_eq]
        constructor
        · rintro ⟨h7, h8⟩
          have := (h6 _ h7).1 h8
          omega
        · intro h7
          have h8 : (q : Int) = z := by omega
          rw [h8]
          exact ⟨h4, (h6 z h4).2 rfl⟩
      have hbt : bts y = [z] := by
        rw [hy0, bts_one (by omega), Int.toNat_of_nonneg hz.1]
      rw [hbt]
      refine .inl ⟨?_, ?_, by simp [h3], ?_⟩
      · show (match trA D W t with | none => none | some L => _) = _
        rw [h1]
        show (if _ then _ else _) = _
        rw [h5, if_neg (by omega)]
      · intro u hu
        rcases List.mem_append.1 hu with hu | hu
        · exact h2 u hu
        · simp at hu; subst hu; exact stp_pos hpk _ _ h4
      · have hl : (L ++ [z]).getLast? = some z := by simp
        rw [hy0]
        unfold hxA
        rw [hl]
  · have hy0 : y = 0 := by
      apply Nat.eq_of_testBit_eq
      intro q
      rw [Nat.zero_testBit]
      cases hq : y.testBit q
      · rfl
      · obtain ⟨⟨p, -, h4, -⟩, -⟩ := (hb q).1 hq
        rw [Nat.zero_testBit] at h4
        cases h4
    refine .inr ⟨?_, hy0, ?_⟩
    · show (match trA D W t with | none => none | some L => _) = none
      rw [h1]
    · rw [hy0, bts_zero, List.append_nil]; omega
theorem inA_end {D : Pn} {W : List ByteArray} {F : Nat → Nat} {e x : Nat} {L : List Int} (hc : clB D = true) (hl : W.length ≤ 200) (hT : TkOf D F e) (h : InA D W W.length x L) : (decide (x &&& e ≠ 0) = true → arA D W = some L) ∧ (decide (x &&& e ≠ 0) = false → arA D W = none) := by
  have hpk := clB_pk hc
  have hn := (pk_facts hpk).1
  unfold arA
  rw [if_pos ⟨hc, hl⟩]
  rcases h with ⟨h1, h2, h3, rfl⟩ | ⟨h1, rfl, h3⟩
  · rw [h1]
    have key : decide (hxA L &&& e ≠ 0) = finA D L := by
      obtain ⟨-, -, l, hl9, rfl⟩ := hT
      unfold hxA finA
      cases hla : L.getLast? with
      | none => exact end_bit hl9
      | some z =>
        show decide (2 ^ z.toNat &&& _ ≠ 0) = decide (z ∈ laV D)
        have hz := of_pos (last_pos h2 hla)
        have hbit : (thL (nl D (D.n - 1)) l 1099511627776).testBit z.toNat = l.testBit z.toNat := by
          unfold thL
          split
          · rw [Nat.testBit_or, show (1099511627776 : Nat) = 2 ^ 40 by decide, Nat.testBit_two_pow, decide_eq_false (by omega), Bool.or_false]
          · rfl
        rw [decide_eq_decide]
        unfold laV
        rw [if_pos hpk, srt_mem]
        have hiff : z ∈ ed D true (D.n - 1) ↔ (thL (nl D (D.n - 1)) l 1099511627776).testBit z.toNat = true := by
          rw [hbit, hl9.2 z.toNat, Int.toNat_of_nonneg hz.1]
        rw [hiff]
        constructor
        · intro h
          obtain ⟨q, hq⟩ := Nat.exists_testBit_of_ne_zero h
          rw [Nat.testBit_and, Bool.and_eq_true, Nat.testBit_two_pow, decide_eq_true_eq] at hq
          rw [hq.1]; exact hq.2
        · intro h h0
          have := congrArg (fun v => Nat.testBit v z.toNat) h0
          simp [Nat.testBit_and, Nat.testBit_two_pow, h] at this
    rw [key]
    refine ⟨fun h => ?_, fun h => ?_⟩
    · show (if finA D L = true then some L else none) = some L
      rw [if_pos h]
    · show (if finA D L = true then some L else none) = none
      rw [if_neg (by rw [h]; simp)]
  · rw [h1]
    exact ⟨fun h => (by simp at h), fun _ => rfl⟩
end Go.Proofs.YtfohfljdgmlibaaDoor

/-
  Plain facts on rows of names and the positions that they lead to: what the law goes through, round by round.
-/
namespace Go.Proofs.YtfohfljdgmlibaaDoor
open Go.RowKit
set_option linter.unusedVariables false
set_option linter.unusedSimpArgs false
/-- The positions that may come next, behind so many names. -/
def nxP (D : Pn) (W : List ByteArray) (t q : Nat) : Prop := (t = 0 ∧ (q : Int) ∈ ed D false (D.n - 1)) ∨ ∃ p, rch D W t p ∧ lk D (D.n - 1) p q
def NowR (D : Pn) (W : List ByteArray) (t : Nat) (N : List Int) : Prop := (∀ z ∈ N, 0 ≤ z ∧ z < (D.n : Int)) ∧ ∀ q : Nat, (q : Int) ∈ N ↔ nxP D W t q
def atL (D : Pn) (s : ByteArray) (N : List Int) : List Int := N.filter fun z => mtP D s z.toNat
def nxL (D : Pn) (A : List Int) : List Int := (A.map (flV D)).flatten
theorem now_zero {D : Pn} {W : List ByteArray} (hp : pkB D = true) : NowR D W 0 (foV D) := by
  have hf : foV D = srtL (ed D false (D.n - 1)) := by unfold foV; rw [if_pos hp]
  refine ⟨foV_range hp, fun q => ?_⟩
  rw [hf, srt_mem]
  constructor
  · intro h; exact .inl ⟨rfl, h⟩
  · rintro (⟨-, h⟩ | ⟨p, h, -⟩)
    · exact h
    · exact h.elim
theorem at_iff {D : Pn} {W : List ByteArray} {t : Nat} {N : List Int} (h : NowR D W t N) (ht : t < W.length) (q : Nat) : (q : Int) ∈ atL D (W[t]?.getD ⟨#[]⟩) N ↔ rch D W (t + 1) q := by
  unfold atL
  rw [List.mem_filter, h.2 q]
  show _ ∧ mtP D _ (((q : Int)).toNat) = true ↔ nxP D W t q ∧ mtN D W q t
  rw [show ((q : Int)).toNat = q by omega]
  constructor
  · rintro ⟨h1, h2⟩; exact ⟨h1, ht, h2⟩
  · rintro ⟨h1, h2⟩; exact ⟨h1, h2.2⟩
theorem mt_pos {D : Pn} {s : ByteArray} {q : Nat} (h : mtP D s q = true) : posB D q = true := by
  unfold mtP at h
  simp only [Bool.and_eq_true, Bool.or_eq_true, decide_eq_true_eq] at h
  refine pos_of (by omega) (by omega) ?_
  rw [show ((q : Int)).toNat = q by omega]
  rcases h.2 with e | ⟨e, -⟩
  · exact .inr e
  · exact .inl e
theorem now_next {D : Pn} {W : List ByteArray} {t : Nat} {N : List Int} (hp : pkB D = true) (h : NowR D W t N) (ht : t < W.length) : NowR D W (t + 1) (nxL D (atL D (W[t]?.getD ⟨#[]⟩) N)) := by
  refine ⟨fun z hz => ?_, fun q => ?_⟩
  · obtain ⟨l, hl, hz⟩ := List.mem_flatten.1 hz
    obtain ⟨p, -, rfl⟩ := List.mem_map.1 hl
    exact flV_range hp z hz
  · unfold nxL nxP
    constructor
    · intro hq
      obtain ⟨l, hl, hz⟩ := List.mem_flatten.1 hq
      obtain ⟨p, hpA, rfl⟩ := List.mem_map.1 hl
      have hpr := h.1 p (List.mem_filter.1 hpA).1
      obtain ⟨p', rfl⟩ : ∃ p' : Nat, p = p' := ⟨p.toNat, by omega⟩
      refine .inr ⟨p', (at_iff h ht p').1 hpA, ?_⟩
      unfold flV at hz
      split at hz
      · rw [srt_mem] at hz; exact (mem_root hp).1 hz
      · cases hz
    · rintro (⟨h0, -⟩ | ⟨p, hr, hl⟩)
      · omega
      · have hA := (at_iff h ht p).2 hr
        refine List.mem_flatten.2 ⟨flV D p, List.mem_map.2 ⟨(p : Int), hA, rfl⟩, ?_⟩
        have hpos : posB D p = true := by
          have := (List.mem_filter.1 hA).2
          rw [show ((p : Int)).toNat = p by omega] at this
          exact mt_pos this
        unfold flV
        rw [if_pos ⟨hp, hpos⟩, srt_mem]
        exact (mem_root hp).2 hl
theorem now_end {D : Pn} {W : List ByteArray} {t : Nat} {N : List Int} (hp : pkB D = true) (h : NowR D W t N) (ht : W.length = t + 1) (h200 : W.length ≤ 200) : (atL D (W[t]?.getD ⟨#[]⟩) N).any (fun z => decide (z ∈ laV D)) = true ↔ AcP D W := by
  have hla : laV D = srtL (ed D true (D.n - 1)) := by unfold laV; rw [if_pos hp]
  rw [List.any_eq_true]
  unfold AcP
  rw [ac_iff hp]
  constructor
  · rintro ⟨z, hz, hm⟩
    have hm := of_decide_eq_true hm
    have hr := h.1 z (List.mem_filter.1 hz).1
    obtain ⟨q, rfl⟩ : ∃ q : Nat, z = q := ⟨z.toNat, by omega⟩
    refine ⟨hp, h200, .inr ⟨q, ?_, ?_⟩⟩
    · rw [ht]; exact (at_iff h (by omega) q).1 hz
    · rw [hla, srt_mem] at hm; exact hm
  · rintro ⟨-, -, ⟨h0, -⟩ | ⟨q, hr, hq⟩⟩
    · omega
    · rw [ht] at hr
      refine ⟨q, (at_iff h (by omega) q).2 hr, decide_eq_true ?_⟩
      rw [hla, srt_mem]; exact hq
theorem at_snoc_yes {D : Pn} {s : ByteArray} {N : List Int} {k : Nat} (hk : k < N.length) (h : mtP D s (N[k]?.getD 0).toNat = true) : atL D s (N.take (k + 1)) = atL D s (N.take k) ++ [N[k]?.getD 0] := by
  unfold atL
  rw [List.take_succ_eq_append_getElem hk, List.filter_append]
  rw [List.getElem?_eq_getElem hk] at h ⊢
  simp only [Option.getD_some] at h ⊢
  have e9 : List.filter (fun z : Int => mtP D s z.toNat) [N[k]] = [N[k]] := by simp [h]
  rw [e9]
theorem at_snoc_no {D : Pn} {s : ByteArray} {N : List Int} {k : Nat} (hk : k < N.length) (h : mtP D s (N[k]?.getD 0).toNat = false) : atL D s (N.take (k + 1)) = atL D s (N.take k) := by
  unfold atL
  rw [List.take_succ_eq_append_getElem hk, List.filter_append]
  rw [List.getElem?_eq_getElem hk] at h
  simp only [Option.getD_some] at h
  have e9 : List.filter (fun z : Int => mtP D s z.toNat) [N[k]] = [] := by simp [h]
  rw [e9, List.append_nil]
theorem nx_snoc {D : Pn} (A : List Int) (z : Int) : nxL D (A ++ [z]) = nxL D A ++ flV D z := by unfold nxL; rw [List.map_append, List.flatten_append]; simp
theorem nx_len {D : Pn} : ∀ A : List Int, (nxL D A).length ≤ 40 * A.length
  | [] => Nat.le_refl _
  | z :: A => by
    have := nx_len (D := D) A
    have h2 := flV_len (D := D) (x := z)
    show ((flV D z) ++ nxL D A).length ≤ 40 * (A.length + 1)
    rw [List.length_append]
    omega
theorem at_len {D : Pn} {s : ByteArray} (N : List Int) : (atL D s N).length ≤ N.length := List.length_filter_le _ _
theorem any_snoc {A : List Int} {P : Int → Bool} {k : Nat} (hk : k < A.length) : (A.take (k + 1)).any P = ((A.take k).any P || P (A[k]?.getD 0)) := by
  rw [List.take_succ_eq_append_getElem hk, List.any_append, List.getElem?_eq_getElem hk]
  simp
/-- How great the rows of positions may be. -/
def PwB (t len : Nat) : Prop := len * 40 ^ (6 - t) ≤ 163840000000
theorem pw_zero {len : Nat} (h : len ≤ 40) : PwB 0 len := by
  unfold PwB
  have : len * 40 ^ (6 - 0) ≤ 40 * 40 ^ 6 := Nat.mul_le_mul_right _ h
  exact Nat.le_trans this (by decide)
theorem pw_next {t len len' : Nat} (h : PwB t len) (ht : t < 6) (hl : len' ≤ 40 * len) : PwB (t + 1) len' := by
  unfold PwB at *
  have e : 40 ^ (6 - t) = 40 * 40 ^ (6 - (t + 1)) := by
    rw [show 6 - t = (6 - (t + 1)) + 1 by omega, Nat.pow_succ, Nat.mul_comm]
  rw [e] at h
  have : len' * 40 ^ (6 - (t + 1)) ≤ 40 * len * 40 ^ (6 - (t + 1)) := Nat.mul_le_mul_right _ hl
  rw [show 40 * len * 40 ^ (6 - (t + 1)) = len * (40 * 40 ^ (6 - (t + 1))) by rw [Nat.mul_comm 40 len, Nat.mul_assoc]] at this
  omega
theorem Nat.pos_pow_of_pos40 (k : Nat) : 1 ≤ 40 ^ k := Nat.pow_pos (by omega)
theorem pw_len {t len : Nat} (h : PwB t len) : len ≤ 163840000000 := by
  unfold PwB at h
  have : 1 ≤ 40 ^ (6 - t) := Nat.pos_pow_of_pos40 _
  have : len * 1 ≤ len * 40 ^ (6 - t) := Nat.mul_le_mul_left _ this
  omega
/-- An append of something or nothing, with where the row lies behind it. -/
theorem wpList_append_srcL {P : Program} {w : World} {ops : Array Oper} {rest : List Oper} {o : Oper} {a : Act} {Q : Exit → Act → World → Prop} (hgd : o.guard = none) (s x : Operand) (t : TypeId)
    (ho : o.op = .call { callee := .builtin .append, args := #[s, x], argTypes := #[t, t] })
    (base : Nat) (e : TypeId) (i : TypeInfo) (z : Value) (size bytes : Nat) (ht : P.underlying t = some (.slice e)) (hi : P.info? e = some i) (hz : i.zero = some z)
    (hsize : i.size = size) (hby : i.bytes = bytes) (hzs : z.cells.size = size) (hsz : 0 < size)
    (v : Value) (n : Nat) (xs : List Value) (hs : a.eval s = v) (hown : w.ownsRow base e size v n xs)
    (xa : Option Addr) (m c : Nat) (news : List Value) (hx : a.eval x = .slice xa m c) (hl : news.length = m * size) (hnews : 0 < m → ∃ ad, xa = some ad ∧ ∀ j u, news[j]? = some u → w.cell? (ad.add j) = some u) (h1 : ∀ u ∈ news, u.oneCell' = true)
    (h63 : n + m ≤ maxLen) (hbytes : (n + m) * bytes ≤ 140737488355328) (hbase : base ≤ w.heap.size)
    (h : ∀ a' c' w', w'.ownsRow base e size (.slice a' (n + m) c') (n + m) (xs ++ news) → w.grownBy w' v.ownBlock → (∀ j, (Value.slice a' (n + m) c').ownBlock = some j → v.ownBlock = some j ∨ w.heap.size ≤ j) → wpList P ops Q rest (a.put o.dst (.slice a' (n + m) c')) w') : wpList P ops Q (o :: rest) a w := by
  by_cases hm : 0 < m
  · obtain ⟨ad, rfl, hnw⟩ := hnews hm
    exact wpList_append_lies w hgd s x t ho base e i z size bytes ht hi hz hsize hby hzs hsz v n xs hs hown ad m c news hx hl hnw h1 hm h63 hbytes hbase _ rfl (fun g cap w' k1 k2 k3 _ => h _ _ w' k1 k2 (fun j hj => by
      have e : g = j := by simpa [Value.ownBlock] using hj
      subst e
      rcases k3 with k3 | k3
      · exact .inl k3
      · exact .inr (by omega)))
  · obtain rfl : m = 0 := by omega
    have hnil : news = [] := List.length_eq_zero_iff.1 (by rw [hl]; simp)
    have hv : ∃ a' c', v = .slice a' n c' ∧ n ≤ c' := by
      rcases hown.2 with ⟨rfl, rfl⟩ | ⟨g, cap, cur, rfl, _, _, hc, _⟩
      · exact ⟨none, 0, rfl, Nat.le_refl _⟩
      · exact ⟨_, cap, rfl, hc⟩
    refine wpList_plain hgd fun K hK => ?_
    subst hnil
    obtain ⟨a', c', rfl, hc⟩ := hv
    have hsrc : Src P i.size t (.slice xa 0 c) 0 [] w := by
      cases xa with
      | none => exact Src.ofNil w ht c
      | some ad => exact Src.ofSlice w ht ad 0 c [] (by simp) (fun j u hj => by simp at hj) (fun u hu => by cases hu)
    have hr := run_append_nothing (P := P) w t t o.type e i ht hi a' n c' hc (.slice xa 0 c) hsrc
    unfold Oper.wp execOp
    simp only [ho, resolve, invoke, builtin, Sem.run_bind, Sem.run_pure, Result.andThen_ok, List.map_toArray, List.map_cons, List.map_nil, hs, hx, hr]
    exact hK _ _ (h a' c' w (by rw [List.append_nil]; exact hown) ⟨rfl, rfl, rfl, Nat.le_refl _, fun _ _ _ => rfl⟩ (fun j hj => .inl hj))
end Go.Proofs.YtfohfljdgmlibaaDoor
