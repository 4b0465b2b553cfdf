/-
  Texts put together: AbM, RmA.
-/
import Derived.Test.YtfohfljdgmlibaaDoorS19
import Derived.Test.YtfohfljdgmlibaaDoorS2
import Derived.Deep.AppendLies
/-
  Plain facts on clear models: each name of a row that is taken has its position, and no other one fits there.
-/
namespace Go.Proofs.YtfohfljdgmlibaaDoor
set_option linter.unusedVariables false
set_option linter.unusedSimpArgs false
/-- Each name has its position among those that may come next, and no other one of them fits. -/
def StF (D : Pn) (W : List ByteArray) (L : List Int) : Prop := ∀ i, i < L.length → L[i]?.getD 0 ∈ stp D (L.take i).getLast? ∧ ∀ z ∈ stp D (L.take i).getLast?, mz D (W[i]?.getD ⟨#[]⟩) z = decide (z = L[i]?.getD 0)
theorem stF_snoc {D : Pn} {W : List ByteArray} {L : List Int} {x : Int} (h : StF D W L) (h1 : x ∈ stp D L.getLast?) (h2 : ∀ z ∈ stp D L.getLast?, mz D (W[L.length]?.getD ⟨#[]⟩) z = decide (z = x)) : StF D W (L ++ [x]) := by
  intro i hi
  rw [List.length_append] at hi
  by_cases e : i < L.length
  · rw [List.getElem?_append_left e, List.take_append_of_le_length (by omega)]
    exact h i e
  · have : i = L.length := by simp at hi; omega
    subst this
    rw [List.getElem?_append_right (Nat.le_refl _), Nat.sub_self, List.take_append_of_le_length (Nat.le_refl _), List.take_length]
    exact ⟨h1, h2⟩
/-- What may come next, behind the positions so far. -/
theorem stp_nx {D : Pn} {W : List ByteArray} {t : Nat} {L : List Int} (hp : pkB D = true) (hl : L.length = t) (hr : 0 < t → ∀ q : Nat, rch D W t q ↔ L.getLast? = some (q : Int)) (hz : ∀ z ∈ L, posB D z = true) (q : Nat) : (q : Int) ∈ stp D L.getLast? ↔ nxP D W t q := by
  rcases Nat.eq_zero_or_pos t with h0 | h0
  · subst h0
    have : L = [] := List.length_eq_zero_iff.1 hl
    subst this
    exact (now_zero hp).2 q
  · have hne : L ≠ [] := fun e => by rw [e] at hl; simp at hl; omega
    obtain ⟨p, hlast⟩ : ∃ p, L.getLast? = some p := ⟨_, List.getLast?_eq_some_getLast hne⟩
    have hpos := hz p (List.mem_of_getLast? hlast)
    obtain ⟨hp0, hpn, -⟩ := of_pos hpos
    obtain ⟨p', rfl⟩ : ∃ p' : Nat, p = p' := ⟨p.toNat, by omega⟩
    rw [hlast]
    show (q : Int) ∈ flV D p' ↔ _
    have hf : flV D p' = srtL (foL D p' D.n) := by unfold flV; rw [if_pos ⟨hp, hpos⟩]
    rw [hf, srt_mem, mem_root hp]
    unfold nxP
    constructor
    · intro h; exact .inr ⟨p', (hr h0 p').2 hlast, h⟩
    · rintro (⟨h, -⟩ | ⟨p2, h1, h2⟩)
      · omega
      · have := (hr h0 p2).1 h1
        rw [hlast] at this
        have e : p' = p2 := by
          have e9 : (p' : Int) = p2 := by simpa using this
          omega
        subst e
        exact h2
theorem tr_rch {D : Pn} {W : List ByteArray} (hc : clB D = true) : ∀ t, t ≤ W.length → (∀ L, trA D W t = some L → L.length = t ∧ (∀ z ∈ L, posB D z = true) ∧ (0 < t → ∀ q : Nat, rch D W t q ↔ L.getLast? = some (q : Int)) ∧ StF D W L) ∧ (trA D W t = none → ∀ q, ¬ rch D W t q)
  | 0, _ => by
    refine ⟨fun L h => ?_, fun h => by cases h⟩
    have : L = [] := by simpa [trA] using h.symm
    subst this
    exact ⟨rfl, fun z hz => absurd hz (List.not_mem_nil), fun h => by omega, fun i hi => absurd hi (Nat.not_lt_zero _)⟩
  | t + 1, ht => by
    have hpk := clB_pk hc
    obtain ⟨ih1, ih2⟩ := tr_rch (W := W) hc t (by omega)
    cases htr : trA D W t with
    | none =>
      have e : trA D W (t + 1) = none := by rw [trA, htr]
      refine ⟨fun L h => (by rw [e] at h; cases h), fun _ q hq => ?_⟩
      rcases hq.1 with ⟨rfl, -⟩ | ⟨p, hp, -⟩
      · cases htr
      · exact ih2 htr p hp
    | some L =>
      obtain ⟨h1, h2, h3, h4⟩ := ih1 L htr
      have hnx := stp_nx hpk h1 h3 h2
      have hr : ∀ q : Nat, rch D W (t + 1) q ↔ (q : Int) ∈ stp D L.getLast? ∧ mz D (W[t]?.getD ⟨#[]⟩) q = true := fun q => by
        constructor
        · intro h
          have hm : (q : Int) ∈ stp D L.getLast? := (hnx q).2 h.1
          refine ⟨hm, ?_⟩
          rw [← mz_mt (stp_pos hpk _ _ hm)]
          exact h.2.2
        · rintro ⟨hm, hz⟩
          refine ⟨(hnx q).1 hm, by omega, ?_⟩
          rw [mz_mt (stp_pos hpk _ _ hm)]
          exact hz
      have etr : trA D W (t + 1) = if pkA D (W[t]?.getD ⟨#[]⟩) (stp D L.getLast?) < 0 then none else some (L ++ [pkA D (W[t]?.getD ⟨#[]⟩) (stp D L.getLast?)]) := by rw [trA, htr]
      rcases pk_spec (s := W[t]?.getD ⟨#[]⟩) (stp_ap hc L.getLast?) with ⟨e1, e2⟩ | ⟨z, hz, e1, e2⟩
      · rw [e1, if_pos (by decide)] at etr
        refine ⟨fun L' h => (by rw [etr] at h; cases h), fun _ q hq => ?_⟩
        obtain ⟨a, b⟩ := (hr q).1 hq
        rw [e2 _ a] at b
        cases b
      · have hzp := stp_pos hpk _ _ hz
        obtain ⟨hz0, -, -⟩ := of_pos hzp
        rw [e1, if_neg (by omega)] at etr
        refine ⟨fun L' h => ?_, fun h => by rw [etr] at h; cases h⟩
        rw [etr] at h
        have : L' = L ++ [z] := by simpa using h.symm
        subst this
        refine ⟨by simp [h1], fun y hy => ?_, fun _ q => ?_, ?_⟩
        · rcases List.mem_append.1 hy with hy | hy
          · exact h2 y hy
          · rw [List.mem_singleton.1 hy]; exact hzp
        · rw [hr q, List.getLast?_append]
          simp only [List.getLast?_singleton, Option.some_or]
          constructor
          · rintro ⟨a, b⟩
            rw [(e2 _ a).1 b]
          · intro h
            have : z = (q : Int) := by simpa using h
            subst this
            exact ⟨hz, (e2 _ hz).2 rfl⟩
        · refine stF_snoc h4 hz (fun y hy => ?_)
          rw [h1]
          by_cases e : y = z
          · rw [decide_eq_true e]; exact (e2 y hy).2 e
          · rw [decide_eq_false e]
            cases hm : mz D (W[t]?.getD ⟨#[]⟩) y with
            | false => rfl
            | true => exact absurd ((e2 y hy).1 hm) e
theorem ar_ac {D : Pn} {W : List ByteArray} (hc : clB D = true) (hl : W.length ≤ 200) : (arA D W).isSome = true ↔ AcP D W := by
  have hpk := clB_pk hc
  obtain ⟨h1, h2⟩ := tr_rch (W := W) hc W.length (Nat.le_refl _)
  unfold AcP arA
  rw [if_pos ⟨hc, hl⟩, ac_iff hpk]
  cases htr : trA D W W.length with
  | none =>
    constructor
    · intro h; cases h
    · rintro ⟨-, -, ⟨h, -⟩ | ⟨q, h, -⟩⟩
      · rw [h] at htr; cases htr
      · exact absurd h (h2 htr q)
  | some L =>
    obtain ⟨a1, a2, a3, -⟩ := h1 L htr
    have hla : laV D = srtL (ed D true (D.n - 1)) := by unfold laV; rw [if_pos hpk]
    show (if finA D L = true then some L else none).isSome = true ↔ _
    have key : finA D L = true ↔ (W.length = 0 ∧ nl D (D.n - 1) = true) ∨ ∃ q : Nat, rch D W W.length q ∧ (q : Int) ∈ ed D true (D.n - 1) := by
      unfold finA
      rcases Nat.eq_zero_or_pos W.length with h0 | h0
      · have : L = [] := List.length_eq_zero_iff.1 (by omega)
        subst this
        show nl D (D.n - 1) = true ↔ _
        constructor
        · intro h; exact .inl ⟨h0, h⟩
        · rintro (⟨-, h⟩ | ⟨q, h, -⟩)
          · exact h
          · rw [h0] at h; exact h.elim
      · have hne : L ≠ [] := fun e => by rw [e] at a1; simp at a1; omega
        obtain ⟨p, hlast⟩ : ∃ p, L.getLast? = some p := ⟨_, List.getLast?_eq_some_getLast hne⟩
        obtain ⟨hp0, -, -⟩ := of_pos (a2 p (List.mem_of_getLast? hlast))
        obtain ⟨p', rfl⟩ : ∃ p' : Nat, p = p' := ⟨p.toNat, by omega⟩
        rw [hlast]
        show decide ((p' : Int) ∈ laV D) = true ↔ _
        rw [decide_eq_true_eq, hla, srt_mem]
        constructor
        · intro h; exact .inr ⟨p', (a3 h0 p').2 hlast, h⟩
        · rintro (⟨h, -⟩ | ⟨q, h, hq⟩)
          · omega
          · have := (a3 h0 q).1 h
            rw [hlast] at this
            have e : p' = q := by
              have e9 : (p' : Int) = q := by simpa using this
              omega
            subst e
            exact hq
    by_cases hf : finA D L = true
    · rw [if_pos hf]
      exact ⟨fun _ => ⟨hpk, hl, key.1 hf⟩, fun _ => rfl⟩
    · rw [if_neg hf]
      exact ⟨fun h => (by cases h), fun h => absurd (key.2 h.2.2) hf⟩
theorem ar_some {D : Pn} {W : List ByteArray} {L : List Int} (hc : clB D = true) (hl : W.length ≤ 200) (h : arA D W = some L) : L.length = W.length ∧ (∀ z ∈ L, posB D z = true) ∧ StF D W L := by
  obtain ⟨h1, -⟩ := tr_rch (W := W) hc W.length (Nat.le_refl _)
  unfold arA at h
  rw [if_pos ⟨hc, hl⟩] at h
  cases htr : trA D W W.length with
  | none => rw [htr] at h; cases h
  | some M =>
    rw [htr] at h
    have h : (if finA D M = true then some M else none) = some L := h
    split at h
    · have : M = L := by simpa using h
      subst this
      obtain ⟨a1, a2, -, a4⟩ := h1 M htr
      exact ⟨a1, a2, a4⟩
    · cases h
end Go.Proofs.YtfohfljdgmlibaaDoor

/-
  Plain facts on the reader of models: where it lies, the row of nodes that it makes, what stays as it was.
-/
namespace Go.Proofs.YtfohfljdgmlibaaDoor
open Go.RowKit Go.Joins
set_option linter.unusedVariables false
set_option linter.unusedSimpArgs false
/-- All that was there is as it was, but blocks of S. -/
structure Kp (S : Nat → Prop) (w w' : World) : Prop where
  os : w'.os = w.os
  tape : w'.tape = w.tape
  output : w'.output = w.output
  size : w.heap.size ≤ w'.heap.size
  block : ∀ k, k < w.heap.size → ¬ S k → w'.heap[k]? = w.heap[k]?
theorem Kp.refl (S : Nat → Prop) (w : World) : Kp S w w := ⟨rfl, rfl, rfl, Nat.le_refl _, fun _ _ _ => rfl⟩
theorem Kp.trans {S T : Nat → Prop} {w w1 w2 : World} (h : Kp S w w1) (k : Kp T w1 w2) (hT : ∀ j, j < w.heap.size → T j → S j) : Kp S w w2 :=
  ⟨k.os.trans h.os, k.tape.trans h.tape, k.output.trans h.output, Nat.le_trans h.size k.size, fun j hj hs => (k.block j (Nat.lt_of_lt_of_le hj h.size) (fun ht => hs (hT j hj ht))).trans (h.block j hj hs)⟩
theorem kp_grown {S : Nat → Prop} {w w' : World} {row : Option Nat} (h : w.grownBy w' row) (hS : ∀ k, row = some k → S k) : Kp S w w' :=
  ⟨h.os, h.tape, h.output, h.size, fun k hk hs => h.block k hk (fun e => hs (hS k e.symm))⟩
theorem kp_set {S : Nat → Prop} (w : World) (p : Addr) (v : Value) (h : S p.block) : Kp S w (w.setCell p v) :=
  ⟨rfl, rfl, rfl, by rw [heap_setCell_size]; exact Nat.le_refl _, fun k hk hs => heap_setCell_far _ _ _ _ (fun e => hs (by rw [← e]; exact h))⟩
theorem kp_alloc {S : Nat → Prop} (w : World) (o : Obj) : Kp S w (w.alloc o) := kp_grown (World.grownBy_alloc w o none) (fun k hk => by cases hk)
theorem kp_drew {S : Nat → Prop} (w : World) : Kp S w w.drew := ⟨rfl, rfl, rfl, Nat.le_refl _, fun _ _ _ => rfl⟩
theorem kp_drewN {S : Nat → Prop} (w : World) (q : Nat) : Kp S w (w.drewN q) := ⟨rfl, rfl, rfl, Nat.le_refl _, fun _ _ _ => rfl⟩
theorem kp_below {S : Nat → Prop} {B : Nat} {w w' : World} (h : Kp S w w') (hB : B ≤ w.heap.size) (hS : ∀ k, S k → B ≤ k) : Below B w w' :=
  ⟨h.os, h.tape, h.output, h.size, fun k hk => h.block k (Nat.lt_of_lt_of_le hk hB) (fun hs => by have := hS k hs; omega)⟩
theorem own_kp {S : Nat → Prop} {w w' : World} {B e z n : Nat} {v : Value} {xs : List Value} (h : w.ownsRow B e z v n xs) (k : Kp S w w') (hS : ∀ j, v.ownBlock = some j → ¬ S j) : w'.ownsRow B e z v n xs := by
  obtain ⟨hl, h⟩ := h
  refine ⟨hl, ?_⟩
  rcases h with h | ⟨g, cap, cur, hv, hg, hh, h1, h2, h3, h4⟩
  · exact .inl h
  · exact .inr ⟨g, cap, cur, hv, hg, (k.block g (Array.getElem?_eq_some_iff.1 hh).1 (hS g (by rw [hv]; rfl))).trans hh, h1, h2, h3, h4⟩
/-- The block of a row has the type of its cells. -/
theorem own_type {w : World} {B e z n k : Nat} {v : Value} {xs : List Value} (h : w.ownsRow B e z v n xs) (hk : v.ownBlock = some k) : ∃ cur, w.heap[k]? = some (.cells cur e (0, 0)) := by
  rcases h.2 with ⟨rfl, -⟩ | ⟨g, cap, cur, hv, -, hh, -⟩
  · cases hk
  · rw [hv] at hk
    have : g = k := by simpa [Value.ownBlock] using hk
    subst this
    exact ⟨cur, hh⟩
theorem type_ne {w : World} {B e z n k : Nat} {v : Value} {xs : List Value} (h : w.ownsRow B e z v n xs) (hk : v.ownBlock = some k) {cs : Array Value} {t : TypeId} {fr : Nat × Nat} {R : Nat} (hR : w.heap[R]? = some (.cells cs t fr)) (ht : e ≠ t) : k ≠ R := by
  rintro rfl
  obtain ⟨cur, hc⟩ := own_type h hk
  rw [hc] at hR
  simp only [Option.some.injEq, Obj.cells.injEq] at hR
  exact ht hR.2.1
theorem own_ne {w : World} {B e z n k B' e' z' n' k' : Nat} {v v' : Value} {xs xs' : List Value} (h : w.ownsRow B e z v n xs) (hk : v.ownBlock = some k) (h' : w.ownsRow B' e' z' v' n' xs') (hk' : v'.ownBlock = some k') (ht : e ≠ e') : k ≠ k' := by
  obtain ⟨cur, hc⟩ := own_type h' hk'
  exact type_ne h hk hc ht
/-- A row of nodes: what its cells hold, the kids of each in a block of S. -/
def PIts (S : Nat → Prop) (w : World) (xs : List Value) (m : Nat) (D : Pn) : Prop := D.n = m ∧ ∀ j, j < m → ∃ ad cp, (xs[j * 4]? = some (.int .i64 (D.K j)) ∧ xs[j * 4 + 1]? = some (.string (D.NM j)) ∧ xs[j * 4 + 2]? = some (.slice ad (D.KL j).length cp) ∧ xs[j * 4 + 3]? = some (.int .i64 (D.OC j))) ∧
  w.ownsRow 0 2 1 (.slice ad (D.KL j).length cp) (D.KL j).length ((D.KL j).map (Value.int .i64)) ∧ (∀ k, (Value.slice ad (D.KL j).length cp).ownBlock = some k → S k) ∧ (D.NM j).size ≤ 20000 ∧ (D.KL j).length ≤ 100
/-- The block of a node's kids; no two nodes have one. -/
def kbk (xs : List Value) (j : Nat) : Option Nat := match xs[j * 4 + 2]? with
  | some v => v.ownBlock
  | none => none
def Dj (xs : List Value) (m : Nat) : Prop := ∀ i j k, i < m → j < m → i ≠ j → kbk xs i = some k → kbk xs j ≠ some k
theorem kbk_of {xs : List Value} {j : Nat} {v : Value} (h : xs[j * 4 + 2]? = some v) : kbk xs j = v.ownBlock := by unfold kbk; rw [h]
def PO (B : Nat) (S : Nat → Prop) (w : World) (ad : Option Addr) (m c : Nat) (D : Pn) : Prop := ∃ xs, w.ownsRow B 34 4 (.slice ad m c) m xs ∧ PIts S w xs m D ∧ Dj xs m
theorem dj_push {xs : List Value} {m : Nat} (h : Dj xs m) (hl : xs.length = m * 4) (a b v d : Value) (hv : ∀ j k, j < m → kbk xs j = some k → v.ownBlock ≠ some k) : Dj (xs ++ [a, b, v, d]) (m + 1) := by
  have e1 : ∀ j, j < m → kbk (xs ++ [a, b, v, d]) j = kbk xs j := fun j hj => by unfold kbk; rw [List.getElem?_append_left (by omega)]
  have e2 : kbk (xs ++ [a, b, v, d]) m = v.ownBlock := kbk_of (by rw [List.getElem?_append_right (by omega), hl]; simp)
  intro i j k hi hj hne hk
  by_cases c1 : i < m
  · rw [e1 i c1] at hk
    by_cases c2 : j < m
    · rw [e1 j c2]; exact h i j k c1 c2 hne hk
    · have : j = m := by omega
      subst this
      rw [e2]; exact hv i k c1 hk
  · have : i = m := by omega
    subst this
    rw [e2] at hk
    rw [e1 j (by omega)]
    intro e
    exact hv j k (by omega) e hk
theorem pits_kp {S T : Nat → Prop} {w w' : World} {xs : List Value} {m : Nat} {D : Pn} (h : PIts S w xs m D) (k : Kp T w w') (hT : ∀ B' z n v ys j, w.ownsRow B' 2 z v n ys → v.ownBlock = some j → S j → ¬ T j) : PIts S w' xs m D := by
  refine ⟨h.1, fun j hj => ?_⟩
  obtain ⟨ad, cp, h1, h2, h3, h4⟩ := h.2 j hj
  exact ⟨ad, cp, h1, own_kp h2 k (fun i hi => hT _ _ _ _ _ i h2 hi (h3 i hi)), h3, h4⟩
theorem pits_imp {S T : Nat → Prop} {w : World} {xs : List Value} {m : Nat} {D : Pn} (h : PIts S w xs m D) (hT : ∀ k, k < w.heap.size → S k → T k) : PIts T w xs m D := by
  refine ⟨h.1, fun j hj => ?_⟩
  obtain ⟨ad, cp, h1, h2, h3, h4⟩ := h.2 j hj
  exact ⟨ad, cp, h1, h2, fun k hk => hT k (h2.lt k hk).2 (h3 k hk), h4⟩
def pushN (D : Pn) (k : Int) (nm : ByteArray) (L : List Int) (oc : Int) : Pn := ⟨D.n + 1, fun j => if j < D.n then D.K j else k, fun j => if j < D.n then D.NM j else nm, fun j => if j < D.n then D.KL j else L, fun j => if j < D.n then D.OC j else oc⟩
theorem pits_push {S : Nat → Prop} {w : World} {xs : List Value} {m : Nat} {D : Pn} (h : PIts S w xs m D) (hl : xs.length = m * 4) (k : Int) (nm : ByteArray) (L : List Int) (oc : Int) (ad : Option Addr) (cp : Nat)
    (h2 : w.ownsRow 0 2 1 (.slice ad L.length cp) L.length (L.map (Value.int .i64))) (h3 : ∀ j, (Value.slice ad L.length cp).ownBlock = some j → S j) (h4 : nm.size ≤ 20000) (h5 : L.length ≤ 100) :
    PIts S w (xs ++ [.int .i64 k, .string nm, .slice ad L.length cp, .int .i64 oc]) (m + 1) (pushN D k nm L oc) := by
  obtain ⟨hn, h⟩ := h
  refine ⟨by show D.n + 1 = _; omega, fun j hj => ?_⟩
  by_cases e : j < m
  · obtain ⟨ad', cp', ⟨a0, a1, a2, a3⟩, b2, b3, b4⟩ := h j e
    have e' : j < D.n := by omega
    simp only [pushN, if_pos e']
    refine ⟨ad', cp', ⟨?_, ?_, ?_, ?_⟩, b2, b3, b4⟩
    all_goals (rw [List.getElem?_append_left (by omega)]; assumption)
  · have ej : j = m := by omega
    subst ej
    have e' : ¬ j < D.n := by omega
    simp only [pushN, if_neg e']
    refine ⟨ad, cp, ⟨?_, ?_, ?_, ?_⟩, h2, h3, h4, h5⟩
    all_goals (rw [List.getElem?_append_right (by omega), hl]; simp)
theorem po_imp {B : Nat} {S T : Nat → Prop} {w : World} {ad : Option Addr} {m c : Nat} {D : Pn} (h : PO B S w ad m c D) (hT : ∀ k, k < w.heap.size → S k → T k) : PO B T w ad m c D := by
  obtain ⟨xs, h1, h2, h3⟩ := h
  exact ⟨xs, h1, pits_imp h2 hT, h3⟩
theorem po_nil (B : Nat) (S : Nat → Prop) (w : World) : PO B S w none 0 0 ⟨0, fun _ => 0, fun _ => ⟨#[]⟩, fun _ => [], fun _ => 0⟩ := ⟨[], World.ownsRow_nil _ _ _ _, ⟨rfl, fun j hj => absurd hj (Nat.not_lt_zero _)⟩, fun i _ _ hi => absurd hi (Nat.not_lt_zero _)⟩
/-- What stands apart from the row of nodes stays it. -/
theorem po_kp {B : Nat} {S T : Nat → Prop} {w w' : World} {ad : Option Addr} {m c : Nat} {D : Pn} (h : PO B S w ad m c D) (k : Kp T w w') (h1 : ∀ j, (Value.slice ad m c).ownBlock = some j → ¬ T j) (hT : ∀ B' z n v ys j, w.ownsRow B' 2 z v n ys → v.ownBlock = some j → S j → ¬ T j) : PO B S w' ad m c D := by
  obtain ⟨xs, h2, h3, h4⟩ := h
  exact ⟨xs, own_kp h2 k h1, pits_kp h3 k hT, h4⟩
/-- As an argument. -/
theorem po_at {B : Nat} {S : Nat → Prop} {w : World} {ad : Option Addr} {m c : Nat} {D : Pn} (h : PO B S w ad m c D) : D.n = m ∧ PnAt w ad D w.heap.size := by
  obtain ⟨xs, h1, ⟨hn, h2⟩, -⟩ := h
  refine ⟨hn, fun h0 => ?_⟩
  rcases h1.2 with ⟨-, hz⟩ | ⟨g, cap, cur, hv, -, hh, -⟩
  · omega
  · simp only [Value.slice.injEq] at hv
    obtain ⟨rfl, -, rfl⟩ := hv
    refine ⟨g, 0, rfl, (Array.getElem?_eq_some_iff.1 hh).1, fun j hj => ?_⟩
    obtain ⟨ad, cp, ⟨a0, a1, a2, a3⟩, b2, -⟩ := h2 j (by omega)
    refine ⟨ad, cp, ?_, own_rowAt9 b2, ?_⟩
    · unfold PnCells
      rw [Nat.zero_add]
      exact ⟨(h1.cellAt _ (by omega)).trans a0, (h1.cellAt _ (by omega)).trans a1, (h1.cellAt _ (by omega)).trans a2, (h1.cellAt _ (by omega)).trans a3⟩
    · rcases b2.2 with ⟨hv, hz⟩ | ⟨g', cap', cur', hv, -, -, hc, -⟩
      · omega
      · simp only [Value.slice.injEq] at hv
        omega
theorem sumN_bound (f : Nat → Nat) (q : Nat) : ∀ m, (∀ j, j < m → f j ≤ q) → sumN f m ≤ q * m
  | 0, _ => Nat.le_refl _
  | m + 1, h => by
    have h1 := sumN_bound f q m (fun j hj => h j (by omega))
    have h2 := h m (by omega)
    show sumN f m + f m ≤ q * (m + 1)
    rw [Nat.mul_add]
    omega
theorem po_tot {B : Nat} {S : Nat → Prop} {w : World} {ad : Option Addr} {m c : Nat} {D : Pn} (h : PO B S w ad m c D) (hm : m ≤ 50) : pnTot D ≤ 1048576 := by
  obtain ⟨xs, -, ⟨hn, h2⟩, -⟩ := h
  have h9 := sumN_bound (pnSz D) 20100 m (fun j hj => by
    obtain ⟨ad, cp, -, -, -, h4, h5⟩ := h2 j hj
    show (D.NM j).size + (D.KL j).length ≤ 20100
    omega)
  unfold pnTot
  rw [hn]
  omega
/-- The reader lies in block R. -/
def L8 (w : World) (R : Nat) (s : ByteArray) (p : Nat) (bd : Bool) (ad : Option Addr) (m c : Nat) : Prop := w.heap[R]? = some (.cells #[.string s, .int .i64 p, .bool bd, .slice ad m c] 105 (0, 0))
theorem l8_cells {w : World} {R : Nat} {s : ByteArray} {p : Nat} {bd : Bool} {ad : Option Addr} {m c : Nat} (h : L8 w R s p bd ad m c) : w.cell? ⟨R, 0, none⟩ = some (.string s) ∧ w.cell? ⟨R, 1, none⟩ = some (.int .i64 p) ∧ w.cell? ⟨R, 2, none⟩ = some (.bool bd) ∧ w.cell? ⟨R, 3, none⟩ = some (.slice ad m c) := by
  have e : ∀ i, w.cell? ⟨R, i, none⟩ = (#[.string s, .int .i64 p, .bool bd, .slice ad m c] : Array Value)[i]? := fun i => by rw [cell_of_row w R i _ _ (0, 0) h]
  exact ⟨e 0, e 1, e 2, e 3⟩
theorem l8_frozen {w : World} {R : Nat} {s : ByteArray} {p : Nat} {bd : Bool} {ad : Option Addr} {m c : Nat} (h : L8 w R s p bd ad m c) (i : Nat) : w.frozen? ⟨R, i, none⟩ = false := frozen_of_row w R i _ _ h
theorem l8_lt {w : World} {R : Nat} {s : ByteArray} {p : Nat} {bd : Bool} {ad : Option Addr} {m c : Nat} (h : L8 w R s p bd ad m c) : R < w.heap.size := (Array.getElem?_eq_some_iff.1 h).1
theorem l8_kp {S : Nat → Prop} {w w' : World} {R : Nat} {s : ByteArray} {p : Nat} {bd : Bool} {ad : Option Addr} {m c : Nat} (h : L8 w R s p bd ad m c) (k : Kp S w w') (hS : ¬ S R) : L8 w' R s p bd ad m c := (k.block R (l8_lt h) hS).trans h
theorem l8_p {w : World} {R : Nat} {s : ByteArray} {p : Nat} {bd : Bool} {ad : Option Addr} {m c : Nat} (h : L8 w R s p bd ad m c) (p' : Nat) : L8 (w.setCell ⟨R, 1, none⟩ (.int .i64 p')) R s p' bd ad m c := heap_setCell_same w R 1 _ _ (.int .i64 p') h
theorem l8_b {w : World} {R : Nat} {s : ByteArray} {p : Nat} {bd : Bool} {ad : Option Addr} {m c : Nat} (h : L8 w R s p bd ad m c) (b' : Bool) : L8 (w.setCell ⟨R, 2, none⟩ (.bool b')) R s p b' ad m c := heap_setCell_same w R 2 _ _ (.bool b') h
theorem l8_o {w : World} {R : Nat} {s : ByteArray} {p : Nat} {bd : Bool} {ad : Option Addr} {m c : Nat} (h : L8 w R s p bd ad m c) (ad' : Option Addr) (m' c' : Nat) : L8 (w.setCell ⟨R, 3, none⟩ (.slice ad' m' c')) R s p bd ad' m' c' := heap_setCell_same w R 3 _ _ (.slice ad' m' c') h
end Go.Proofs.YtfohfljdgmlibaaDoor
