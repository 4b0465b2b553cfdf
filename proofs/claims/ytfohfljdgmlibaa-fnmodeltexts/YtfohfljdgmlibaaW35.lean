/-
  Plain facts on the specification's reader of models, with what it reads: the kids so far, the name's bytes, the node that is done.
-/
import Derived.Test.YtfohfljdgmlibaaW10
import Derived.Test.YtfohfljdgmlibaaW34
namespace Go.Proofs.Ytfohfljdgmlibaa
open Go.RowKit Go.Joins
set_option linter.unusedVariables false
set_option linter.unusedSimpArgs false
/-- What one item leaves: a tree that stands there, or none does. -/
def ItF (s : ByteArray) (p : Nat) (bd : Bool) (D : Pn) (dd p' : Nat) (bd' : Bool) (D' : Pn) : Prop :=
  bd = false → (bd' = false → ∃ t, rdP t (dr s p) (dr s p') ∧ D' = fl t D) ∧ (bd' = true → NoT (dr s p) D dd)
/-- The same ahead of its sign. -/
def ItF0 (s : ByteArray) (p : Nat) (bd : Bool) (D : Pn) (dd p1 : Nat) (bd1 : Bool) (D1 : Pn) (k1 : Int) (nm1 : ByteArray) (L1 : List Int) : Prop :=
  bd = false → (bd1 = false → ∃ ks, D1 = (flF ks D []).1 ∧ L1 = (flF ks D []).2 ∧ ∀ oc v, ocP oc (dr s p1) v → rdP (.nd k1 nm1 oc ks) (dr s p) v) ∧ (bd1 = true → NoT (dr s p) D dd)
/-- The kids so far. -/
def KdS (s : ByteArray) (p : Nat) (D D2 : Pn) (L2 : List Int) (k : Int) (p2 : Nat) : Prop := ∃ ks, D2 = (flF ks D []).1 ∧ L2 = (flF ks D []).2 ∧ KdP k ks (dr s (p + 1)) (dr s p2)
def ItK (s : ByteArray) (p : Nat) (D : Pn) (dd : Nat) (bd2 : Bool) (p2 : Nat) (D2 : Pn) (k2 : Int) (L2 : List Int) : Prop := (bd2 = false → KdS s p D D2 L2 k2 p2) ∧ (bd2 = true → NoT (dr s p) D dd)
/-- Ahead of the next kid. -/
def KdM (s : ByteArray) (p : Nat) (D D2 : Pn) (L2 : List Int) (dd : Nat) (bd6 : Bool) (k6 : Int) (p6 : Nat) : Prop :=
  (bd6 = false → ∃ ks, D2 = (flF ks D []).1 ∧ L2 = (flF ks D []).2 ∧ (∀ t w, rdP t (dr s p6) w → KdP k6 (ks ++ [t]) (dr s (p + 1)) w) ∧ (NoT (dr s p6) D2 (dd + 1) → NoT (dr s p) D dd)) ∧ (bd6 = true → NoT (dr s p) D dd)
theorem flF_lenQ : ∀ (ts : List Tr) (O : Pn) (L : List Int), (flF ts O L).2.length = L.length + ts.length
  | [], O, L => by rw [flF]; simp
  | t :: ts, O, L => by rw [flF, flF_lenQ ts]; simp; omega
section
variable {s : ByteArray} {p p1 p2 p3 p5 p6 p7 p8 dd m8 : Nat} {bd bd1 bd6 bd8 : Bool} {D D1 D2 D8 : Pn} {L2 L1 : List Int} {k2 k6 k1 oc y : Int} {nm1 : ByteArray}
theorem itk_start (h : p1 = p + 1) (hb : bd1 = true → 10 ≤ dd) : ItK s p D dd bd1 p1 D 2 [] := by
  subst h
  exact ⟨fun _ => ⟨[], by rw [flF], by rw [flF], .inl ⟨rfl, rfl, rfl⟩⟩, fun h => noT_deep (hb h)⟩
theorem itf0_bad (h : NoT (dr s p) D dd) : ItF0 s p false D dd p1 true D1 k1 nm1 L1 := fun _ => ⟨fun h => (by cases h), fun _ => h⟩
theorem itf0_shut (hu : dr s p = 40 :: dr s (p + 1)) (h : KdS s p D D2 L2 k2 p2) (he : dr s p2 = 41 :: dr s p5) : ItF0 s p false D dd p5 false D2 k2 ⟨#[]⟩ L2 := by
  obtain ⟨ks, h1, h2, h3⟩ := h
  refine fun _ => ⟨fun _ => ⟨ks, h1, h2, fun oc v ho => ?_⟩, fun h => (by cases h)⟩
  rw [he] at h3
  rw [hu]
  exact kd_done h3 ho
theorem kds_stay (h : KdS s p D D2 L2 k2 p2) (he : p5 = p2 ∧ (dr s p2).head? ≠ some 41) : KdS s p D D2 L2 k2 p5 ∧ (dr s p5).head? ≠ some 41 := by
  obtain ⟨rfl, he⟩ := he
  exact ⟨h, he⟩
theorem kds_ne {ks : List Tr} (hl : 0 < L2.length) (h : L2 = (flF ks D []).2) : ks ≠ [] ∧ L2.length = ks.length := by
  have : L2.length = ks.length := by rw [h, flF_lenQ]; simp
  exact ⟨fun e => by rw [e, List.length_nil] at this; omega, this⟩
theorem kdm_alt1 (h : KdS s p D D2 L2 k2 p5) (hl : L2.length = 1) (he : dr s p5 = 124 :: dr s p6) (hu : dr s p = 40 :: dr s (p + 1)) : KdM s p D D2 L2 dd false 3 p6 := by
  obtain ⟨ks, h1, h2, h3⟩ := h
  obtain ⟨hne, hlen⟩ := kds_ne (by omega) h2
  obtain ⟨hy, hs, hk⟩ := kd_sq hne h3
  have hk2 : k2 = 2 := by rcases hk with hk | ⟨-, hk⟩; exact hk; omega
  subst hk2
  rw [he] at h3
  refine ⟨fun _ => ⟨ks, h1, h2, fun t w ht => kd_alt1 (by omega) h3 ht, fun hn => ?_⟩, fun h => (by cases h)⟩
  rw [hu]
  rw [h1] at hn
  exact kd_kid hne h3 (.inr rfl) hn
theorem kdm_alt (h : KdS s p D D2 L2 k2 p5) (hl : 0 < L2.length) (hk : k2 = 3) (he : dr s p5 = 124 :: dr s p6) (hu : dr s p = 40 :: dr s (p + 1)) : KdM s p D D2 L2 dd false k2 p6 := by
  obtain ⟨ks, h1, h2, h3⟩ := h
  obtain ⟨hne, hlen⟩ := kds_ne hl h2
  subst hk
  rw [he] at h3
  refine ⟨fun _ => ⟨ks, h1, h2, fun t w ht => kd_alt h3 ht, fun hn => ?_⟩, fun h => (by cases h)⟩
  rw [hu]
  rw [h1] at hn
  exact kd_kid hne h3 (.inr rfl) hn
theorem kdm_no1 (h : KdS s p D D2 L2 k2 p5) (hl : 0 < L2.length) (hl1 : ¬ L2.length = 1) (hk : ¬ k2 = 3) (he : dr s p5 = 124 :: dr s p6) (hu : dr s p = 40 :: dr s (p + 1)) : KdM s p D D2 L2 dd true k2 p6 := by
  obtain ⟨ks, h1, h2, h3⟩ := h
  obtain ⟨hne, hlen⟩ := kds_ne hl h2
  refine ⟨fun h => (by cases h), fun _ => ?_⟩
  rw [hu]
  refine kd_mark hne h3 (by rw [he]; simp) (fun c hc e => ?_)
  rw [he] at e
  simp at e
  subst e
  exact ⟨by omega, by unfold mkC; rw [if_neg hk]; decide⟩
theorem kdm_no2 (h : KdS s p D D2 L2 k2 p5 ∧ (dr s p5).head? ≠ some 41) (hl : 0 < L2.length) (hk : k2 = 3) (he : (dr s p5).head? ≠ some 124) (hu : dr s p = 40 :: dr s (p + 1)) : KdM s p D D2 L2 dd true k2 p6 := by
  obtain ⟨⟨ks, h1, h2, h3⟩, h4⟩ := h
  obtain ⟨hne, hlen⟩ := kds_ne hl h2
  obtain ⟨hy, hs, hk9⟩ := kd_sq hne h3
  refine ⟨fun h => (by cases h), fun _ => ?_⟩
  rw [hu]
  refine kd_mark hne h3 h4 (fun c hc e => ?_)
  rcases hc with rfl | rfl
  · refine ⟨?_, by unfold mkC; rw [if_pos hk]; decide⟩
    rcases hk9 with hk9 | ⟨-, hk9⟩
    · omega
    · exact hk9
  · exact absurd e he
theorem kdm_seq (h : KdS s p D D2 L2 k2 p5) (hl : 0 < L2.length) (hk : ¬ k2 = 3) (he : dr s p5 = 44 :: dr s p6) (hu : dr s p = 40 :: dr s (p + 1)) : KdM s p D D2 L2 dd false k2 p6 := by
  obtain ⟨ks, h1, h2, h3⟩ := h
  obtain ⟨hne, hlen⟩ := kds_ne hl h2
  obtain ⟨hy, hs, hk9⟩ := kd_sq hne h3
  have hk2 : k2 = 2 := by rcases hk9 with hk9 | ⟨hk9, -⟩; exact hk9; exact absurd hk9 hk
  subst hk2
  rw [he] at h3
  refine ⟨fun _ => ⟨ks, h1, h2, fun t w ht => kd_seq hne h3 ht, fun hn => ?_⟩, fun h => (by cases h)⟩
  rw [hu]
  rw [h1] at hn
  exact kd_kid hne h3 (.inl rfl) hn
theorem kdm_no3 (h : KdS s p D D2 L2 k2 p5 ∧ (dr s p5).head? ≠ some 41) (hl : 0 < L2.length) (he : (dr s p5).head? ≠ some 124) (he2 : (dr s p5).head? ≠ some 44) (hu : dr s p = 40 :: dr s (p + 1)) : KdM s p D D2 L2 dd true k2 p6 := by
  obtain ⟨⟨ks, h1, h2, h3⟩, h4⟩ := h
  obtain ⟨hne, hlen⟩ := kds_ne hl h2
  refine ⟨fun h => (by cases h), fun _ => ?_⟩
  rw [hu]
  refine kd_mark hne h3 h4 (fun c hc e => ?_)
  rcases hc with rfl | rfl
  · exact absurd e he2
  · exact absurd e he
theorem kdm_first (h : KdS s p D D2 L2 k2 p5 ∧ (dr s p5).head? ≠ some 41) (hl : ¬ 0 < L2.length) (hu : dr s p = 40 :: dr s (p + 1)) : KdM s p D D2 L2 dd false k2 p5 := by
  obtain ⟨⟨ks, h1, h2, h3⟩, h4⟩ := h
  have hks : ks = [] := by
    have : L2.length = ks.length := by rw [h2, flF_lenQ]; simp
    exact List.length_eq_zero_iff.1 (by omega)
  subst hks
  rcases h3 with ⟨-, hk, e⟩ | ⟨-, hne, -⟩
  · rw [e] at h4
    refine ⟨fun _ => ⟨[], h1, h2, fun t w ht => ?_, fun hn => ?_⟩, fun h => (by cases h)⟩
    · rw [hk]
      rw [e] at ht
      exact kd_first h4 ht
    · rw [hu]
      rw [e, h1, flF] at hn
      exact noT_kid0 hn h4
  · exact absurd rfl hne
theorem itk_next (hm : KdM s p D D2 L2 dd bd6 k6 p6) (hf : y = (m8 : Int) - 1 ∧ ItF s p6 bd6 D2 (dd + 1) p8 bd8 D8) (hn : D8.n = m8) (hb : bd6 = true → bd8 = true) : ItK s p D dd bd8 p8 D8 k6 (L2 ++ [y]) := by
  obtain ⟨hy, hf⟩ := hf
  refine ⟨fun e => ?_, fun e => ?_⟩
  · have h6 : bd6 = false := by cases bd6; rfl; rw [hb rfl] at e; cases e
    obtain ⟨ks, h1, h2, h3, -⟩ := hm.1 h6
    obtain ⟨t, ht, hd⟩ := (hf h6).1 e
    refine ⟨ks ++ [t], ?_, ?_, h3 t _ ht⟩
    · rw [flF_app, flF_one, ← h1]; exact hd
    · rw [flF_app, flF_one, ← h1, ← h2, ← hd, hn, hy]
  · cases h6 : bd6
    · obtain ⟨ks, h1, h2, -, h3⟩ := hm.1 h6
      exact h3 ((hf h6).2 e)
    · exact hm.2 h6
theorem itf0_any (he : dr s p1 = 35 :: dr s p2) : ItF0 s p1 false D dd p2 false D 4 ⟨#[]⟩ [] := by
  refine fun _ => ⟨fun _ => ⟨[], by rw [flF], by rw [flF], fun oc v ho => ?_⟩, fun h => (by cases h)⟩
  rw [he, rdP]
  exact ⟨_, ho, .inr (.inr (.inl ⟨rfl, rfl, rfl, rfl⟩))⟩
theorem itf0_name (h : bd = false → (dr s p2).head? ≠ some 40 ∧ (dr s p2).head? ≠ some 35) (hn : nm1.data.toList = (dr s p2).takeWhile nmC ∧ dr s p3 = (dr s p2).dropWhile nmC) : ItF0 s p2 bd D dd p3 bd D 1 nm1 [] := by
  refine fun hb => ⟨fun _ => ⟨[], by rw [flF], by rw [flF], fun oc v ho => ?_⟩, fun h => (by rw [hb] at h; cases h)⟩
  obtain ⟨h1, h2⟩ := h hb
  rw [rdP]
  exact ⟨_, ho, .inr (.inr (.inr ⟨rfl, rfl, h1, h2, hn.1, hn.2⟩))⟩
theorem itf_done (h : ItF0 s p bd D dd p1 bd1 D1 k1 nm1 L1) (ho : bd1 = false → ocP oc (dr s p1) (dr s p2)) : ItF s p bd D dd p2 bd1 (pushN D1 k1 nm1 L1 oc) := by
  refine fun hb => ⟨fun h1 => ?_, (h hb).2⟩
  obtain ⟨ks, e1, e2, e3⟩ := (h hb).1 h1
  exact ⟨.nd k1 nm1 oc ks, e3 _ _ (ho h1), by rw [fl, ← e1, ← e2]⟩
theorem itf_many (h : ItF0 s p bd D dd p1 bd1 D1 k1 nm1 L1) (ho : bd1 = false → ocP oc (dr s p1) (dr s p2)) (hn : 40 < D1.n + 1) : ItF s p bd D dd p2 true (pushN D1 k1 nm1 L1 oc) := by
  refine fun hb => ⟨fun h1 => (by cases h1), fun _ => ?_⟩
  cases h1 : bd1
  · obtain ⟨t, ht, hd⟩ := (itf_done h ho hb).1 h1
    refine noT_over ht ?_
    rw [← hd, pushN_n]
    exact hn
  · exact (h hb).2 h1
end
/-- A run of a name's bytes, and its end. -/
def RunU (s : ByteArray) (a b : Nat) : Prop := ∀ j, a ≤ j → j < b → ∀ c, s.data.toList[j]? = some c → nmC c = true
def RunE (s : ByteArray) (b : Nat) : Prop := ∀ c, s.data.toList[b]? = some c → nmC c = false
theorem at_baP (u : ByteArray) (k : Nat) (h : k < u.size) : u.data.toList[k]? = some u[k] := by
  rw [List.getElem?_eq_getElem (by simpa using h)]
  rfl
theorem run_stop {s : ByteArray} {b : Nat} (h : b < s.size) (hb : moreB (s[b].toNat : Int) = false) : RunE s b := fun c hc => by
  rw [at_baP s b h] at hc
  rw [← Option.some.inj hc]
  exact hb
theorem run_over {s : ByteArray} {b : Nat} (h : s.size ≤ b) : RunE s b := fun c hc => by
  rw [List.getElem?_eq_none (by simpa using h)] at hc
  cases hc
theorem run_more {s : ByteArray} {a b : Nat} (h : b < s.size) (hb : moreB (s[b].toNat : Int) = true) (hr : RunU s a b) : RunU s a (b + 1) := fun j h1 h2 c hc => by
  by_cases e : j = b
  · subst e
    rw [at_baP s j h] at hc
    rw [← Option.some.inj hc]
    exact hb
  · exact hr j h1 (by omega) c hc
theorem run_twP {l : List UInt8} {k : Nat} (hk : k ≤ l.length) (h : ∀ j, j < k → ∀ c, l[j]? = some c → nmC c = true) (he : ∀ c, l[k]? = some c → nmC c = false) : l.takeWhile nmC = l.take k ∧ l.dropWhile nmC = l.drop k := by
  induction l generalizing k with
  | nil => simp
  | cons d l ih =>
    cases k with
    | zero =>
      have := he d rfl
      simp [List.takeWhile_cons, List.dropWhile_cons, this]
    | succ k =>
      have h0 := h 0 (by omega) d rfl
      obtain ⟨h1, h2⟩ := ih (k := k) (by simpa using hk) (fun j hj c hc => h (j + 1) (by omega) c (by simpa using hc)) (fun c hc => he c (by simpa using hc))
      simp [List.takeWhile_cons, List.dropWhile_cons, h0, h1, h2]
theorem run_name {s nm : ByteArray} {a b : Nat} (hnm : s.extract a b = nm) (hu : RunU s a b) (he : RunE s b) (hab : a ≤ b ∧ b ≤ s.size) : nm.data.toList = (dr s a).takeWhile nmC ∧ dr s b = (dr s a).dropWhile nmC := by
  have hg : ∀ j, (dr s a)[j]? = s.data.toList[a + j]? := fun j => by unfold dr; rw [List.getElem?_drop]
  obtain ⟨h1, h2⟩ := run_twP (l := dr s a) (k := b - a) (by unfold dr; simp; omega) (fun j hj c hc => hu (a + j) (by omega) (by omega) c (by rw [← hg]; exact hc)) (fun c hc => he c (by rw [hg, show a + (b - a) = b by omega] at hc; exact hc))
  rw [h1, h2]
  refine ⟨?_, ?_⟩
  · rw [← hnm, ByteArray.data_extract, Array.toList_extract]
    unfold dr
    simp [List.extract_eq_take_drop, List.drop_take]
  · unfold dr
    rw [List.drop_drop, show a + (b - a) = b by omega]
/-- What one item leaves, asked at one depth, with what it reads. -/
def ItmAnx (R B d : Nat) (s : ByteArray) (p m : Nat) (bd : Bool) (v : Value) (S : Nat → Prop) (D0 : Pn) (dd : Nat) (w : World) (e : Ending) (w' : World) : Prop :=
  ∃ (x : Int) (p' : Nat) (bd' : Bool) (ad : Option Addr) (m' c : Nat) (D : Pn), e = .returned (.int .i64 x) ∧ L8 w' R s p' bd' ad m' c ∧ (p ≤ p' ∧ p' ≤ s.size) ∧ (bd = true → bd' = true) ∧ (bd' = false → p < p' ∧ m' ≤ 40) ∧ (m < m' ∧ m' ≤ 41 + 2 * d) ∧
    PO B (fun j => S j ∨ w.heap.size ≤ j) w' ad m' c D ∧ Kp (fun j => j = R ∨ v.ownBlock = some j) w w' ∧ (∀ j, (Value.slice ad m' c).ownBlock = some j → v.ownBlock = some j ∨ w.heap.size ≤ j) ∧ x = (m' : Int) - 1 ∧ ItF s p bd D0 dd p' bd' D
theorem its_itemx {R B : Nat} {s : ByteArray} {w0 w w' : World} {S0 : Nat → Prop} {ro : Option Nat} {p : Nat} {bd : Bool} {ad : Option Addr} {m c : Nat} {D : Pn} {k : Int} {nm : ByteArray} {kad : Option Addr} {L : List Int} {kc : Nat} {oc : Int} {d dd : Nat} {D0 : Pn} {e : Ending} {K9 : Prop} (h : ItS R B s w0 S0 ro w p bd ad m c D k nm kad L kc oc) (hb : ∀ x p' bd' ad' m' c' D', e = .returned (.int .i64 x) → ItS R B s w0 S0 ro w' p' bd' ad' m' c' D' k nm kad L kc oc → (p ≤ p' ∧ p' ≤ s.size) → (bd = true → bd' = true) → (bd' = false → p < p' ∧ m' ≤ 40) → (m < m' ∧ m' ≤ 41 + 2 * d) → (x = (m' : Int) - 1 ∧ ItF s p bd D0 dd p' bd' D') → K9) (ha : ItmAnx R B d s p m bd (.slice ad m c) (fun j => (S0 j ∨ w0.heap.size ≤ j) ∧ (Value.slice kad L.length kc).ownBlock ≠ some j) D0 dd w e w') : K9 := by
  obtain ⟨x, p', bd', ad', m', c', D', he, h8, h1, h2, h3, h4, hpo, hk, hnew, hf⟩ := ha
  obtain ⟨xs, hown, hp, hdj⟩ := h.po
  have hlt := h.lt
  have hsz := h.kp.size
  have hX := xn_lt h.nd
  refine hb x p' bd' ad' m' c' D' he ⟨h8, ?_, ?_, ?_, ?_, ?_, h.kb, h.lt⟩ h1 h2 h3 h4 hf
  · refine (hk.block _ hX ?_).trans h.nd
    rintro (e | e)
    · omega
    · rcases h.ob _ e with ⟨-, e⟩ | e <;> omega
  · refine own_kp h.kd hk (fun j hj => ?_)
    rintro (e | e)
    · exact type_ne h.kd hj h.rd (by decide) e
    · exact own_ne h.kd hj hown e (by decide) rfl
  · refine po_imp hpo (fun j _ hj => ?_)
    rcases hj with hj | hj
    · exact hj
    · refine ⟨.inr (by omega), fun e => ?_⟩
      have := (h.kd.lt j e).2
      omega
  · refine h.kp.trans hk (fun j h5 h6 => ?_)
    rcases h6 with e | e
    · exact .inl e
    · rcases h.ob _ e with ⟨e, -⟩ | e
      · exact .inr e
      · omega
  · intro j hj
    rcases hnew j hj with e | e
    · exact h.ob j e
    · exact .inr (by omega)
/-- What holds when an item's body is read. -/
def ItBx (R B d : Nat) (s : ByteArray) (w0 : World) (S0 : Nat → Prop) (ro : Option Nat) (p m : Nat) (bd : Bool) (D : Pn) (dd : Nat) (w : World) : Prop :=
  ∃ p1 bd1 ad1 m1 c1 D1 k1 nm1 kad1 L1 kc1, ItS R B s w0 S0 ro w p1 bd1 ad1 m1 c1 D1 k1 nm1 kad1 L1 kc1 0 ∧ (p ≤ p1 ∧ p1 ≤ s.size) ∧ (bd = true → bd1 = true) ∧ (bd1 = false → p < p1 ∧ m1 ≤ 40) ∧ (m ≤ m1 ∧ m1 ≤ 40 + 2 * d) ∧ L1.length ≤ 100 ∧ nm1.size ≤ 20000 ∧ ItF0 s p bd D dd p1 bd1 D1 k1 nm1 L1
end Go.Proofs.Ytfohfljdgmlibaa
