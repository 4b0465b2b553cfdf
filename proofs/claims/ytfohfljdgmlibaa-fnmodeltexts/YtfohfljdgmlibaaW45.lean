/-
  Texts put together: RqR, ChgP.
-/
import Derived.Test.YtfohfljdgmlibaaW36
import Derived.Test.YtfohfljdgmlibaaW44
import Derived.Test.YtfohfljdgmlibaaW8
import Derived.Test.YtfohfljdgmlibaaW18
/-
  Contract: what the specification reads as a model: just what stands there, or nothing.
-/
namespace Go.Proofs.Ytfohfljdgmlibaa
open Go.RowKit Go.Joins
set_option linter.unusedVariables false
set_option linter.unusedSimpArgs false
theorem x_item (R B : Nat) (s : ByteArray) (hs : s.size ≤ 20000) : ∀ (d dd : Nat), d ≤ 12 → dd + d ≤ 19 → 10 ≤ dd + d → ∀ (p m : Nat) (bd : Bool) (ad : Option Addr) (c : Nat) (D : Pn) (S0 : Nat → Prop) (w : World), p ≤ s.size → m ≤ 40 → B ≤ w.heap.size → L8 w R s p bd ad m c → PO B S0 w ad m c D →
    Calls Try.prog 33 #[.pointer (some ⟨R, 0, none⟩), .int .i64 ((dd : Int) + 1)] w (ItmAnx R B d s p m bd (.slice ad m c) S0 D dd w)
  | 0, dd, h1, h2, h3, p, m, bd, ad, c, D, S0, w, hp, hm, hB, h8, hpo => x_itemF R B 0 dd s _ p m bd ad c D S0 w hs rfl (by omega) ⟨by omega, by omega⟩ (by omega) hp hm hB h8 hpo (fun h => absurd h (by omega))
  | d + 1, dd, h1, h2, h3, p, m, bd, ad, c, D, S0, w, hp, hm, hB, h8, hpo => x_itemF R B (d + 1) dd s _ p m bd ad c D S0 w hs rfl h1 ⟨by omega, by omega⟩ (by omega) hp hm hB h8 hpo (fun hde p' m' bd' ad' c' D' S' w' a1 a2 a3 a4 a5 => by
      have h9 := x_item R B s hs d (dd + 1) (by omega) (by omega) (by omega) p' m' bd' ad' c' D' S' w' a1 a2 a3 a4 a5
      rw [show ((dd + 1 : Nat) : Int) = (dd : Int) + 1 by omega] at h9
      exact h9)
theorem md_none {s : ByteArray} {w w' : World} (hn : NoR s) (hb : Below w.heap.size w w') : MdAns s w (.returned (.tuple #[.slice none 0 0, .bool false])) w' := .inr ⟨hn, rfl, hb⟩
theorem noR_head {s : ByteArray} (h : s.data.toList.head? ≠ some 40) : NoR s := fun t ht => by
  cases hp : pkB (fl t emP)
  · rfl
  · exact absurd (rm_small ht hp).2 h
theorem noR_size {s : ByteArray} (h : 20000 < s.size) : NoR s := fun t ht => by
  cases hp : pkB (fl t emP)
  · rfl
  · have := (rm_small ht hp).1
    rw [ba_len] at this
    omega
set_option maxHeartbeats 4000000 in
theorem x_model (s : ByteArray) (w : World) (hs9 : s.size ≤ 1048576) : Calls Try.prog 14 #[.string s] w (MdAns s w) := by
  by_cases h0 : s.size = 0
  · have hl : s.toList = [] := by
      have : s = ⟨#[]⟩ := by cases s; rename_i a; have : a.size = 0 := h0; rw [Array.size_eq_zero_iff] at this; rw [this]
      rw [this, ByteArray.toList_eq]
    have hl2 : s.toList.isEmpty = true := by rw [hl]; rfl
    have HN : Hid (NoR s) := hide (noR_head (by rw [← ByteArray.toList_eq, hl]; simp))
    go_enter Try.func14, Try.ntmps14
    go_wp2
    go_ret2
    exact md_none HN.out ((Below.refl _ _).alloc (Nat.le_refl _) _)
  · have hl2 : s.toList.isEmpty = false := by
      rw [ByteArray.toList_eq]
      cases h : s.data.toList with
      | nil =>
        exfalso
        apply h0
        have := congrArg List.length h
        simpa using this
      | cons a l => rfl
    have hi0 : (0 : Int) < (s.size : Int) := by omega
    have h0' : 0 < s.size := by omega
    cases hb : (((s[0].toNat : Int)) != 40)
    · by_cases hs : s.size ≤ 20000
      case neg =>
        have hs2 : (20000 : Int) < (s.size : Int) := by omega
        have hs3 : decide ((s.size : Int) > 20000) = true := decide_eq_true (by omega)
        have HN : Hid (NoR s) := hide (noR_size (by omega))
        go_enter Try.func14, Try.ntmps14
        go_wp2
        go_ret2
        exact md_none HN.out ((Below.refl _ _).alloc (Nat.le_refl _) _)
      have hs2 : ¬ (20000 : Int) < (s.size : Int) := by omega
      have hs3 : decide ((s.size : Int) > 20000) = false := decide_eq_false (by omega)
      have H8 : Hid (L8 (w.alloc (.cells #[.string s, .int .i64 0, .bool false, .slice none 0 0] 58)) w.heap.size s 0 false none 0 0) := hide (heap_alloc_new w _)
      have HB0 : Hid (Below w.heap.size w (w.alloc (.cells #[.string s, .int .i64 0, .bool false, .slice none 0 0] 58))) := hide ((Below.refl _ _).alloc (Nat.le_refl _) _)
      go_enter Try.func14, Try.ntmps14
      go_wp2_with fail
      obtain ⟨w1, hw1⟩ : ∃ w1, w.alloc (.cells #[.string s, .int .i64 0, .bool false, .slice none 0 0] 58) = w1 := ⟨_, rfl⟩
      have hsz : w1.heap.size = w.heap.size + 1 := by rw [← hw1]; simp
      rw [hw1] at H8 HB0
      try rw [hw1]
      clear hw1
      refine (x_item w.heap.size w.heap.size s hs 11 0 (by omega) (by omega) (by omega) 0 0 false none 0 emP (fun _ => False) w1 (by omega) (by omega) (by omega) H8.out (po_nil _ _ _)).mono ?_
      rintro e w2 ⟨x, p', bd', ad, m', c, D, rfl, h8, hp, hbb, hb2, hm, hpo, hk, hnew, hx, hf⟩
      have H9 := hide h8
      have HF := hide (hf rfl)
      clear hf hx
      have HPO := hide (po_imp (T := fun j => w.heap.size ≤ j) hpo (fun j _ hj => by rcases hj with hj | hj; exact hj.elim; omega))
      have HB2 := hide (HB0.out.trans (kp_below (B := w.heap.size) hk (by omega) (fun j hj => by rcases hj with e | e; omega; cases e)))
      obtain ⟨r0, r1, r2, r3⟩ := l8_cells h8
      clear h8 hpo hk hnew H8 HB0
      cases bd'
      case true =>
        have HN : Hid (NoR s) := hide (noR_T (HF.out.2 rfl))
        clear HF
        go_wp2
        go_ret2
        exact md_none HN.out HB2.out
      case false =>
        have hm40 := (hb2 rfl).2
        obtain ⟨t, ht, hD⟩ := HF.out.1 rfl
        have HT := hide ht
        clear HF ht
        subst hD
        by_cases hlt : p' < s.size
        · have hlt' : (p' : Int) < (s.size : Int) := by omega
          have hlt2 : decide ((p' : Int) < (s.size : Int)) = true := decide_eq_true hlt'
          have HN : Hid (NoR s) := hide (fun t' ht' => by
            have e9 := (rd_one t t' _ _ _ HT.out ht').2
            have e8 := congrArg List.length e9
            unfold dr at e8
            simp at e8
            omega)
          go_wp2
          go_ret2
          exact md_none HN.out HB2.out
        · have hlt' : ¬ (p' : Int) < (s.size : Int) := by omega
          have hlt2 : decide ((p' : Int) < (s.size : Int)) = false := decide_eq_false hlt'
          have HT2 : Hid (rdP t s.data.toList []) := hide (by have h9 := HT.out; rw [dr_end s p' (by omega)] at h9; exact h9)
          have CP := hide (s_particle (fl t emP) m' ad c w2 (po_at HPO.out).1 (po_tot HPO.out (by omega)) (po_at HPO.out).2)
          cases hpk : pkB (fl t emP)
          · rw [hpk] at CP
            go_wp2_with (first | (go_at_call 26; refine CP.out.mono ?_; rintro e w3 ⟨rfl, hb3⟩; have HB3 := hide (HB2.out.trans (hb3.mono HB2.out.size)); clear hb3))
            go_ret2
            exact md_none (noR_one HT2.out hpk) HB3.out
          · rw [hpk] at CP
            go_wp2_with fail
            refine CP.out.mono ?_
            rintro e w3 ⟨rfl, hb3⟩
            have H3 : Hid (L8 w3 w.heap.size s p' false ad m' c) := hide ((hb3.block _ (l8_lt H9.out)).trans H9.out)
            have HB3 := hide (HB2.out.trans (hb3.mono HB2.out.size))
            have HP3 : Hid (PO w.heap.size (fun j => w.heap.size ≤ j) w3 ad m' c (fl t emP)) := hide (po_kp (T := fun _ => False) HPO.out ⟨hb3.os, hb3.tape, hb3.output, hb3.size, fun k hk _ => hb3.block k hk⟩ (fun _ _ x => x) (fun _ _ _ _ _ _ _ _ _ x => x))
            obtain ⟨y0, y1, y2, y3⟩ := l8_cells H3.out
            clear hb3 r0 r1 r2 r3
            go_wp2
            go_ret2
            exact .inl ⟨t, ad, m', c, HT2.out, hpk, rfl, HP3.out, (po_at HP3.out).1.symm, HB3.out⟩
    · have HN : Hid (NoR s) := hide (noR_head (by
        rw [show s.data.toList = dr s 0 from rfl, dr_at s 0 h0']
        intro e
        simp at e
        rw [e] at hb
        simp at hb))
      go_enter Try.func14, Try.ntmps14
      go_wp2
      go_ret2
      exact md_none HN.out ((Below.refl _ _).alloc (Nat.le_refl _) _)
end Go.Proofs.Ytfohfljdgmlibaa

/-
  Plain facts, of no program: what has become of memory where only some blocks were written; the shape of rows of model nodes and their kids.
-/
namespace Go.Proofs.Ytfohfljdgmlibaa
open Go.RowKit Go.Joins
set_option linter.unusedVariables false
set_option linter.unusedSimpArgs false
/-- Of the blocks that were there only those from lo up to hi (without it) may have been written; all keep their shape. -/
structure Chg (lo hi : Nat) (w w' : World) : Prop where
  os : w'.os = w.os
  tape : w'.tape = w.tape
  output : w'.output = w.output
  size : w.heap.size ≤ w'.heap.size
  block : ∀ j, j < w.heap.size → (j < lo ∨ hi ≤ j) → w'.heap[j]? = w.heap[j]?
  shape : ∀ (j : Nat) (cs : Array Value) (T : TypeId), w.heap[j]? = some (Obj.cells cs T (0, 0)) → ∃ cs' : Array Value, w'.heap[j]? = some (Obj.cells cs' T (0, 0)) ∧ cs'.size = cs.size
theorem Chg.refl (lo hi : Nat) (w : World) : Chg lo hi w w := ⟨rfl, rfl, rfl, Nat.le_refl _, fun _ _ _ => rfl, fun j cs T h => ⟨cs, h, rfl⟩⟩
theorem Chg.trans {lo hi : Nat} {w w1 w2 : World} (h1 : Chg lo hi w w1) (h2 : Chg lo hi w1 w2) : Chg lo hi w w2 :=
  ⟨h2.os.trans h1.os, h2.tape.trans h1.tape, h2.output.trans h1.output, Nat.le_trans h1.size h2.size, fun j hj hc => (h2.block j (Nat.lt_of_lt_of_le hj h1.size) hc).trans (h1.block j hj hc), fun j cs T h => by
    obtain ⟨c1, e1, s1⟩ := h1.shape j cs T h
    obtain ⟨c2, e2, s2⟩ := h2.shape j c1 T e1
    exact ⟨c2, e2, s2.trans s1⟩⟩
theorem Chg.wide {lo hi lo' hi' : Nat} {w w' : World} (h : Chg lo hi w w') (h1 : lo' ≤ lo) (h2 : hi ≤ hi') : Chg lo' hi' w w' :=
  ⟨h.os, h.tape, h.output, h.size, fun j hj hc => h.block j hj (by omega), h.shape⟩
theorem chg_below {lo hi : Nat} {w w' : World} (h : Below w.heap.size w w') : Chg lo hi w w' := ⟨h.os, h.tape, h.output, h.size, fun j hj _ => h.block j hj, fun j cs T e => ⟨cs, (h.block j (Array.getElem?_eq_some_iff.1 e).1).trans e, rfl⟩⟩
theorem chg_set {lo hi : Nat} {w : World} (G i : Nat) (v : Value) (h1 : lo ≤ G) (h2 : G < hi) : Chg lo hi w (w.setCell ⟨G, i, none⟩ v) :=
  ⟨rfl, rfl, rfl, by rw [heap_setCell_size]; exact Nat.le_refl _, fun j hj hc => heap_setCell_far _ _ _ _ (by show G ≠ j; omega), fun j cs T e => by
    by_cases h : G = j
    · subst h; exact ⟨_, block_setCell e v, by simp⟩
    · exact ⟨cs, (heap_setCell_far _ _ _ _ h).trans e, rfl⟩⟩
theorem below_chg {b lo hi : Nat} {w w1 w2 : World} (h : Below b w w1) (hbw : b ≤ w.heap.size) (hlo : b ≤ lo) (k : Chg lo hi w1 w2) : Below b w w2 :=
  ⟨k.os.trans h.os, k.tape.trans h.tape, k.output.trans h.output, Nat.le_trans h.size k.size, fun j hj => (k.block j (Nat.lt_of_lt_of_le (Nat.lt_of_lt_of_le hj hbw) h.size) (.inl (by omega))).trans (h.block j hj)⟩
/-- Block G has room for m numbers. -/
def ShA (w : World) (G m : Nat) : Prop := ∃ cs T, w.heap[G]? = some (.cells cs T (0, 0)) ∧ cs.size = m * 1
theorem shA_chg {lo hi : Nat} {w w' : World} {G m : Nat} (h : ShA w G m) (k : Chg lo hi w w') : ShA w' G m := by
  obtain ⟨cs, T, h1, h2⟩ := h
  obtain ⟨cs', h3, h4⟩ := k.shape G cs T h1
  exact ⟨cs', T, h3, by omega⟩
theorem shA_cell {w : World} {G m : Nat} (h : ShA w G m) (i : Nat) (hi : i < m * 1) : (∃ v, w.cell? ⟨G, i, none⟩ = some v) ∧ w.frozen? ⟨G, i, none⟩ = false := by
  obtain ⟨cs, T, h1, h2⟩ := h
  refine ⟨⟨cs[i]'(by omega), ?_⟩, by simp [World.frozen?, h1]⟩
  rw [cell_of_row w G i _ T (0, 0) h1, Array.getElem?_eq_getElem (by omega)]
/-- Block g has n nodes, each with its kids in a block of its own. -/
def ShI (w : World) (g n : Nat) (AC : Nat → Nat) (lo hi : Nat) : Prop := ∃ cs T, w.heap[g]? = some (.cells cs T (0, 0)) ∧ cs.size = n * 4 ∧ (lo ≤ g ∧ g < hi) ∧ ∀ j, j < n → ∃ G, (lo ≤ G ∧ G < hi ∧ G ≠ g) ∧ cs[j * 4 + 2]? = some (.slice (some ⟨G, 0, none⟩) (AC j) (AC j)) ∧ ShA w G (AC j)
theorem shI_go {w w' : World} {g n lo hi lo' hi' : Nat} {AC : Nat → Nat} (h : ShI w g n AC lo hi) (k : Chg lo' hi' w w') (hg : g < lo' ∨ hi' ≤ g) : ShI w' g n AC lo hi := by
  obtain ⟨cs, T, h1, h2, h3, h4⟩ := h
  refine ⟨cs, T, (k.block g (Array.getElem?_eq_some_iff.1 h1).1 hg).trans h1, h2, h3, fun j hj => ?_⟩
  obtain ⟨G, q1, q2, q3⟩ := h4 j hj
  exact ⟨G, q1, q2, shA_chg q3 k⟩
theorem shI_set {w : World} {g n lo hi i : Nat} {AC : Nat → Nat} (h : ShI w g n AC lo hi) (v : Value) (hi' : ∀ j, j * 4 + 2 ≠ i) : ShI (w.setCell ⟨g, i, none⟩ v) g n AC lo hi := by
  obtain ⟨cs, T, h1, h2, h3, h4⟩ := h
  refine ⟨_, T, block_setCell h1 v, by simpa using h2, h3, fun j hj => ?_⟩
  obtain ⟨G, q1, q2, q3⟩ := h4 j hj
  refine ⟨G, q1, ?_, shA_chg q3 (chg_set (lo := g) (hi := g + 1) g i v (Nat.le_refl _) (by omega))⟩
  rw [Array.getElem?_setIfInBounds_ne (by have := hi' j; omega)]
  exact q2
theorem shI_cell {w : World} {g n lo hi : Nat} {AC : Nat → Nat} (h : ShI w g n AC lo hi) (i : Nat) (hi' : i < n * 4) : (∃ v, w.cell? ⟨g, i, none⟩ = some v) ∧ w.frozen? ⟨g, i, none⟩ = false := by
  obtain ⟨cs, T, h1, h2, -⟩ := h
  refine ⟨⟨cs[i]'(by omega), ?_⟩, by simp [World.frozen?, h1]⟩
  rw [cell_of_row w g i _ T (0, 0) h1, Array.getElem?_eq_getElem (by omega)]
theorem shI_at {w : World} {g n lo hi : Nat} {AC : Nat → Nat} (h : ShI w g n AC lo hi) (j : Nat) (hj : j < n) : ∃ G, (lo ≤ G ∧ G < hi ∧ G ≠ g) ∧ w.cell? ⟨g, j * 4 + 2, none⟩ = some (.slice (some ⟨G, 0, none⟩) (AC j) (AC j)) ∧ ShA w G (AC j) := by
  obtain ⟨cs, T, h1, h2, -, h4⟩ := h
  obtain ⟨G, q1, q2, q3⟩ := h4 j hj
  exact ⟨G, q1, by rw [cell_of_row w g _ _ T (0, 0) h1]; exact q2, q3⟩
theorem shI_in {w : World} {g n lo hi : Nat} {AC : Nat → Nat} (h : ShI w g n AC lo hi) : lo ≤ g ∧ g < hi := by
  obtain ⟨cs, T, -, -, h3, -⟩ := h
  exact h3
theorem own_shA {w : World} {B g n t : Nat} {xs : List Value} (h : w.ownsRow B t 1 (.slice (some ⟨g, 0, none⟩) n n) n xs) : ShA w g n := by
  rcases h.2 with ⟨hv, -⟩ | ⟨g', cap, cur, hv, -, hg, -, -, hs, -⟩
  · cases hv
  · simp only [Value.slice.injEq, Option.some.injEq, Addr.mk.injEq] at hv
    obtain ⟨⟨rfl, -⟩, -, rfl⟩ := hv
    exact ⟨cur, t, hg, hs⟩
end Go.Proofs.Ytfohfljdgmlibaa
