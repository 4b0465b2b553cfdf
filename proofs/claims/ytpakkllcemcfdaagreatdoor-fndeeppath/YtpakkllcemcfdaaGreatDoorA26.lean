/-
  Plain facts on a document that is drawn, of no program's run: a row of items of the draw's own, their attributes in blocks that stay.
-/
import Derived.Test.YtpakkllcemcfdaaGreatDoorA25
import Derived.Test.YtpakkllcemcfdaaGreatDoorA1
import Derived.Test.YtpakkllcemcfdaaGreatDoorA13
namespace Go.Proofs.YtpakkllcemcfdaaGreatDoor
open Go.RowKit Go.Joins
set_option linter.unusedVariables false
set_option linter.unusedSimpArgs false
abbrev IT : TypeId := 32
abbrev AT : TypeId := 42
/-- Blocks of attributes stay. -/
def KeepA (w w' : World) : Prop := w.heap.size ≤ w'.heap.size ∧ ∀ (b : Nat) (cs : Array Value) (fr : Nat × Nat), w.heap[b]? = some (.cells cs AT fr) → w'.heap[b]? = some (.cells cs AT fr)
theorem keepA_refl (w : World) : KeepA w w := ⟨Nat.le_refl _, fun _ _ _ h => h⟩
theorem keepA_step {w0 w w' : World} {row : Option Nat} (h : KeepA w0 w) (hg : w.grownBy w' row) (hr : ∀ k, row = some k → w0.heap.size ≤ k ∨ ∃ cs T fr, w.heap[k]? = some (.cells cs T fr) ∧ T ≠ AT) : KeepA w0 w' := by
  refine ⟨Nat.le_trans h.1 hg.size, fun b cs fr hb => ?_⟩
  have h1 := h.2 b cs fr hb
  have hlt := (Array.getElem?_eq_some_iff.1 h1).1
  have hlt0 := (Array.getElem?_eq_some_iff.1 hb).1
  refine (hg.block b hlt fun e => ?_).trans h1
  rcases hr b e.symm with h2 | ⟨cs', T, fr', h2, h3⟩
  · omega
  · rw [h1] at h2
    simp only [Option.some.injEq, Obj.cells.injEq] at h2
    exact h3 h2.2.1.symm
theorem keepA_below {w0 w w' : World} (h : KeepA w0 w) (hb : Below w.heap.size w w') : KeepA w0 w' :=
  ⟨Nat.le_trans h.1 hb.size, fun b cs fr hb0 => (hb.block b (Array.getElem?_eq_some_iff.1 (h.2 b cs fr hb0)).1).trans (h.2 b cs fr hb0)⟩
theorem keepA_trans {w0 w w' : World} (h : KeepA w0 w) (k : KeepA w w') : KeepA w0 w' := ⟨Nat.le_trans h.1 k.1, fun b cs fr hb => k.2 b cs fr (h.2 b cs fr hb)⟩
theorem grown_set (w : World) (p : Addr) (v : Value) : w.grownBy (w.setCell p v) (some p.block) := ⟨rfl, rfl, rfl, by simp [World.setCell], fun k hk hne => heap_setCell_far w p v k (fun e => hne (by rw [e]))⟩
theorem keepA_drew {w0 w w' : World} {G : Nat} {a : Option Addr} {n cap : Nat} {zs : List Int} (h : KeepA w0 w) (hr : RdAt w G a n cap zs) (hd : Drew G a n cap zs w w') : KeepA w0 w' := by
  refine keepA_step h hd.2 fun k hk => ?_
  cases hk
  obtain ⟨⟨p, -, hG⟩, -⟩ := hr
  exact .inr ⟨_, _, _, hG, by decide⟩
theorem keepA_own {w0 w w' : World} {B : Nat} {v : Value} {m : Nat} {xs : List Value} (h : KeepA w0 w) (ho : w.ownsRow B IT 4 v m xs) (hg : w.grownBy w' v.ownBlock) : KeepA w0 w' := by
  refine keepA_step h hg fun k hk => ?_
  rcases ho.2 with ⟨hv, -⟩ | ⟨g, cp, cur, hv, -, hh, -⟩
  · rw [hv] at hk; cases hk
  · rw [hv] at hk
    cases hk
    exact .inr ⟨_, _, _, hh, by decide⟩
/-- A row of attributes in a block that stays. -/
def AtD (w : World) (ad : Option Addr) (n : Nat) (N V : Nat → ByteArray) : Prop := 0 < n → ∃ b off cs fr, ad = some ⟨b, off, none⟩ ∧ w.heap[b]? = some (.cells cs AT fr) ∧ ∀ k, k < n → cs[off + k * 2]? = some (.string (N k)) ∧ cs[off + k * 2 + 1]? = some (.string (V k))
theorem atD_keep {w w' : World} {ad : Option Addr} {n : Nat} {N V : Nat → ByteArray} (h : AtD w ad n N V) (k : KeepA w w') : AtD w' ad n N V := fun h0 => by
  obtain ⟨b, off, cs, fr, e, hb, hc⟩ := h h0
  exact ⟨b, off, cs, fr, e, k.2 b cs fr hb, hc⟩
theorem atD_at {w : World} {ad : Option Addr} {n : Nat} {N V : Nat → ByteArray} (h : AtD w ad n N V) : AtAt w ad n N V w.heap.size := fun h0 => by
  obtain ⟨b, off, cs, fr, e, hb, hc⟩ := h h0
  refine ⟨b, off, e, (Array.getElem?_eq_some_iff.1 hb).1, fun k hk => ⟨?_, ?_⟩⟩
  · rw [cell_of_row w b _ cs AT fr hb]; exact (hc k hk).1
  · rw [cell_of_row w b _ cs AT fr hb]; exact (hc k hk).2
theorem atD_own {w : World} {B : Nat} {ad : Option Addr} {m c : Nat} {ys : List Value} {N V : Nat → ByteArray} (h : w.ownsRow B AT 2 (.slice ad m c) m ys) (hp : PairsS ys m N V) : AtD w ad m N V := fun h0 => by
  rcases h.2 with ⟨hv, h9⟩ | ⟨g, cp, cur, hv, -, hh, -, -, hs, ht⟩
  · omega
  · simp only [Value.slice.injEq] at hv
    obtain ⟨rfl, -, -⟩ := hv
    refine ⟨g, 0, cur, _, rfl, hh, fun k hk => ?_⟩
    have e : ∀ i, i < m * 2 → cur[i]? = ys[i]? := fun i hi => by
      rw [← ht, List.getElem?_take_of_lt hi, Array.getElem?_toList]
    rw [Nat.zero_add, e _ (by omega), e _ (by omega)]
    exact hp k hk
theorem atD_less {w : World} {ad : Option Addr} {n m : Nat} {N V : Nat → ByteArray} (h : AtD w ad n N V) (hm : m ≤ n) : AtD w ad m N V := fun h0 => by
  obtain ⟨b, off, cs, fr, e, hb, hc⟩ := h (by omega)
  exact ⟨b, off, cs, fr, e, hb, fun k hk => hc k (by omega)⟩
def Small (D : Dc) (j : Nat) : Prop := (D.NM j).size ≤ 8 ∧ (D.TX j).size ≤ 8 ∧ D.AC j ≤ 8 ∧ ∀ k, k < D.AC j → (D.AN j k).size ≤ 8 ∧ (D.AV j k).size ≤ 8
/-- The cells of a row are those of the items of D. -/
def Its (w : World) (xs : List Value) (m : Nat) (D : Dc) : Prop := D.n = m ∧ ∀ j, j < m → ∃ ad cp, (xs[j * 4]? = some (.int .i64 (D.U j)) ∧ xs[j * 4 + 1]? = some (.string (D.NM j)) ∧ xs[j * 4 + 2]? = some (.string (D.TX j)) ∧ xs[j * 4 + 3]? = some (.slice ad (D.AC j) cp)) ∧ AtD w ad (D.AC j) (D.AN j) (D.AV j) ∧ D.AC j ≤ cp ∧ Small D j
theorem its_keep {w w' : World} {xs : List Value} {m : Nat} {D : Dc} (h : Its w xs m D) (k : KeepA w w') : Its w' xs m D := ⟨h.1, fun j hj => by
  obtain ⟨ad, cp, h1, h2, h3⟩ := h.2 j hj
  exact ⟨ad, cp, h1, atD_keep h2 k, h3⟩⟩
def Dc.put (D : Dc) (u : Int) (nm tx : ByteArray) (ac : Nat) (an av : Nat → ByteArray) : Dc :=
  ⟨D.n + 1, fun j => if j = D.n then u else D.U j, fun j => if j = D.n then nm else D.NM j, fun j => if j = D.n then tx else D.TX j, fun j => if j = D.n then ac else D.AC j, fun j => if j = D.n then an else D.AN j, fun j => if j = D.n then av else D.AV j⟩
theorem its_put {w : World} {xs : List Value} {m : Nat} {D : Dc} (h : Its w xs m D) (hl : xs.length = m * 4) (u : Int) (nm tx : ByteArray) (ad : Option Addr) (ac cp : Nat) (an av : Nat → ByteArray) (ha : AtD w ad ac an av) (hc : ac ≤ cp) (h1 : nm.size ≤ 8) (h2 : tx.size ≤ 8) (h3 : ac ≤ 8) (h4 : ∀ k, k < ac → (an k).size ≤ 8 ∧ (av k).size ≤ 8) :
    Its w (xs ++ [.int .i64 u, .string nm, .string tx, .slice ad ac cp]) (m + 1) (D.put u nm tx ac an av) := by
  obtain ⟨hn, hi⟩ := h
  refine ⟨by show D.n + 1 = _; omega, fun j hj => ?_⟩
  by_cases e : j = m
  · subst e
    have e1 : j = D.n := hn.symm
    refine ⟨ad, cp, ?_, ?_, ?_, ?_⟩
    · simp only [Dc.put, if_pos e1]
      rw [List.getElem?_append_right (by omega), List.getElem?_append_right (by omega), List.getElem?_append_right (by omega), List.getElem?_append_right (by omega), hl, show j * 4 - j * 4 = 0 by omega, show j * 4 + 1 - j * 4 = 1 by omega, show j * 4 + 2 - j * 4 = 2 by omega, show j * 4 + 3 - j * 4 = 3 by omega]
      exact ⟨rfl, rfl, rfl, rfl⟩
    · simp only [Dc.put, if_pos e1]; exact ha
    · simp only [Dc.put, if_pos e1]; exact hc
    · simp only [Small, Dc.put, if_pos e1]; exact ⟨h1, h2, h3, h4⟩
  · obtain ⟨ad', cp', c, h5, h6, h7⟩ := hi j (by omega)
    have e1 : ¬ j = D.n := by omega
    refine ⟨ad', cp', ?_, ?_, ?_, ?_⟩
    · simp only [Dc.put, if_neg e1]
      rw [List.getElem?_append_left (by omega), List.getElem?_append_left (by omega), List.getElem?_append_left (by omega), List.getElem?_append_left (by omega)]
      exact c
    · simp only [Dc.put, if_neg e1]; exact h5
    · simp only [Dc.put, if_neg e1]; exact h6
    · simp only [Small, Dc.put, if_neg e1]; exact h7
/-- A drawn row of items. -/
def DrIt (B : Nat) (w : World) (ad : Option Addr) (m c : Nat) (D : Dc) : Prop := ∃ xs, w.ownsRow B IT 4 (.slice ad m c) m xs ∧ Its w xs m D
theorem drIt_kept {B m c : Nat} {w w' : World} {ad : Option Addr} {D : Dc} {row : Option Nat} (h : DrIt B w ad m c D) (hg : w.grownBy w' row) (hne : ∀ k, row = some k → (Value.slice ad m c).ownBlock ≠ some k) (hk : KeepA w w') : DrIt B w' ad m c D := by
  obtain ⟨xs, h1, h2⟩ := h
  refine ⟨xs, h1.kept hg ?_, its_keep h2 hk⟩
  cases hv : (Value.slice ad m c).ownBlock with
  | none => exact .inl rfl
  | some k => exact .inr fun e => hne k e.symm (by rw [hv])
theorem drIt_below {B m c : Nat} {w w' : World} {ad : Option Addr} {D : Dc} (h : DrIt B w ad m c D) (hb : Below w.heap.size w w') : DrIt B w' ad m c D := by
  obtain ⟨xs, h1, h2⟩ := h
  exact ⟨xs, gOwn_after h1 hb, its_keep h2 (keepA_below (keepA_refl w) hb)⟩
theorem drIt_lt {B m c : Nat} {w : World} {ad : Option Addr} {D : Dc} (h : DrIt B w ad m c D) : ∀ k, (Value.slice ad m c).ownBlock = some k → B ≤ k ∧ k < w.heap.size := by
  obtain ⟨xs, h1, h2⟩ := h
  exact h1.lt
theorem drIt_cells {B m c : Nat} {w : World} {ad : Option Addr} {D : Dc} (h : DrIt B w ad m c D) (h0 : 0 < m) : ∃ g, ad = some ⟨g, 0, none⟩ ∧ B ≤ g ∧ g < w.heap.size ∧ DcRow w g 0 D w.heap.size := by
  obtain ⟨xs, h1, hn, hi⟩ := h
  rcases h1.2 with ⟨hv, h9⟩ | ⟨g, cp, cur, hv, hB, hh, rest⟩
  · omega
  · simp only [Value.slice.injEq] at hv
    obtain ⟨rfl, _, rfl⟩ := hv
    refine ⟨g, rfl, hB, (h1.lt g rfl).2, fun j hj => ?_⟩
    obtain ⟨ad', cp', ⟨c0, c1, c2, c3⟩, ha, hc, -⟩ := hi j (by omega)
    refine ⟨ad', cp', ⟨?_, ?_, ?_, ?_⟩, atD_at ha, hc⟩
    · rw [Nat.zero_add, h1.cellAt (j * 4) (by omega)]; exact c0
    · rw [Nat.zero_add, h1.cellAt (j * 4 + 1) (by omega)]; exact c1
    · rw [Nat.zero_add, h1.cellAt (j * 4 + 2) (by omega)]; exact c2
    · rw [Nat.zero_add, h1.cellAt (j * 4 + 3) (by omega)]; exact c3
theorem drIt_dc {B m c : Nat} {w : World} {ad : Option Addr} {D : Dc} (h : DrIt B w ad m c D) : D.n = m ∧ DcAt w ad D w.heap.size := by
  have hn : D.n = m := by obtain ⟨xs, h1, hn, hi⟩ := h; exact hn
  refine ⟨hn, fun h0 => ?_⟩
  obtain ⟨g, e, -, hg, hr⟩ := drIt_cells h (by omega)
  exact ⟨g, 0, e, hg, hr⟩
theorem sumN_small (f : Nat → Nat) (K : Nat) : ∀ m, (∀ j, j < m → f j ≤ K) → sumN f m ≤ m * K
  | 0, h => by simp [sumN]
  | m + 1, h => by
    have h1 := sumN_small f K m (fun j hj => h j (by omega))
    have h2 := h m (by omega)
    show sumN f m + f m ≤ _
    rw [Nat.add_mul]
    omega
theorem drIt_tot {B m c : Nat} {w : World} {ad : Option Addr} {D : Dc} (h : DrIt B w ad m c D) (hm : m ≤ 1000) : dcTot D ≤ 1048576 := by
  obtain ⟨xs, h1, hn, hi⟩ := h
  have h2 : ∀ j, j < D.n → itSz D j ≤ 1000 := fun j hj => by
    obtain ⟨ad', cp', -, -, -, s1, s2, s3, s4⟩ := hi j (by omega)
    have h3 := sumN_small (atSz (D.AN j) (D.AV j)) 16 (D.AC j) (fun k hk => by have := s4 k hk; unfold atSz; omega)
    unfold itSz atTot
    have : D.AC j * 16 ≤ 8 * 16 := Nat.mul_le_mul_right _ s3
    omega
  have h4 := sumN_small (itSz D) 1000 D.n h2
  have : D.n * 1000 ≤ 1000 * 1000 := Nat.mul_le_mul_right _ (by omega)
  unfold dcTot
  omega
end Go.Proofs.YtpakkllcemcfdaaGreatDoor
