/-
  Plain facts: an item's attributes while they are put anew.
-/
import Derived.Test.YtogeicckbdfldaaDoorSpRows
import Derived.Test.YtogeicckbdfldaaDoorRegLast
namespace Go.Proofs.YtogeicckbdfldaaDoor
open Go.RowKit Go.Joins
set_option linter.unusedVariables false
set_option linter.unusedSimpArgs false
def prs (N V : Nat → ByteArray) : Nat → List Value
  | 0 => []
  | k + 1 => prs N V k ++ [.string (N k), .string (V k)]
theorem prs_len (N V : Nat → ByteArray) : ∀ k, (prs N V k).length = k * 2
  | 0 => rfl
  | k + 1 => by rw [prs, List.length_append, prs_len N V k]; show k * 2 + 2 = (k + 1) * 2; omega
theorem prs_get (N V : Nat → ByteArray) : ∀ k, PairsS (prs N V k) k N V
  | 0, j, h => by omega
  | k + 1, j, h => by
    have hl := prs_len N V k
    rw [prs]
    by_cases e : j < k
    · have := prs_get N V k j e
      rw [List.getElem?_append_left (by omega), List.getElem?_append_left (by omega)]
      exact this
    · have e : j = k := by omega
      subst e
      rw [List.getElem?_append_right (by omega), List.getElem?_append_right (by omega), hl, Nat.sub_self, show j * 2 + 1 - j * 2 = 1 by omega]
      exact ⟨rfl, rfl⟩
theorem prs_one (N V : Nat → ByteArray) : ∀ k, ∀ u ∈ prs N V k, u.oneCell' = true
  | 0, u, h => by cases h
  | k + 1, u, h => by
    rw [prs, List.mem_append] at h
    rcases h with h | h
    · exact prs_one N V k u h
    · simp at h; rcases h with rfl | rfl <;> rfl
def joinF (k : Nat) (N M : Nat → ByteArray) : Nat → ByteArray := fun j => if j < k then N j else M (j - k)
theorem prs_same {N V M W : Nat → ByteArray} : ∀ k, (∀ j, j < k → N j = M j ∧ V j = W j) → prs N V k = prs M W k
  | 0, h => rfl
  | k + 1, h => by rw [prs, prs, prs_same k (fun j hj => h j (by omega)), (h k (by omega)).1, (h k (by omega)).2]
theorem prs_join (k : Nat) (N V M W : Nat → ByteArray) : ∀ q, prs N V k ++ prs M W q = prs (joinF k N M) (joinF k V W) (k + q)
  | 0 => by
    rw [prs, List.append_nil]
    exact prs_same k (fun j hj => by unfold joinF; rw [if_pos hj, if_pos hj]; exact ⟨rfl, rfl⟩)
  | q + 1 => by
    rw [prs, ← List.append_assoc, prs_join k N V M W q]
    have e1 : joinF k N M (k + q) = M q := by unfold joinF; rw [if_neg (by omega), show k + q - k = q by omega]
    have e2 : joinF k V W (k + q) = W q := by unfold joinF; rw [if_neg (by omega), show k + q - k = q by omega]
    rw [show k + (q + 1) = (k + q) + 1 by omega, prs, e1, e2]
theorem join_small {k q : Nat} {N V M W : Nat → ByteArray} (h1 : ∀ j, j < k → (N j).size ≤ 8 ∧ (V j).size ≤ 8) (h2 : ∀ j, j < q → (M j).size ≤ 8 ∧ (W j).size ≤ 8) : ∀ j, j < k + q → (joinF k N M j).size ≤ 8 ∧ (joinF k V W j).size ≤ 8 := fun j hj => by
  unfold joinF
  by_cases e : j < k
  · rw [if_pos e, if_pos e]; exact h1 j e
  · rw [if_neg e, if_neg e]; exact h2 (j - k) (by omega)
/-- The pairs that lie in memory, as the cells that an append reads. -/
theorem prs_cells {w : World} {b off : Nat} {N V : Nat → ByteArray} {k : Nat} (h : ∀ j, j < k → w.cell? ⟨b, off + j * 2, none⟩ = some (.string (N j)) ∧ w.cell? ⟨b, off + j * 2 + 1, none⟩ = some (.string (V j))) : ∀ j u, (prs N V k)[j]? = some u → w.cell? ((⟨b, off, none⟩ : Addr).add j) = some u := by
  intro j u hu
  have hl := prs_len N V k
  have hj : j < k * 2 := by
    rcases Nat.lt_or_ge j (k * 2) with h' | h'
    · exact h'
    · rw [List.getElem?_eq_none (by omega)] at hu; cases hu
  have hadd : (⟨b, off, none⟩ : Addr).add j = ⟨b, off + j, none⟩ := by unfold Addr.add; split <;> simp_all
  rw [hadd]
  obtain ⟨p1, p2⟩ := prs_get N V k (j / 2) (by omega)
  obtain ⟨c1, c2⟩ := h (j / 2) (by omega)
  rcases (show j = j / 2 * 2 ∨ j = j / 2 * 2 + 1 by omega) with e | e
  · rw [e] at hu; rw [p1] at hu; rw [e, ← hu]; exact c1
  · rw [e] at hu; rw [p2] at hu; rw [e, ← hu]; exact c2
theorem atD_cells {w : World} {ad : Option Addr} {n : Nat} {N V : Nat → ByteArray} (h : AtD w ad n N V) : 0 < n → ∃ p, ad = some p ∧ ∀ j u, (prs N V n)[j]? = some u → w.cell? (p.add j) = some u := fun h0 => by
  obtain ⟨b, off, e, -, hc⟩ := atD_at h h0
  exact ⟨_, e, prs_cells hc⟩
/-- While the attributes of item i are put anew: at its place stands s; the rest is as it was at wX. -/
def GY (G : Nat) (a : Option Addr) (n cap : Nat) (zs : List Int) (wX w : World) (g m c : Nat) (D : Dc) (i : Nat) (s : Value) : Prop :=
  RdAt w G a n cap zs ∧ (∃ xs, w.ownsRow (G + 1) IT 4 (.slice (some ⟨g, 0, none⟩) m c) m (xs.set (i * 4 + 3) s) ∧ xs.length = m * 4 ∧ ItsB wX xs m D) ∧ Below G wX w ∧ KeepA wX w ∧ g < wX.heap.size
section
variable {G : Nat} {a : Option Addr} {n cap : Nat} {zs : List Int} {w0 wX w w' : World} {g m c i : Nat} {D : Dc} {s s' : Value}
theorem gy_start (h : GSB G a n cap zs w0 wX (some ⟨g, 0, none⟩) m c D) (hi : i < m) : ∃ ad cp, GY G a n cap zs wX wX g m c D i (.slice ad (D.AC i) cp) ∧ AtD wX ad (D.AC i) (D.AN i) (D.AV i) ∧ D.AC i ≤ cp ∧ SmallB D i := by
  obtain ⟨h1, ⟨xs, h2, hn, h3⟩, -, -⟩ := h
  obtain ⟨ad, cp, ⟨c0, c1, c2, c3⟩, ha, hc, hs⟩ := h3 i hi
  have hl := h2.1
  have e : xs.set (i * 4 + 3) (.slice ad (D.AC i) cp) = xs := by
    apply List.ext_getElem?
    intro j
    by_cases ej : i * 4 + 3 = j
    · subst ej; rw [List.getElem?_set_self (by omega), c3]
    · rw [List.getElem?_set_ne ej]
  exact ⟨ad, cp, ⟨h1, ⟨xs, by rw [e]; exact h2, hl, hn, h3⟩, Below.refl _ _, keepA_refl _, (h2.lt g rfl).2⟩, ha, hc, hs⟩
theorem gy_G (h : GY G a n cap zs wX w g m c D i s) : G < wX.heap.size := by
  have h1 := h.2.1
  obtain ⟨xs, h2, -⟩ := h1
  have := (h2.lt g rfl).1
  have := h.2.2.2.2
  omega
theorem gy_le (h : GY G a n cap zs wX w g m c D i s) : wX.heap.size ≤ w.heap.size := h.2.2.2.1.1
theorem gy_grown {row : Option Nat} (h : GY G a n cap zs wX w g m c D i s) (hg : w.grownBy w' row) (hr : ∀ k, row = some k → wX.heap.size ≤ k) : GY G a n cap zs wX w' g m c D i s := by
  have hG := gy_G h
  obtain ⟨h1, ⟨xs, h2, h3⟩, h4, h5, h6⟩ := h
  refine ⟨rd_grown h1 hg (fun k hk => by have := hr k hk; omega), ⟨xs, h2.kept hg (.inr (fun e => ?_)), h3⟩, h4.grown hg (Nat.le_of_lt (rd_lt h1)) (fun k hk => by have := hr k hk; omega), keepA_step h5 hg (fun k hk => .inl (hr k hk)), h6⟩
  have := hr g e.symm
  omega
theorem gy_below (h : GY G a n cap zs wX w g m c D i s) (hb : Below w.heap.size w w') : GY G a n cap zs wX w' g m c D i s := gy_grown h (grown_below hb) (fun k hk => by cases hk)
theorem gy_alloc (h : GY G a n cap zs wX w g m c D i s) (o : Obj) : GY G a n cap zs wX (w.alloc o) g m c D i s := gy_below h ((Below.refl _ _).alloc (Nat.le_refl _) o)
theorem gy_drew (h : GY G a n cap zs wX w g m c D i s) (hd : Drew G a n cap zs w w') : GY G a n cap zs wX w' g m c D i s := by
  obtain ⟨h1, ⟨xs, h2, h3⟩, h4, h5, h6⟩ := h
  refine ⟨hd.1, ⟨xs, h2.kept hd.2 (.inr (fun e => ?_)), h3⟩, below_drew h4 hd (Nat.le_of_lt (rd_lt h1)), keepA_drew h5 h1 hd, h6⟩
  have := (h2.lt g rfl).1
  have e2 : g = G := Option.some.inj e
  omega
theorem gy_cell (h : GY G a n cap zs wX w g m c D i s) (hi : i < m) : w.cell? ⟨g, i * 4 + 3, none⟩ = some s ∧ w.frozen? ⟨g, i * 4 + 3, none⟩ = false := by
  obtain ⟨h1, ⟨xs, h2, h3, -⟩, -⟩ := h
  refine ⟨?_, h2.frozenAt _⟩
  rw [h2.cellAt (i * 4 + 3) (by omega), List.getElem?_set_self (by omega)]
theorem gy_store (h : GY G a n cap zs wX w g m c D i s) (s' : Value) : GY G a n cap zs wX (w.setCell ⟨g, i * 4 + 3, none⟩ s') g m c D i s' := by
  obtain ⟨h1, ⟨xs, h2, h3, h4⟩, h5, h6, h7⟩ := h
  have hg := grown_set w ⟨g, i * 4 + 3, none⟩ s'
  have hlt := h2.lt g rfl
  have e := (h2.stored (i * 4 + 3) s').1
  rw [List.set_set] at e
  refine ⟨rd_grown h1 hg (fun k hk => by cases hk; exact (by omega : G < g)), ⟨xs, e, h3, h4⟩, h5.grown hg (Nat.le_of_lt (rd_lt h1)) (fun k hk => by cases hk; exact (by omega : G ≤ g)), ?_, h7⟩
  exact keepA_own h6 h2 hg
/-- The row of attributes: in memory that is newer than wX. -/
def RowX (X : Nat) (w : World) (v : Value) (k : Nat) (N V : Nat → ByteArray) : Prop := w.ownsRow X AT 2 v k (prs N V k) ∧ ∀ j, j < k → (N j).size ≤ 8 ∧ (V j).size ≤ 8
theorem rowX_store {X k : Nat} {v : Value} {N V : Nat → ByteArray} (h : RowX X w v k N V) (hg : g < X) (p : Nat) (s' : Value) : RowX X (w.setCell ⟨g, p, none⟩ s') v k N V := by
  refine ⟨h.1.kept (grown_set w ⟨g, p, none⟩ s') ?_, h.2⟩
  cases hv : v.ownBlock with
  | none => exact .inl rfl
  | some b => exact .inr (fun e => by have h9 := (h.1.lt b hv).1; have e2 : b = g := Option.some.inj e; omega)
theorem rowX_below {X k : Nat} {v : Value} {N V : Nat → ByteArray} (h : RowX X w v k N V) (hb : Below w.heap.size w w') : RowX X w' v k N V := ⟨gOwn_after h.1 hb, h.2⟩
theorem rowX_drew {X k : Nat} {v : Value} {N V : Nat → ByteArray} (h : RowX X w v k N V) (hG : G < X) (hd : Drew G a n cap zs w w') : RowX X w' v k N V := by
  refine ⟨h.1.kept hd.2 ?_, h.2⟩
  cases hv : v.ownBlock with
  | none => exact .inl rfl
  | some b => exact .inr (fun e => by have := (h.1.lt b hv).1; cases e; omega)
theorem gy_fin {sa : Option Addr} {ka ca : Nat} {N V : Nat → ByteArray} (h0 : GSB G a n cap zs w0 wX (some ⟨g, 0, none⟩) m c D) (h : GY G a n cap zs wX w g m c D i (.slice sa ka ca)) (hr : RowX wX.heap.size w (.slice sa ka ca) ka N V) (hk : ka ≤ 16) (hi : i < m) : GSB G a n cap zs w0 w (some ⟨g, 0, none⟩) m c (updA D i ka N V) := by
  obtain ⟨h1, ⟨xs, h2, h3, h4⟩, h5, h6, h7⟩ := h
  refine ⟨h1, ⟨_, h2, its_AB sa ka ca N V hk (own_cap hr.1) hr.2 hi w xs h3 (its_keepB h4 h6) (atD_own hr.1 (prs_get N V ka))⟩, h0.2.2.1.trans h5, keepA_trans h0.2.2.2 h6⟩
end
/-- An append to such a row. -/
theorem wpList_append_any {P : Program} {w : World} {ops : Array Oper} {rest : List Oper} {o : Oper} {a : Act} {Q : Exit → Act → World → Prop} (hgd : o.guard = none) (s x : Operand) (t : TypeId)
    (ho : o.op = .call { callee := .builtin .append, args := #[s, x], argTypes := #[t, t] })
    (base : Nat) (e : TypeId) (i : TypeInfo) (z : Value) (size bytes : Nat) (ht : P.underlying t = some (.slice e)) (hi : P.info? e = some i) (hz : i.zero = some z)
    (hsize : i.size = size) (hby : i.bytes = bytes) (hzs : z.cells.size = size) (hsz : 0 < size)
    (v : Value) (n : Nat) (xs : List Value) (hs : a.eval s = v) (hown : w.ownsRow base e size v n xs)
    (xa : Option Addr) (m c : Nat) (news : List Value) (hx : a.eval x = .slice xa m c) (hl : news.length = m * size) (hnews : 0 < m → ∃ ad, xa = some ad ∧ ∀ j u, news[j]? = some u → w.cell? (ad.add j) = some u) (h1 : ∀ u ∈ news, u.oneCell' = true)
    (h63 : n + m ≤ maxLen) (hbytes : (n + m) * bytes ≤ 140737488355328) (hbase : base ≤ w.heap.size)
    (h : ∀ a' c' w', w'.ownsRow base e size (.slice a' (n + m) c') (n + m) (xs ++ news) → w.grownBy w' v.ownBlock → wpList P ops Q rest (a.put o.dst (.slice a' (n + m) c')) w') : wpList P ops Q (o :: rest) a w :=
  wpList_plain hgd fun _ hK => wp_append_any s x t ho base e i z size bytes ht hi hz hsize hby hzs hsz v n xs hs hown xa m c news hx hl hnews h1 h63 hbytes hbase fun a' c' w' h2 h3 => hK _ _ (h a' c' w' h2 h3)
end Go.Proofs.YtogeicckbdfldaaDoor
