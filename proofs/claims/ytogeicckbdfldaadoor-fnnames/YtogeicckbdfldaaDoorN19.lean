/-
  Texts put together: RegLast, SpA.
-/
import Derived.Test.YtogeicckbdfldaaDoorN8
import Derived.Test.YtogeicckbdfldaaDoorN18
/-
  Plain facts, of no program: a region that draws its order and whose last operation is always the same: what holds ahead of it need not hold behind it; what one operation alone uses is given up when it came up.
-/
namespace Go.Proofs.YtogeicckbdfldaaDoor
open Go.RowKit
set_option linter.unusedVariables false
set_option linter.unusedSimpArgs false
section
variable {P : Program} {ops : Array Oper} {Q : Exit → Act → World → Prop}
theorem getD_ff {l : Array Bool} {i : Nat} (h : l.getD i true = false) : l.getD i false = false := by
  rw [Array.getD_eq_getD_getElem?] at h ⊢
  cases hx : l[i]? with
  | none => rfl
  | some b => rw [hx] at h; exact h
theorem getD_self {l : Array Bool} {i : Nat} (h : i < l.size) : (l.setIfInBounds i true).getD i false = true := by
  rw [Array.getD_eq_getD_getElem?]
  simp [h]
theorem wp_region_last {id : Nat} {w : World} (hm : P.follows .mixedOrders = true)
    (hlow : (List.range ops.size).all (fun i => ((ops[i]?).map fun o => o.after.all fun e => !(Region.binds .any e) || decide (e.on < i)).getD true) = true)
    (A : (Nat → Value) → Act) (D : Nat → Nat) (V : Nat → Value → World → Prop) (J J' : World → Prop) (u0 : Nat → Value) (C : Nat → Option Nat) (need : Nat → Nat → Bool) (L : Nat) (hL : L < ops.size) (hJ : J { w with drawn := w.drawn + 1 })
    (hput : ∀ i o, ops[i]? = some o → ∀ u v, (A u).put o.dst v = A (fun k => if k = D i then v else u k))
    (hD : ∀ i k, i < ops.size → k < ops.size → i ≠ k → D i ≠ D k)
    (hall : ∀ l : Nat → Bool, (∀ i o, ops[i]? = some o → l i = true → ∀ e ∈ o.after, Region.binds .any e = true → l e.on = true) → l L = true → ∀ k, k < ops.size → l k = true)
    (hneed : ∀ l : Nat → Bool, (∀ i o, ops[i]? = some o → l i = true → ∀ e ∈ o.after, Region.binds .any e = true → l e.on = true) → ∀ i o, ops[i]? = some o → (∀ e ∈ o.after, Region.binds .any e = true → l e.on = true) → l i = false → ∀ k, k < ops.size → need k i = false → l k = true → ∃ j, C k = some j ∧ (l j = true ∨ j = i))
    (step : ∀ i o, ops[i]? = some o → i ≠ L → ∀ u w, J w → (∀ e ∈ o.after, Region.binds .any e = true → (C e.on = none ∨ C e.on = some i) → V e.on (u (D e.on)) w) →
      ∀ K : Act → World → Prop, (∀ v w', J w' → V i v w' → (∀ k x, need k i = true → V k x w → V k x w') → K ((A u).put o.dst v) w') →
        if Region.wanted o (yielded ops (A u).tmps) = true then Oper.wp P o (A u) w K Q else K ((A u).put o.dst undef) w)
    (last : ∀ o, ops[L]? = some o → ∀ u w, J w → (∀ k, k < ops.size → k ≠ L → (C k = none ∨ C k = some L) → V k (u (D k)) w) →
      ∀ K : Act → World → Prop, (∀ v w', J' w' → K ((A u).put o.dst v) w') →
        if Region.wanted o (yielded ops (A u).tmps) = true then Oper.wp P o (A u) w K Q else K ((A u).put o.dst undef) w)
    (done : ∀ u w, J' w → Q .normal (A u) w) :
    (Code.region id ops true).wp P Q (A u0) w := by
  refine wp_region_any hm ?_
  refine wpAny_inv (fun l a w => l.size = ops.size ∧ (∀ i o, ops[i]? = some o → l.getD i false = true → ∀ e ∈ o.after, Region.binds .any e = true → l.getD e.on false = true) ∧ (l.getD L false = true → J' w ∧ ∃ u, a = A u) ∧ (l.getD L false = false → J w ∧ ∃ u, a = A u ∧ ∀ k, k < ops.size → l.getD k false = true → (∀ j, C k = some j → l.getD j false = false) → V k (u (D k)) w)) ?_ ?_ _ _ _ _ ?_ ?_
  · rintro l a w ⟨hl, hcl, h1, h2⟩ hr
    have all : ∀ (n : Nat), n ≤ ops.size → ∀ k, k < n → l.getD k false = true := by
      intro n
      induction n with
      | zero => intro _ k hk; omega
      | succ n ih =>
        intro hn k hk
        by_cases e : k < n
        · exact ih (by omega) k e
        · have e : k = n := by omega
          subst e
          have hks : k < ops.size := by omega
          cases hb : l.getD k true with
          | true =>
            rw [Array.getD_eq_getD_getElem?, Array.getElem?_eq_getElem (by omega)] at hb ⊢
            simpa using hb
          | false =>
            exfalso
            have hmem : k ∈ Region.ready .any ops l := by
              refine mem_ready.2 ⟨hb, ops[k], Array.getElem?_eq_getElem hks, fun e he hbd => ?_⟩
              have h1 := List.all_eq_true.1 hlow k (List.mem_range.2 hks)
              rw [Array.getElem?_eq_getElem hks] at h1
              simp only [Option.map_some, Option.getD_some] at h1
              have h2 := Array.all_eq_true_iff_forall_mem.1 h1 e he
              rw [hbd] at h2
              exact ih (by omega) e.on (of_decide_eq_true (by simpa using h2))
            rw [hr] at hmem
            cases hmem
    obtain ⟨hj, u, rfl⟩ := h1 (all ops.size (Nat.le_refl _) L hL)
    exact done u w hj
  · rintro l a w i ⟨hl, hcl, h1, h2⟩ hi
    obtain ⟨h0, o, ho, hdep⟩ := mem_ready.1 hi
    have hilt := (Array.getElem?_eq_some_iff.1 ho).1
    have hif := getD_ff h0
    have hLf : l.getD L false = false := by
      cases hb : l.getD L false with
      | false => rfl
      | true =>
        have := hall (fun k => l.getD k false) hcl hb i hilt
        rw [hif] at this
        cases this
    obtain ⟨hj, u, rfl, hV⟩ := h2 hLf
    have hcl' : ∀ i' o', ops[i']? = some o' → (l.setIfInBounds i true).getD i' false = true → ∀ e ∈ o'.after, Region.binds .any e = true → (l.setIfInBounds i true).getD e.on false = true := by
      intro i' o' ho' hd e he hb
      have hk : l.getD e.on false = true := by
        by_cases e' : i = i'
        · subst e'
          rw [ho] at ho'
          cases ho'
          exact hdep e he hb
        · rw [getD_set_ne false e'] at hd
          exact hcl i' o' ho' hd e he hb
      by_cases e' : i = e.on
      · rw [← e'] at hk; rw [hif] at hk; cases hk
      · rw [getD_set_ne false e']; exact hk
    by_cases hiL : i = L
    · subst hiL
      refine wpOp_step ho (fun K' hK => ?_)
      have hallk : ∀ k, k < ops.size → (l.setIfInBounds i true).getD k false = true := hall (fun k => (l.setIfInBounds i true).getD k false) hcl' (getD_self (by omega))
      refine last o ho u w hj (fun k hk hkL hc => ?_) K' (fun v w' hj' => ?_)
      · have hkd := hallk k hk
        rw [getD_set_ne false (fun e => hkL e.symm)] at hkd
        refine hV k hk hkd (fun j hjc => ?_)
        rcases hc with hc | hc
        · rw [hc] at hjc; cases hjc
        · rw [hc] at hjc; cases hjc; exact hif
      · refine hK _ _ ⟨by simp [hl], hcl', fun _ => ⟨hj', _, hput i o ho u v⟩, fun hf => ?_⟩
        rw [getD_self (by omega)] at hf
        cases hf
    · refine wpOp_step ho (fun K' hK => ?_)
      refine step i o ho hiL u w hj (fun e he hb hc => ?_) K' (fun v w' hj' hv hmono => ?_)
      · have h1 := List.all_eq_true.1 hlow i (List.mem_range.2 hilt)
        rw [ho] at h1
        simp only [Option.map_some, Option.getD_some] at h1
        have h2 := Array.all_eq_true_iff_forall_mem.1 h1 e he
        rw [hb] at h2
        have h3 : e.on < i := of_decide_eq_true (by simpa using h2)
        refine hV e.on (by omega) (hdep e he hb) (fun j hjc => ?_)
        rcases hc with hc | hc
        · rw [hc] at hjc; cases hjc
        · rw [hc] at hjc; cases hjc; exact hif
      · refine hK _ _ ⟨by simp [hl], hcl', fun ht => ?_, fun _ => ⟨hj', _, hput i o ho u v, fun k hk hl' hcn => ?_⟩⟩
        · rw [getD_set_ne false hiL, hLf] at ht
          cases ht
        · by_cases e : i = k
          · subst e; simpa using hv
          · have hd := hD k i hk hilt (fun h => e h.symm)
            rw [if_neg hd]
            rw [getD_set_ne false e] at hl'
            refine hmono k _ ?_ (hV k hk hl' (fun j hjc => ?_))
            · cases hnd : need k i with
              | true => rfl
              | false =>
                exfalso
                obtain ⟨j, hjc, hj2⟩ := hneed (fun k => l.getD k false) hcl i o ho hdep hif k hk hnd hl'
                have hjn := hcn j hjc
                by_cases ej : i = j
                · subst ej
                  rw [getD_self (by omega)] at hjn
                  cases hjn
                · rw [getD_set_ne false ej] at hjn
                  rcases hj2 with hj2 | hj2
                  · have hj3 : l.getD j false = true := hj2
                    rw [hjn] at hj3; cases hj3
                  · exact ej hj2.symm
            · have hjn := hcn j hjc
              by_cases ej : i = j
              · subst ej; exact hif
              · rw [getD_set_ne false ej] at hjn; exact hjn
  · have : left ops.size (Array.replicate ops.size false) ≤ (List.range ops.size).length := List.length_filter_le _ _
    simpa using this
  · have hn : ∀ k, (Array.replicate ops.size false).getD k false = false := fun k => by
      rw [Array.getD_eq_getD_getElem?]
      by_cases hk : k < ops.size
      · simp [hk]
      · simp [hk]
    refine ⟨by simp, fun i o ho h => ?_, fun h => ?_, fun _ => ⟨hJ, u0, rfl, fun k hk h => ?_⟩⟩
    · rw [hn] at h; cases h
    · rw [hn] at h; cases h
    · rw [hn] at h; cases h
end
end Go.Proofs.YtogeicckbdfldaaDoor

/-
  Plain facts: an item's attributes while they are put anew.
-/
namespace Go.Proofs.YtogeicckbdfldaaDoor
open Go.RowKit Go.Joins
set_option linter.unusedVariables false
set_option linter.unusedSimpArgs false
def prs (N V : Nat → ByteArray) : Nat → List Value
  | 0 => []
  | k + 1 => prs N V k ++ [.string (N k), .string (V k)]
theorem prs_len (N V : Nat → ByteArray) : ∀ k, (prs N V k).length = k * 2
  | 0 => rfl
  | k + 1 => by rw [prs, List.length_append, prs_len N V k]; show k * 2 + 2 = (k + 1) * 2; omega
theorem prs_get (N V : Nat → ByteArray) : ∀ k, PairsS (prs N V k) k N V
  | 0, j, h => by omega
  | k + 1, j, h => by
    have hl := prs_len N V k
    rw [prs]
    by_cases e : j < k
    · have := prs_get N V k j e
      rw [List.getElem?_append_left (by omega), List.getElem?_append_left (by omega)]
      exact this
    · have e : j = k := by omega
      subst e
      rw [List.getElem?_append_right (by omega), List.getElem?_append_right (by omega), hl, Nat.sub_self, show j * 2 + 1 - j * 2 = 1 by omega]
      exact ⟨rfl, rfl⟩
theorem prs_one (N V : Nat → ByteArray) : ∀ k, ∀ u ∈ prs N V k, u.oneCell' = true
  | 0, u, h => by cases h
  | k + 1, u, h => by
    rw [prs, List.mem_append] at h
    rcases h with h | h
    · exact prs_one N V k u h
    · simp at h; rcases h with rfl | rfl <;> rfl
def joinF (k : Nat) (N M : Nat → ByteArray) : Nat → ByteArray := fun j => if j < k then N j else M (j - k)
theorem prs_same {N V M W : Nat → ByteArray} : ∀ k, (∀ j, j < k → N j = M j ∧ V j = W j) → prs N V k = prs M W k
  | 0, h => rfl
  | k + 1, h => by rw [prs, prs, prs_same k (fun j hj => h j (by omega)), (h k (by omega)).1, (h k (by omega)).2]
theorem prs_join (k : Nat) (N V M W : Nat → ByteArray) : ∀ q, prs N V k ++ prs M W q = prs (joinF k N M) (joinF k V W) (k + q)
  | 0 => by
    rw [prs, List.append_nil]
    exact prs_same k (fun j hj => by unfold joinF; rw [if_pos hj, if_pos hj]; exact ⟨rfl, rfl⟩)
  | q + 1 => by
    rw [prs, ← List.append_assoc, prs_join k N V M W q]
    have e1 : joinF k N M (k + q) = M q := by unfold joinF; rw [if_neg (by omega), show k + q - k = q by omega]
    have e2 : joinF k V W (k + q) = W q := by unfold joinF; rw [if_neg (by omega), show k + q - k = q by omega]
    rw [show k + (q + 1) = (k + q) + 1 by omega, prs, e1, e2]
theorem join_small {k q : Nat} {N V M W : Nat → ByteArray} (h1 : ∀ j, j < k → (N j).size ≤ 8 ∧ (V j).size ≤ 8) (h2 : ∀ j, j < q → (M j).size ≤ 8 ∧ (W j).size ≤ 8) : ∀ j, j < k + q → (joinF k N M j).size ≤ 8 ∧ (joinF k V W j).size ≤ 8 := fun j hj => by
  unfold joinF
  by_cases e : j < k
  · rw [if_pos e, if_pos e]; exact h1 j e
  · rw [if_neg e, if_neg e]; exact h2 (j - k) (by omega)
/-- The pairs that lie in memory, as the cells that an append reads. -/
theorem prs_cells {w : World} {b off : Nat} {N V : Nat → ByteArray} {k : Nat} (h : ∀ j, j < k → w.cell? ⟨b, off + j * 2, none⟩ = some (.string (N j)) ∧ w.cell? ⟨b, off + j * 2 + 1, none⟩ = some (.string (V j))) : ∀ j u, (prs N V k)[j]? = some u → w.cell? ((⟨b, off, none⟩ : Addr).add j) = some u := by
  intro j u hu
  have hl := prs_len N V k
  have hj : j < k * 2 := by
    rcases Nat.lt_or_ge j (k * 2) with h' | h'
    · exact h'
    · rw [List.getElem?_eq_none (by omega)] at hu; cases hu
  have hadd : (⟨b, off, none⟩ : Addr).add j = ⟨b, off + j, none⟩ := by unfold Addr.add; split <;> simp_all
  rw [hadd]
  obtain ⟨p1, p2⟩ := prs_get N V k (j / 2) (by omega)
  obtain ⟨c1, c2⟩ := h (j / 2) (by omega)
  rcases (show j = j / 2 * 2 ∨ j = j / 2 * 2 + 1 by omega) with e | e
  · rw [e] at hu; rw [p1] at hu; rw [e, ← hu]; exact c1
  · rw [e] at hu; rw [p2] at hu; rw [e, ← hu]; exact c2
theorem atD_cells {w : World} {ad : Option Addr} {n : Nat} {N V : Nat → ByteArray} (h : AtD w ad n N V) : 0 < n → ∃ p, ad = some p ∧ ∀ j u, (prs N V n)[j]? = some u → w.cell? (p.add j) = some u := fun h0 => by
  obtain ⟨b, off, e, -, hc⟩ := atD_at h h0
  exact ⟨_, e, prs_cells hc⟩
/-- While the attributes of item i are put anew: at its place stands s; the rest is as it was at wX. -/
def GY (G : Nat) (a : Option Addr) (n cap : Nat) (zs : List Int) (wX w : World) (g m c : Nat) (D : Dc) (i : Nat) (s : Value) : Prop :=
  RdAt w G a n cap zs ∧ (∃ xs, w.ownsRow (G + 1) IT 4 (.slice (some ⟨g, 0, none⟩) m c) m (xs.set (i * 4 + 3) s) ∧ xs.length = m * 4 ∧ ItsB wX xs m D) ∧ Below G wX w ∧ KeepA wX w ∧ g < wX.heap.size
section
variable {G : Nat} {a : Option Addr} {n cap : Nat} {zs : List Int} {w0 wX w w' : World} {g m c i : Nat} {D : Dc} {s s' : Value}
theorem gy_start (h : GSB G a n cap zs w0 wX (some ⟨g, 0, none⟩) m c D) (hi : i < m) : ∃ ad cp, GY G a n cap zs wX wX g m c D i (.slice ad (D.AC i) cp) ∧ AtD wX ad (D.AC i) (D.AN i) (D.AV i) ∧ D.AC i ≤ cp ∧ SmallB D i := by
  obtain ⟨h1, ⟨xs, h2, hn, h3⟩, -, -⟩ := h
  obtain ⟨ad, cp, ⟨c0, c1, c2, c3⟩, ha, hc, hs⟩ := h3 i hi
  have hl := h2.1
  have e : xs.set (i * 4 + 3) (.slice ad (D.AC i) cp) = xs := by
    apply List.ext_getElem?
    intro j
    by_cases ej : i * 4 + 3 = j
    · subst ej; rw [List.getElem?_set_self (by omega), c3]
    · rw [List.getElem?_set_ne ej]
  exact ⟨ad, cp, ⟨h1, ⟨xs, by rw [e]; exact h2, hl, hn, h3⟩, Below.refl _ _, keepA_refl _, (h2.lt g rfl).2⟩, ha, hc, hs⟩
theorem gy_G (h : GY G a n cap zs wX w g m c D i s) : G < wX.heap.size := by
  have h1 := h.2.1
  obtain ⟨xs, h2, -⟩ := h1
  have := (h2.lt g rfl).1
  have := h.2.2.2.2
  omega
theorem gy_le (h : GY G a n cap zs wX w g m c D i s) : wX.heap.size ≤ w.heap.size := h.2.2.2.1.1
theorem gy_grown {row : Option Nat} (h : GY G a n cap zs wX w g m c D i s) (hg : w.grownBy w' row) (hr : ∀ k, row = some k → wX.heap.size ≤ k) : GY G a n cap zs wX w' g m c D i s := by
  have hG := gy_G h
  obtain ⟨h1, ⟨xs, h2, h3⟩, h4, h5, h6⟩ := h
  refine ⟨rd_grown h1 hg (fun k hk => by have := hr k hk; omega), ⟨xs, h2.kept hg (.inr (fun e => ?_)), h3⟩, h4.grown hg (Nat.le_of_lt (rd_lt h1)) (fun k hk => by have := hr k hk; omega), keepA_step h5 hg (fun k hk => .inl (hr k hk)), h6⟩
  have := hr g e.symm
  omega
theorem gy_below (h : GY G a n cap zs wX w g m c D i s) (hb : Below w.heap.size w w') : GY G a n cap zs wX w' g m c D i s := gy_grown h (grown_below hb) (fun k hk => by cases hk)
theorem gy_alloc (h : GY G a n cap zs wX w g m c D i s) (o : Obj) : GY G a n cap zs wX (w.alloc o) g m c D i s := gy_below h ((Below.refl _ _).alloc (Nat.le_refl _) o)
theorem gy_drew (h : GY G a n cap zs wX w g m c D i s) (hd : Drew G a n cap zs w w') : GY G a n cap zs wX w' g m c D i s := by
  obtain ⟨h1, ⟨xs, h2, h3⟩, h4, h5, h6⟩ := h
  refine ⟨hd.1, ⟨xs, h2.kept hd.2 (.inr (fun e => ?_)), h3⟩, below_drew h4 hd (Nat.le_of_lt (rd_lt h1)), keepA_drew h5 h1 hd, h6⟩
  have := (h2.lt g rfl).1
  have e2 : g = G := Option.some.inj e
  omega
theorem gy_cell (h : GY G a n cap zs wX w g m c D i s) (hi : i < m) : w.cell? ⟨g, i * 4 + 3, none⟩ = some s ∧ w.frozen? ⟨g, i * 4 + 3, none⟩ = false := by
  obtain ⟨h1, ⟨xs, h2, h3, -⟩, -⟩ := h
  refine ⟨?_, h2.frozenAt _⟩
  rw [h2.cellAt (i * 4 + 3) (by omega), List.getElem?_set_self (by omega)]
theorem gy_store (h : GY G a n cap zs wX w g m c D i s) (s' : Value) : GY G a n cap zs wX (w.setCell ⟨g, i * 4 + 3, none⟩ s') g m c D i s' := by
  obtain ⟨h1, ⟨xs, h2, h3, h4⟩, h5, h6, h7⟩ := h
  have hg := grown_set w ⟨g, i * 4 + 3, none⟩ s'
  have hlt := h2.lt g rfl
  have e := (h2.stored (i * 4 + 3) s').1
  rw [List.set_set] at e
  refine ⟨rd_grown h1 hg (fun k hk => by cases hk; exact (by omega : G < g)), ⟨xs, e, h3, h4⟩, h5.grown hg (Nat.le_of_lt (rd_lt h1)) (fun k hk => by cases hk; exact (by omega : G ≤ g)), ?_, h7⟩
  exact keepA_own h6 h2 hg
/-- The row of attributes: in memory that is newer than wX. -/
def RowX (X : Nat) (w : World) (v : Value) (k : Nat) (N V : Nat → ByteArray) : Prop := w.ownsRow X AT 2 v k (prs N V k) ∧ ∀ j, j < k → (N j).size ≤ 8 ∧ (V j).size ≤ 8
theorem rowX_store {X k : Nat} {v : Value} {N V : Nat → ByteArray} (h : RowX X w v k N V) (hg : g < X) (p : Nat) (s' : Value) : RowX X (w.setCell ⟨g, p, none⟩ s') v k N V := by
  refine ⟨h.1.kept (grown_set w ⟨g, p, none⟩ s') ?_, h.2⟩
  cases hv : v.ownBlock with
  | none => exact .inl rfl
  | some b => exact .inr (fun e => by have h9 := (h.1.lt b hv).1; have e2 : b = g := Option.some.inj e; omega)
theorem rowX_below {X k : Nat} {v : Value} {N V : Nat → ByteArray} (h : RowX X w v k N V) (hb : Below w.heap.size w w') : RowX X w' v k N V := ⟨gOwn_after h.1 hb, h.2⟩
theorem rowX_drew {X k : Nat} {v : Value} {N V : Nat → ByteArray} (h : RowX X w v k N V) (hG : G < X) (hd : Drew G a n cap zs w w') : RowX X w' v k N V := by
  refine ⟨h.1.kept hd.2 ?_, h.2⟩
  cases hv : v.ownBlock with
  | none => exact .inl rfl
  | some b => exact .inr (fun e => by have := (h.1.lt b hv).1; cases e; omega)
theorem gy_fin {sa : Option Addr} {ka ca : Nat} {N V : Nat → ByteArray} (h0 : GSB G a n cap zs w0 wX (some ⟨g, 0, none⟩) m c D) (h : GY G a n cap zs wX w g m c D i (.slice sa ka ca)) (hr : RowX wX.heap.size w (.slice sa ka ca) ka N V) (hk : ka ≤ 16) (hi : i < m) : GSB G a n cap zs w0 w (some ⟨g, 0, none⟩) m c (updA D i ka N V) := by
  obtain ⟨h1, ⟨xs, h2, h3, h4⟩, h5, h6, h7⟩ := h
  refine ⟨h1, ⟨_, h2, its_AB sa ka ca N V hk (own_cap hr.1) hr.2 hi w xs h3 (its_keepB h4 h6) (atD_own hr.1 (prs_get N V ka))⟩, h0.2.2.1.trans h5, keepA_trans h0.2.2.2 h6⟩
end
/-- An append to such a row. -/
theorem wpList_append_any {P : Program} {w : World} {ops : Array Oper} {rest : List Oper} {o : Oper} {a : Act} {Q : Exit → Act → World → Prop} (hgd : o.guard = none) (s x : Operand) (t : TypeId)
    (ho : o.op = .call { callee := .builtin .append, args := #[s, x], argTypes := #[t, t] })
    (base : Nat) (e : TypeId) (i : TypeInfo) (z : Value) (size bytes : Nat) (ht : P.underlying t = some (.slice e)) (hi : P.info? e = some i) (hz : i.zero = some z)
    (hsize : i.size = size) (hby : i.bytes = bytes) (hzs : z.cells.size = size) (hsz : 0 < size)
    (v : Value) (n : Nat) (xs : List Value) (hs : a.eval s = v) (hown : w.ownsRow base e size v n xs)
    (xa : Option Addr) (m c : Nat) (news : List Value) (hx : a.eval x = .slice xa m c) (hl : news.length = m * size) (hnews : 0 < m → ∃ ad, xa = some ad ∧ ∀ j u, news[j]? = some u → w.cell? (ad.add j) = some u) (h1 : ∀ u ∈ news, u.oneCell' = true)
    (h63 : n + m ≤ maxLen) (hbytes : (n + m) * bytes ≤ 140737488355328) (hbase : base ≤ w.heap.size)
    (h : ∀ a' c' w', w'.ownsRow base e size (.slice a' (n + m) c') (n + m) (xs ++ news) → w.grownBy w' v.ownBlock → wpList P ops Q rest (a.put o.dst (.slice a' (n + m) c')) w') : wpList P ops Q (o :: rest) a w :=
  wpList_plain hgd fun _ hK => wp_append_any s x t ho base e i z size bytes ht hi hz hsize hby hzs hsz v n xs hs hown xa m c news hx hl hnews h1 h63 hbytes hbase fun a' c' w' h2 h3 => hK _ _ (h a' c' w' h2 h3)
end Go.Proofs.YtogeicckbdfldaaDoor
