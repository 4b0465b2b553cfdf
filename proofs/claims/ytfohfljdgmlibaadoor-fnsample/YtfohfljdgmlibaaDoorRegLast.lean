/-
  Plain facts, of no program: a region that draws its order and whose last operation is always the same: what holds ahead of it need not hold behind it; what one operation alone uses is given up when it came up.
-/
import Derived.Test.YtfohfljdgmlibaaDoorRegInv
namespace Go.Proofs.YtfohfljdgmlibaaDoor
open Go.RowKit
set_option linter.unusedVariables false
set_option linter.unusedSimpArgs false
section
variable {P : Program} {ops : Array Oper} {Q : Exit → Act → World → Prop}
theorem getD_ff {l : Array Bool} {i : Nat} (h : l.getD i true = false) : l.getD i false = false := by
  rw [Array.getD_eq_getD_getElem?] at h ⊢
  cases hx : l[i]? with
  | none => rfl
  | some b => rw [hx] at h; exact h
theorem getD_self {l : Array Bool} {i : Nat} (h : i < l.size) : (l.setIfInBounds i true).getD i false = true := by
  rw [Array.getD_eq_getD_getElem?]
  simp [h]
theorem wp_region_last {id : Nat} {w : World} (hm : P.follows .mixedOrders = true)
    (hlow : (List.range ops.size).all (fun i => ((ops[i]?).map fun o => o.after.all fun e => !(Region.binds .any e) || decide (e.on < i)).getD true) = true)
    (A : (Nat → Value) → Act) (D : Nat → Nat) (V : Nat → Value → World → Prop) (J J' : World → Prop) (u0 : Nat → Value) (C : Nat → Option Nat) (need : Nat → Nat → Bool) (L : Nat) (hL : L < ops.size) (hJ : J { w with drawn := w.drawn + 1 })
    (hput : ∀ i o, ops[i]? = some o → ∀ u v, (A u).put o.dst v = A (fun k => if k = D i then v else u k))
    (hD : ∀ i k, i < ops.size → k < ops.size → i ≠ k → D i ≠ D k)
    (hall : ∀ l : Nat → Bool, (∀ i o, ops[i]? = some o → l i = true → ∀ e ∈ o.after, Region.binds .any e = true → l e.on = true) → l L = true → ∀ k, k < ops.size → l k = true)
    (hneed : ∀ l : Nat → Bool, (∀ i o, ops[i]? = some o → l i = true → ∀ e ∈ o.after, Region.binds .any e = true → l e.on = true) → ∀ i o, ops[i]? = some o → (∀ e ∈ o.after, Region.binds .any e = true → l e.on = true) → l i = false → ∀ k, k < ops.size → need k i = false → l k = true → ∃ j, C k = some j ∧ (l j = true ∨ j = i))
    (step : ∀ i o, ops[i]? = some o → i ≠ L → ∀ u w, J w → (∀ e ∈ o.after, Region.binds .any e = true → (C e.on = none ∨ C e.on = some i) → V e.on (u (D e.on)) w) →
      ∀ K : Act → World → Prop, (∀ v w', J w' → V i v w' → (∀ k x, need k i = true → V k x w → V k x w') → K ((A u).put o.dst v) w') →
        if Region.wanted o (yielded ops (A u).tmps) = true then Oper.wp P o (A u) w K Q else K ((A u).put o.dst undef) w)
    (last : ∀ o, ops[L]? = some o → ∀ u w, J w → (∀ k, k < ops.size → k ≠ L → (C k = none ∨ C k = some L) → V k (u (D k)) w) →
      ∀ K : Act → World → Prop, (∀ v w', J' w' → K ((A u).put o.dst v) w') →
        if Region.wanted o (yielded ops (A u).tmps) = true then Oper.wp P o (A u) w K Q else K ((A u).put o.dst undef) w)
    (done : ∀ u w, J' w → Q .normal (A u) w) :
    (Code.region id ops true).wp P Q (A u0) w := by
  refine wp_region_any hm ?_
  refine wpAny_inv (fun l a w => l.size = ops.size ∧ (∀ i o, ops[i]? = some o → l.getD i false = true → ∀ e ∈ o.after, Region.binds .any e = true → l.getD e.on false = true) ∧ (l.getD L false = true → J' w ∧ ∃ u, a = A u) ∧ (l.getD L false = false → J w ∧ ∃ u, a = A u ∧ ∀ k, k < ops.size → l.getD k false = true → (∀ j, C k = some j → l.getD j false = false) → V k (u (D k)) w)) ?_ ?_ _ _ _ _ ?_ ?_
  · rintro l a w ⟨hl, hcl, h1, h2⟩ hr
    have all : ∀ (n : Nat), n ≤ ops.size → ∀ k, k < n → l.getD k false = true := by
      intro n
      induction n with
      | zero => intro _ k hk; omega
      | succ n ih =>
        intro hn k hk
        by_cases e : k < n
        · exact ih (by omega) k e
        · have e : k = n := by omega
          subst e
          have hks : k < ops.size := by omega
          cases hb : l.getD k true with
          | true =>
            rw [Array.getD_eq_getD_getElem?, Array.getElem?_eq_getElem (by omega)] at hb ⊢
            simpa using hb
          | false =>
            exfalso
            have hmem : k ∈ Region.ready .any ops l := by
              refine mem_ready.2 ⟨hb, ops[k], Array.getElem?_eq_getElem hks, fun e he hbd => ?_⟩
              have h1 := List.all_eq_true.1 hlow k (List.mem_range.2 hks)
              rw [Array.getElem?_eq_getElem hks] at h1
              simp only [Option.map_some, Option.getD_some] at h1
              have h2 := Array.all_eq_true_iff_forall_mem.1 h1 e he
              rw [hbd] at h2
              exact ih (by omega) e.on (of_decide_eq_true (by simpa using h2))
            rw [hr] at hmem
            cases hmem
    obtain ⟨hj, u, rfl⟩ := h1 (all ops.size (Nat.le_refl _) L hL)
    exact done u w hj
  · rintro l a w i ⟨hl, hcl, h1, h2⟩ hi
    obtain ⟨h0, o, ho, hdep⟩ := mem_ready.1 hi
    have hilt := (Array.getElem?_eq_some_iff.1 ho).1
    have hif := getD_ff h0
    have hLf : l.getD L false = false := by
      cases hb : l.getD L false with
      | false => rfl
      | true =>
        have := hall (fun k => l.getD k false) hcl hb i hilt
        rw [hif] at this
        cases this
    obtain ⟨hj, u, rfl, hV⟩ := h2 hLf
    have hcl' : ∀ i' o', ops[i']? = some o' → (l.setIfInBounds i true).getD i' false = true → ∀ e ∈ o'.after, Region.binds .any e = true → (l.setIfInBounds i true).getD e.on false = true := by
      intro i' o' ho' hd e he hb
      have hk : l.getD e.on false = true := by
        by_cases e' : i = i'
        · subst e'
          rw [ho] at ho'
          cases ho'
          exact hdep e he hb
        · rw [getD_set_ne false e'] at hd
          exact hcl i' o' ho' hd e he hb
      by_cases e' : i = e.on
      · rw [← e'] at hk; rw [hif] at hk; cases hk
      · rw [getD_set_ne false e']; exact hk
    by_cases hiL : i = L
    · subst hiL
      refine wpOp_step ho (fun K' hK => ?_)
      have hallk : ∀ k, k < ops.size → (l.setIfInBounds i true).getD k false = true := hall (fun k => (l.setIfInBounds i true).getD k false) hcl' (getD_self (by omega))
      refine last o ho u w hj (fun k hk hkL hc => ?_) K' (fun v w' hj' => ?_)
      · have hkd := hallk k hk
        rw [getD_set_ne false (fun e => hkL e.symm)] at hkd
        refine hV k hk hkd (fun j hjc => ?_)
        rcases hc with hc | hc
        · rw [hc] at hjc; cases hjc
        · rw [hc] at hjc; cases hjc; exact hif
      · refine hK _ _ ⟨by simp [hl], hcl', fun _ => ⟨hj', _, hput i o ho u v⟩, fun hf => ?_⟩
        rw [getD_self (by omega)] at hf
        cases hf
    · refine wpOp_step ho (fun K' hK => ?_)
      refine step i o ho hiL u w hj (fun e he hb hc => ?_) K' (fun v w' hj' hv hmono => ?_)
      · have h1 := List.all_eq_true.1 hlow i (List.mem_range.2 hilt)
        rw [ho] at h1
        simp only [Option.map_some, Option.getD_some] at h1
        have h2 := Array.all_eq_true_iff_forall_mem.1 h1 e he
        rw [hb] at h2
        have h3 : e.on < i := of_decide_eq_true (by simpa using h2)
        refine hV e.on (by omega) (hdep e he hb) (fun j hjc => ?_)
        rcases hc with hc | hc
        · rw [hc] at hjc; cases hjc
        · rw [hc] at hjc; cases hjc; exact hif
      · refine hK _ _ ⟨by simp [hl], hcl', fun ht => ?_, fun _ => ⟨hj', _, hput i o ho u v, fun k hk hl' hcn => ?_⟩⟩
        · rw [getD_set_ne false hiL, hLf] at ht
          cases ht
        · by_cases e : i = k
          · subst e; simpa using hv
          · have hd := hD k i hk hilt (fun h => e h.symm)
            rw [if_neg hd]
            rw [getD_set_ne false e] at hl'
            refine hmono k _ ?_ (hV k hk hl' (fun j hjc => ?_))
            · cases hnd : need k i with
              | true => rfl
              | false =>
                exfalso
                obtain ⟨j, hjc, hj2⟩ := hneed (fun k => l.getD k false) hcl i o ho hdep hif k hk hnd hl'
                have hjn := hcn j hjc
                by_cases ej : i = j
                · subst ej
                  rw [getD_self (by omega)] at hjn
                  cases hjn
                · rw [getD_set_ne false ej] at hjn
                  rcases hj2 with hj2 | hj2
                  · have hj3 : l.getD j false = true := hj2
                    rw [hjn] at hj3; cases hj3
                  · exact ej hj2.symm
            · have hjn := hcn j hjc
              by_cases ej : i = j
              · subst ej; exact hif
              · rw [getD_set_ne false ej] at hjn; exact hjn
  · have : left ops.size (Array.replicate ops.size false) ≤ (List.range ops.size).length := List.length_filter_le _ _
    simpa using this
  · have hn : ∀ k, (Array.replicate ops.size false).getD k false = false := fun k => by
      rw [Array.getD_eq_getD_getElem?]
      by_cases hk : k < ops.size
      · simp [hk]
      · simp [hk]
    refine ⟨by simp, fun i o ho h => ?_, fun h => ?_, fun _ => ⟨hJ, u0, rfl, fun k hk h => ?_⟩⟩
    · rw [hn] at h; cases h
    · rw [hn] at h; cases h
    · rw [hn] at h; cases h
end
end Go.Proofs.YtfohfljdgmlibaaDoor
