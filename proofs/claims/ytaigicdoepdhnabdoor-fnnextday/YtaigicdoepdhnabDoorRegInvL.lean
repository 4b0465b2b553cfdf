/-
  Plain facts, of no program: a region that draws its order of evaluation, by an invariant that knows what has come up.
-/
import Derived.Test.YtaigicdoepdhnabDoorRegInv
namespace Go.Proofs.YtaigicdoepdhnabDoor
open Go.RowKit
set_option linter.unusedVariables false
set_option linter.unusedSimpArgs false
section
variable {P : Program} {ops : Array Oper} {Q : Exit → Act → World → Prop}
/-- A region that draws its order: 'V i' is what operation 'i' leaves at its place 'D i' of the frame 'A'; 'J l' is what holds of the world where the operations 'l' have come up. -/
theorem wp_region_invL {id : Nat} {w : World} (hm : P.follows .mixedOrders = true)
    (hlow : (List.range ops.size).all (fun i => ((ops[i]?).map fun o => o.after.all fun e => !(Region.binds .any e) || decide (e.on < i)).getD true) = true)
    (A : (Nat → Value) → Act) (D : Nat → Nat) (V : Nat → Value → World → Prop) (J : (Nat → Bool) → World → Prop) (u0 : Nat → Value) (hJ : J (fun _ => false) { w with drawn := w.drawn + 1 })
    (hput : ∀ i o, ops[i]? = some o → ∀ u v, (A u).put o.dst v = A (fun k => if k = D i then v else u k))
    (hD : ∀ i k, i < ops.size → k < ops.size → i ≠ k → D i ≠ D k)
    (step : ∀ i o, ops[i]? = some o → ∀ u w l, J l w → l i = false → (∀ e ∈ o.after, Region.binds .any e = true → l e.on = true ∧ V e.on (u (D e.on)) w) →
      ∀ K : Act → World → Prop, (∀ v w', J (fun k => if k = i then true else l k) w' → V i v w' → (∀ k x, V k x w → V k x w') → K ((A u).put o.dst v) w') →
        if Region.wanted o (yielded ops (A u).tmps) = true then Oper.wp P o (A u) w K Q else K ((A u).put o.dst undef) w)
    (done : ∀ u w l, J l w → (∀ k, k < ops.size → V k (u (D k)) w) → Q .normal (A u) w) :
    (Code.region id ops true).wp P Q (A u0) w := by
  refine wp_region_any hm ?_
  refine wpAny_inv (fun l a w => l.size = ops.size ∧ J (fun k => l.getD k false) w ∧ ∃ u, a = A u ∧ ∀ k, k < ops.size → l.getD k false = true → V k (u (D k)) w) ?_ ?_ _ _ _ _ ?_ ?_
  · rintro l a w ⟨hl, hj, u, rfl, hV⟩ hr
    refine done u w _ hj (fun k hk => hV k hk ?_)
    have all : ∀ (n : Nat), n ≤ ops.size → ∀ k, k < n → l.getD k false = true := by
      intro n
      induction n with
      | zero => intro _ k hk; omega
      | succ n ih =>
        intro hn k hk
        by_cases e : k < n
        · exact ih (by omega) k e
        · have e : k = n := by omega
          subst e
          have hks : k < ops.size := by omega
          cases hb : l.getD k true with
          | true =>
            rw [Array.getD_eq_getD_getElem?, Array.getElem?_eq_getElem (by omega)] at hb ⊢
            simpa using hb
          | false =>
            exfalso
            have hmem : k ∈ Region.ready .any ops l := by
              refine mem_ready.2 ⟨hb, ops[k], Array.getElem?_eq_getElem hks, fun e he hbd => ?_⟩
              have h1 := List.all_eq_true.1 hlow k (List.mem_range.2 hks)
              rw [Array.getElem?_eq_getElem hks] at h1
              simp only [Option.map_some, Option.getD_some] at h1
              have h2 := Array.all_eq_true_iff_forall_mem.1 h1 e he
              rw [hbd] at h2
              exact ih (by omega) e.on (of_decide_eq_true (by simpa using h2))
            rw [hr] at hmem
            cases hmem
    exact all ops.size (Nat.le_refl _) k hk
  · rintro l a w i ⟨hl, hj, u, rfl, hV⟩ hi
    obtain ⟨h0, o, ho, hdep⟩ := mem_ready.1 hi
    have hilt := (Array.getElem?_eq_some_iff.1 ho).1
    refine wpOp_step ho (fun K' hK => ?_)
    have hun : l.getD i false = false := by
      rw [Array.getD_eq_getD_getElem?, Array.getElem?_eq_getElem (by omega)] at h0 ⊢
      simpa using h0
    refine step i o ho u w _ hj hun (fun e he hb => ?_) K' (fun v w' hj' hv hmono => ?_)
    · have h1 := List.all_eq_true.1 hlow i (List.mem_range.2 hilt)
      rw [ho] at h1
      simp only [Option.map_some, Option.getD_some] at h1
      have h2 := Array.all_eq_true_iff_forall_mem.1 h1 e he
      rw [hb] at h2
      have h3 : e.on < i := of_decide_eq_true (by simpa using h2)
      exact ⟨hdep e he hb, hV e.on (by omega) (hdep e he hb)⟩
    · have hfun : (fun k => if k = i then true else l.getD k false) = fun k => (l.setIfInBounds i true).getD k false := by
        funext k
        by_cases e : i = k
        · subst e
          rw [if_pos rfl, Array.getD_eq_getD_getElem?]
          simp [show i < l.size by omega]
        · rw [if_neg (fun h => e h.symm), getD_set_ne false e]
      rw [hfun] at hj'
      refine hK _ _ ⟨by simp [hl], hj', _, hput i o ho u v, fun k hk hl' => ?_⟩
      by_cases e : i = k
      · subst e; simpa using hv
      · have hd := hD k i hk hilt (fun h => e h.symm)
        rw [if_neg hd]
        rw [getD_set_ne false e] at hl'
        exact hmono k _ (hV k hk hl')
  · have : left ops.size (Array.replicate ops.size false) ≤ (List.range ops.size).length := List.length_filter_le _ _
    simpa using this
  · have h0 : (fun k => (Array.replicate ops.size false).getD k false) = fun _ => false := by
      funext k
      rw [Array.getD_eq_getD_getElem?]
      by_cases e : k < ops.size <;> simp [e]
    refine ⟨by simp, by rw [h0]; exact hJ, u0, rfl, fun k hk hl => ?_⟩
    rw [Array.getD_eq_getD_getElem?] at hl
    simp [hk] at hl
end
end Go.Proofs.YtaigicdoepdhnabDoor
