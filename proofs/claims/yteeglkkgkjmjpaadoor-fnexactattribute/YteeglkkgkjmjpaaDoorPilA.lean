/-
  Plain facts for the walks of laws that take a model.
-/
import Derived.Test.YteeglkkgkjmjpaaDoorPnEq
import Derived.Test.YteeglkkgkjmjpaaDoorMkPn
import Derived.Test.YteeglkkgkjmjpaaDoorKdLaw1
namespace Go.Proofs.YteeglkkgkjmjpaaDoor
open Go.RowKit Go.Joins
set_option linter.unusedVariables false
set_option linter.unusedSimpArgs false
theorem own_rowAt' {w : World} {B n c : Nat} {ad : Option Addr} {t : TypeId} {xs : List Int} (_hx : xs.length = n) (h : w.ownsRow B t 1 (.slice ad n c) n (xs.map (Value.int .i64))) : RowAt .i64 w ad xs w.heap.size := own_rowAt9 h
theorem own_chg {w w' : World} {B lo hi : Nat} {e : TypeId} {v : Value} {n : Nat} {xs : List Value} (h : w.ownsRow B e 1 v n xs) (k : Chg lo hi w w') (hX : ∀ j, v.ownBlock = some j → j < lo ∨ hi ≤ j) : w'.ownsRow B e 1 v n xs := by
  refine ⟨h.1, ?_⟩
  rcases h.2 with hn | ⟨g, cap, cur, hv, hB, hg, rest⟩
  · exact .inl hn
  · refine .inr ⟨g, cap, cur, hv, hB, ?_, rest⟩
    rw [k.block g (Array.getElem?_eq_some_iff.1 hg).1 (hX g (by rw [hv]; rfl))]; exact hg
theorem own_staysP {w w' : World} {B X : Nat} {e : TypeId} {v : Value} {n : Nat} {xs : List Value} (h : w.ownsRow B e 1 v n xs) (hb : Below X w w') (hX : ∀ k, v.ownBlock = some k → k < X) : w'.ownsRow B e 1 v n xs := by
  refine ⟨h.1, ?_⟩
  rcases h.2 with hn | ⟨g, cap, cur, hv, hB, hg, rest⟩
  · exact .inl hn
  · exact .inr ⟨g, cap, cur, hv, hB, (hb.block g (hX g (by rw [hv]; rfl))).trans hg, rest⟩
theorem sumN_kl {D : Pn} (h : pnTot D ≤ 1048576) : sumN (fun j => (D.KL j).length) D.n ≤ 1048576 := by
  unfold pnTot at h
  have h1 : ∀ m, sumN (fun j => (D.KL j).length) m ≤ sumN (pnSz D) m := by
    intro m
    induction m with
    | zero => exact Nat.le_refl _
    | succ m ih =>
      show sumN (fun j => (D.KL j).length) m + (D.KL m).length ≤ sumN (pnSz D) m + pnSz D m
      have : (D.KL m).length ≤ pnSz D m := by unfold pnSz; omega
      omega
  have := h1 D.n
  omega
theorem drew_go {b : Nat} {w w1 : World} (h : Below b w w1) (q : Nat) : Below b w (w1.drewN q) := h.trans ⟨rfl, rfl, rfl, Nat.le_refl _, fun _ _ => rfl⟩
end Go.Proofs.YteeglkkgkjmjpaaDoor
