/-
  Plain facts: a tree has no more kids than nodes ahead of its root.
-/
import Derived.Test.YtfohfljdgmlibaaPkMath
namespace Go.Proofs.Ytfohfljdgmlibaa
set_option linter.unusedVariables false
theorem fd_klen {g : Nat → Option Nat} : ∀ (ks : List Int) (a f : Nat), (∀ j c, j < a → g j = some c → c ≤ j) → fd g ks a = some f → ks.length ≤ a
  | [], a, f, _, _ => by simp
  | k :: ks, a, f, h2, h => by
    by_cases hc : 0 < a ∧ k = (a : Int) - 1
    · cases hg : g (a - 1) with
      | none => rw [fd_none hc hg] at h; cases h
      | some c =>
        have hb := h2 _ c (by omega) hg
        rw [fd_yes hc hg] at h
        have := fd_klen ks c f (fun j d hj => h2 j d (by omega)) h
        rw [List.length_cons]
        omega
    · rw [fd_no hc] at h; cases h
end Go.Proofs.Ytfohfljdgmlibaa
