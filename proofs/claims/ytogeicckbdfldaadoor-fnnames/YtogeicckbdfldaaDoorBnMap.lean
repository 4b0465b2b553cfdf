/-
  Maps from a prefix to a binding (a struct of one text), that the call makes itself: what they say at each prefix.
-/
import Derived.Test.YtogeicckbdfldaaDoorBnI
import Derived.Maps.Own
import Derived.Maps.OwnOps
import Derived.Maps.OwnSet
import Derived.Maps.Views
namespace Go.Proofs.YtogeicckbdfldaaDoor
open Go.RowKit Go.Maps
set_option linter.unusedVariables false
set_option linter.unusedSimpArgs false
/-- How a binding reads. -/
def bR : Value → Option (DataW Unit × List MemPlace)
  | .agg cs => match cs.toList with
    | [.string s] => some (.lit (.string s.data.toList), [])
    | _ => none
  | _ => none
theorem bR_mk (s : ByteArray) : bR (.agg #[.string s]) = some (.lit (.string s.data.toList), []) := rfl
theorem bR_inv {v : Value} {d : DataW Unit} {ps : List MemPlace} (h : bR v = some (d, ps)) : ∃ s : ByteArray, v = .agg #[.string s] ∧ d = .lit (.string s.data.toList) := by
  unfold bR at h
  split at h
  · rename_i cs
    split at h
    · rename_i s hs
      cases h
      refine ⟨s, ?_, rfl⟩
      congr 1
      exact Array.ext' hs
    · cases h
  · cases h
def kL (q : ByteArray) : Lit := .string q.data.toList
theorem kL_ne {q q' : ByteArray} (h : q' ≠ q) : kL q' ≠ kL q := fun e => h (by
  unfold kL at e
  exact ByteArray.ext (Array.ext' (Lit.string.inj e)))
/-- The map says f. -/
def MapSays (D : DataW Unit) (f : ByteArray → Option ByteArray) : Prop :=
  IsMap D ∧ ∀ q, has D (kL q) = (f q).isSome ∧ D.atKey (kL q) (.lit (.string [])) = .lit (.string ((f q).getD ⟨#[]⟩).data.toList)
theorem says_nil : MapSays (.map []) (fun _ => none) := ⟨isMap_empty, fun q => ⟨rfl, rfl⟩⟩
theorem says_put {D : DataW Unit} {f : ByteArray → Option ByteArray} (h : MapSays D f) (k v : ByteArray) : MapSays (D.put (kL k) (.lit (.string v.data.toList))) (fun q => if q = k then some v else f q) := by
  refine ⟨?_, fun q => ?_⟩
  · obtain ⟨es, rfl⟩ := h.1
    exact ⟨_, rfl⟩
  · by_cases e : q = k
    · subst e
      simp only [if_pos]
      exact ⟨has_put_same h.1 (by trivial) _, atKey_put_same h.1 (by trivial) _ _⟩
    · simp only [if_neg e]
      rw [has_put_other (kL_ne e), atKey_put_other (kL_ne e)]
      exact h.2 q
theorem lawK : Keyed Tryd.prog 9 := string_keyed Tryd.underlying9
theorem look_bind {ops : Array Oper} {rest : List Oper} {o : Oper} {a : Act} {Q : Exit → Act → World → Prop} (w : World) (hg : o.guard = none) (m x : Operand) (t e : TypeId) (hop : o.op = Op.lookup t m x true)
    (ht : Tryd.prog.underlying t = some (.map 9 e)) (hz : (zeroValue e).run Tryd.prog w = .ok (.agg #[.string ⟨#[]⟩]) w) (b n : Nat) (D : DataW Unit) (f : ByteArray → Option ByteArray)
    (hm : a.eval m = .map (some b)) (hown : w.ownsMap Tryd.prog 9 bR b n D) (hf : MapSays D f) (q : ByteArray) (hx : a.eval x = .string q) (hq : q.size ≤ maxLen)
    (hK : wpList Tryd.prog ops Q rest (a.put o.dst (.tuple #[.agg #[.string ((f q).getD ⟨#[]⟩)], .bool (f q).isSome])) w) :
    wpList Tryd.prog ops Q (o :: rest) a w := by
  refine wpList_lookup_own_ok w hg m x t hop 9 e lawK ht bR hz (.lit (.string [])) [] (bR_mk ⟨#[]⟩) b n D hm hown _ (kL q) hx (Go.WideMaps.keyOf_string_mk Tryd.underlying9 hq) (fun v ps hv => ?_)
  obtain ⟨s, rfl, hd⟩ := bR_inv hv
  obtain ⟨h1, h2⟩ := hf.2 q
  rw [h2] at hd
  have e1 : s = (f q).getD ⟨#[]⟩ := by
    have h3 := DataW.lit.inj hd
    exact ByteArray.ext (Array.ext' (Lit.string.inj h3).symm)
  rw [e1]
  have e2 : Maps.has D (kL q) = (f q).isSome := h1
  rw [e2]
  exact hK
end Go.Proofs.YtogeicckbdfldaaDoor
