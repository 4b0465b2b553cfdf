/-
  Contracts: the text of a model, by the program.
-/
import Derived.Test.YtfohfljdgmlibaaDoorMtS
import Derived.Test.YtfohfljdgmlibaaDoorPkD
import Derived.Test.YtfohfljdgmlibaaDoorShelf
namespace Go.Proofs.YtfohfljdgmlibaaDoor
open Go.RowKit Go.Joins
set_option linter.unusedVariables false
set_option linter.unusedSimpArgs false
theorem infoStr : (Tryd.prog.info? 9).map (fun i => (i.zero, i.size, i.bytes)) = some (some (.string ByteArray.empty), 1, 16) := by kernel_rfl
/-- A row of texts in memory of one's own. -/
def StrR (B : Nat) (w : World) (ad : Option Addr) (c : Nat) (L : List ByteArray) : Prop := w.ownsRow B 9 1 (.slice ad L.length c) L.length (L.map Value.string)
theorem strR_nil (B : Nat) (w : World) : StrR B w none 0 [] := ⟨rfl, .inl ⟨rfl, rfl⟩⟩
theorem strR_put {B : Nat} {w2 : World} {ad : Option Addr} {c : Nat} {L : List ByteArray} {z : ByteArray} (h : w2.ownsRow B 9 1 (.slice ad (L.length + 1) c) (L.length + 1) (L.map Value.string ++ [.string z])) : StrR B w2 ad c (L ++ [z]) := by
  unfold StrR
  rw [List.length_append, List.length_singleton, List.map_append]
  exact h
theorem strR_cells {B : Nat} {w : World} {ad : Option Addr} {c : Nat} {L : List ByteArray} (h : StrR B w ad c L) (h0 : L ≠ []) : ∃ g, ad = some ⟨g, 0, none⟩ ∧ g < w.heap.size ∧ L.length ≤ c ∧ ∀ (j : Nat) x, L[j]? = some x → w.cell? ⟨g, 0 + j, none⟩ = some (.string x) := by
  have h9 := h
  obtain ⟨hl, h⟩ := h
  rcases h with ⟨-, hz⟩ | ⟨g, cap, cur, hv, hB, hh, hcap, -⟩
  · exact absurd (List.length_eq_zero_iff.1 hz) h0
  · simp only [Value.slice.injEq] at hv
    obtain ⟨rfl, -, rfl⟩ := hv
    refine ⟨g, rfl, (Array.getElem?_eq_some_iff.1 hh).1, by omega, fun j x hx => ?_⟩
    have hj : j < L.length := by
      rcases Nat.lt_or_ge j L.length with h | h
      · exact h
      · rw [List.getElem?_eq_none h] at hx; cases hx
    rw [Nat.zero_add]
    unfold StrR at h9
    rw [h9.cellAt j (by omega), List.getElem?_map, hx]
    rfl
def mtB (D : Pn) (k : Int) : ByteArray := ⟨(mt D k.toNat).toArray⟩
theorem mtB_map (D : Pn) (L : List Int) : (L.map (mtB D)).map (·.data.toList) = L.map fun (k : Int) => mt D k.toNat := by
  rw [List.map_map]
  rfl
theorem sg_cut (OC : Int) (h : 1 ≤ OC ∧ OC ≤ 3) : ((⟨#[63, 42, 43]⟩ : ByteArray).extract (OC - 1).toNat OC.toNat).data.toList = sgP OC := by
  obtain ⟨h1, h2⟩ := h
  have : OC = 1 ∨ OC = 2 ∨ OC = 3 := by omega
  rcases this with rfl | rfl | rfl <;> decide
theorem nd_oc {k : Int} {nm : ByteArray} {n : Nat} {oc : Int} (h : ndB k nm n oc = true) : 0 ≤ oc ∧ oc ≤ 3 := by
  unfold ndB at h
  simp only [Bool.and_eq_true, decide_eq_true_eq] at h
  exact h.1
end Go.Proofs.YtfohfljdgmlibaaDoor
