/-
  Contract: the text of a model, by the specification.
-/
import Derived.Test.YtfohfljdgmlibaaDoorMtMath
import Derived.Test.YtfohfljdgmlibaaDoorPkS2
import Derived.Test.YtfohfljdgmlibaaDoorPnEq
namespace Go.Proofs.YtfohfljdgmlibaaDoor
open Go.RowKit Go.Joins
set_option linter.unusedVariables false
set_option linter.unusedSimpArgs false
theorem ret_s9 {a b : ByteArray} (h : a = b) : Ending.returned (.string a) = .returned (.string b) := by rw [h]
theorem bl (s : ByteArray) : s.data.toList.length = s.size := by simp
theorem bl_app (a b : ByteArray) : (a ++ b).data.toList = a.data.toList ++ b.data.toList := by rw [ByteArray.data_append, Array.toList_append]
/-- What the text of a right model leans on. -/
def RM (D : Pn) (n : Nat) : Prop := D.n = n ∧ n ≤ 40 ∧ (∀ j, j < n → nodeB D j = true) ∧ (∀ j, j < n → ∀ k, k ∈ D.KL j → 0 ≤ k ∧ k < (j : Int)) ∧ (∀ j, j < n → ∃ c, tr D j = some c) ∧ ∀ j, j < n → (D.KL j).length ≤ 1048576
theorem rm_of {D : Pn} {n : Nat} (hD : D.n = n) (h : pkB D = true) (hz : pnTot D ≤ 1048576) : RM D n := by
  obtain ⟨h1, h2, -⟩ := pk_facts h
  have h3 := pk_lo h
  rw [hD] at h1 h2 h3
  exact ⟨hD, h1.2, h2, fun j hj => (h3 j hj).2, fun j hj => (h3 j hj).1, fun j hj => ((pn_sz hz).2 j (by rw [hD]; exact hj)).2⟩
theorem rm_kids {D : Pn} {n : Nat} (h : RM D n) {i : Nat} (hi : i < n) : totL ((D.KL i).map fun k => mt D k.toNat) ≤ 2000 := by
  obtain ⟨h1, h2, h3, h4, h5, -⟩ := h
  obtain ⟨c, hc⟩ := h5 i hi
  have := mt_kids (D := D) (by rw [h1]; exact h3) (by rw [h1]; exact h4) (by rw [h1]; exact hi) hc
  omega
theorem rm_eq {D : Pn} {n : Nat} (h : RM D n) {i : Nat} (hi : i < n) : mt D i = bdP (D.K i) (D.NM i) ((D.KL i).map fun k => mt D k.toNat) ++ sgP (D.OC i) := mt_eq (fun j hj => h.2.2.2.1 j (by omega))
theorem rm_kinds {D : Pn} {n : Nat} (h : RM D n) {i : Nat} (hi : i < n) : D.K i = 1 ∨ D.K i = 2 ∨ D.K i = 3 ∨ D.K i = 4 := nd_kinds (h.2.2.1 i hi)
theorem rm_name {D : Pn} {n : Nat} (h : RM D n) {i : Nat} (hi : i < n) (hk : D.K i = 1) : (D.NM i).size ≤ 40 := nd_name (h.2.2.1 i hi) hk
/-- What stands in a group's text behind m kids. -/
def grP (k : Int) (ts : List (List UInt8)) (m : Nat) : List UInt8 := [40] ++ Lib.join (ts.take m) (sepP k)
theorem gr_next (k : Int) (ts : List (List UInt8)) (m : Nat) (h : m < ts.length) (hm : m ≠ 0) : grP k ts (m + 1) = grP k ts m ++ sepP k ++ ts[m]?.getD [] := by
  unfold grP
  rw [join_take _ _ _ h, if_neg hm]
  simp only [List.append_assoc]
theorem gr_first (k : Int) (ts : List (List UInt8)) (h : 0 < ts.length) : grP k ts 1 = grP k ts 0 ++ ts[0]?.getD [] := by
  unfold grP
  rw [join_take _ _ _ h, if_pos rfl]
  simp [Lib.join_nil]
theorem gr_len (k : Int) (ts : List (List UInt8)) (m : Nat) : (grP k ts m).length ≤ 1 + totL ts := by
  have h1 := join_tot (sepP k) (sep_len _) (ts.take m)
  have h2 := tot_take ts m
  unfold grP
  rw [List.length_append, List.length_cons, List.length_nil]
  omega
end Go.Proofs.YtfohfljdgmlibaaDoor
