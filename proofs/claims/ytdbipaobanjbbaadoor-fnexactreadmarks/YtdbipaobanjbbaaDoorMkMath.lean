/-
  Plain facts on marks and their texts, of no program's run.
-/
import Derived.Test.YtdbipaobanjbbaaDoorMkRw
import Derived.Test.YtdbipaobanjbbaaDoorEscW
import Derived.Lib.ItoaNum
namespace Go.Proofs.YtdbipaobanjbbaaDoor
set_option linter.unusedVariables false
set_option linter.unusedSimpArgs false
theorem bl (s : ByteArray) : s.data.toList.length = s.size := by simp
theorem bl_app (a b : ByteArray) : (a ++ b).data.toList = a.data.toList ++ b.data.toList := by rw [ByteArray.data_append, Array.toList_append]
def fl (b : Bool) (c : UInt8) : List UInt8 := if b = true then [c] else [45]
theorem fl_len (b : Bool) (c : UInt8) : (fl b c).length = 1 := by unfold fl; split <;> rfl
def mkB (dc : Int) (vl : ByteArray) : Bool := decide (-1 ≤ dc ∧ dc ≤ 30) && escOk vl
def lnP (g : Bool) (dc : Int) (vl : ByteArray) (nl gv : Bool) : List UInt8 := fl g 103 ++ fl nl 110 ++ fl gv 100 ++ [32] ++ Lib.itoa dc ++ [32] ++ escL true vl.data.toList ++ [10]
theorem itoa_len {dc : Int} (h : -1 ≤ dc ∧ dc ≤ 30) : (Lib.itoa dc).length ≤ 2 := by
  obtain ⟨h1, h2⟩ := h
  unfold Lib.itoa
  split
  · have : dc = -1 := by omega
    subst this
    rw [Lib.decDigits_one (by decide)]
    simp
  · rw [Lib.decDigits]
    split
    · simp
    · rw [Lib.decDigits, dif_pos (by omega)]; simp
theorem ln_len {g : Bool} {dc : Int} {vl : ByteArray} {nl gv : Bool} (h : -1 ≤ dc ∧ dc ≤ 30) (hv : vl.size ≤ 2500) : (lnP g dc vl nl gv).length ≤ 15010 := by
  have h1 := itoa_len h
  have h2 := escL_len true vl.data.toList
  rw [bl] at h2
  unfold lnP
  simp only [List.length_append, fl_len, List.length_cons, List.length_nil]
  omega
def lnM (M : Mk) (j : Nat) : List UInt8 := lnP (M.G j) (M.DC j) (M.VL j) (M.NL j) (M.GV j)
def okM (M : Mk) (j : Nat) : Bool := mkB (M.DC j) (M.VL j)
def txM (M : Mk) : Nat → List UInt8
  | 0 => []
  | k + 1 => txM M k ++ lnM M k
theorem ok_parts {M : Mk} {j : Nat} (h : okM M j = true) : (-1 ≤ M.DC j ∧ M.DC j ≤ 30) ∧ escOk (M.VL j) = true ∧ (M.VL j).size ≤ 2500 := by
  unfold okM mkB at h
  simp only [Bool.and_eq_true, decide_eq_true_eq] at h
  have h2 := h.2
  unfold escOk at h2
  simp only [Bool.and_eq_true, decide_eq_true_eq] at h2
  exact ⟨h.1, h.2, h2.1⟩
theorem tx_len {M : Mk} : ∀ k, (∀ j, j < k → okM M j = true) → (txM M k).length ≤ k * 15010
  | 0, _ => Nat.zero_le _
  | k + 1, h => by
    have h1 := tx_len k (fun j hj => h j (by omega))
    obtain ⟨h2, -, h3⟩ := ok_parts (h k (by omega))
    have h4 : (lnM M k).length ≤ 15010 := ln_len h2 h3
    rw [txM, List.length_append]
    omega
def mkOk (M : Mk) : Bool := decide (M.n ≤ 200) && (List.range M.n).all (okM M)
def mkV (M : Mk) : ByteArray := if mkOk M = true then ⟨(txM M M.n).toArray⟩ else ⟨#[]⟩
theorem mkV_big {M : Mk} (h : 200 < M.n) : mkV M = ⟨#[]⟩ := by unfold mkV mkOk; rw [decide_eq_false (by omega)]; rfl
theorem mkV_bad {M : Mk} {k : Nat} (hk : k < M.n) (h : okM M k = false) : mkV M = ⟨#[]⟩ := by
  have : (List.range M.n).all (okM M) = false := by
    rw [List.all_eq_false]
    exact ⟨k, by simpa using hk, by simp [h]⟩
  unfold mkV mkOk
  rw [this]
  simp
theorem mkV_all {M : Mk} (h0 : M.n ≤ 200) (h : ∀ j, j < M.n → okM M j = true) : mkV M = ⟨(txM M M.n).toArray⟩ := by
  have : (List.range M.n).all (okM M) = true := by
    rw [List.all_eq_true]
    intro j hj
    exact h j (by simpa using hj)
  unfold mkV mkOk
  rw [this, decide_eq_true h0]
  rfl
end Go.Proofs.YtdbipaobanjbbaaDoor
