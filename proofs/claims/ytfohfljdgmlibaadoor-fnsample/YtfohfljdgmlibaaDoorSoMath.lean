/-
  Plain facts on rows of numbers in order, each once, of no program.
-/
import Derived.Test.YtfohfljdgmlibaaDoorBase
namespace Go.Proofs.YtfohfljdgmlibaaDoor
set_option linter.unusedVariables false
set_option linter.unusedSimpArgs false
/-- In order, each once. -/
def insL (v : Int) : List Int → List Int
  | [] => [v]
  | h :: t => if h < v then h :: insL v t else if h = v then h :: t else v :: h :: t
def srtL (L : List Int) : List Int := L.foldl (fun o v => insL v o) []
theorem insL_mem {v x : Int} : ∀ {l : List Int}, x ∈ insL v l ↔ x = v ∨ x ∈ l
  | [] => by simp [insL]
  | h :: t => by
    rw [insL]
    split
    · rw [List.mem_cons, insL_mem (l := t), List.mem_cons]; constructor <;> (intro h; rcases h with h | h | h <;> simp [h])
    · split
      · rename_i e; subst e; simp
      · simp
theorem insL_sorted {v : Int} : ∀ {l : List Int}, l.Pairwise (· < ·) → (insL v l).Pairwise (· < ·)
  | [], _ => by simp [insL]
  | h :: t, hp => by
    obtain ⟨h1, h2⟩ := List.pairwise_cons.1 hp
    rw [insL]
    split
    · refine List.pairwise_cons.2 ⟨fun x hx => ?_, insL_sorted h2⟩
      rcases insL_mem.1 hx with rfl | hx
      · assumption
      · exact h1 x hx
    · split
      · exact hp
      · refine List.pairwise_cons.2 ⟨fun x hx => ?_, hp⟩
        rcases List.mem_cons.1 hx with rfl | hx
        · omega
        · have := h1 x hx; omega
theorem srt_fold : ∀ (L o : List Int), o.Pairwise (· < ·) → (L.foldl (fun o v => insL v o) o).Pairwise (· < ·) ∧ ∀ x, x ∈ L.foldl (fun o v => insL v o) o ↔ x ∈ L ∨ x ∈ o
  | [], o, h => ⟨h, fun x => by simp⟩
  | v :: L, o, h => by
    obtain ⟨h1, h2⟩ := srt_fold L (insL v o) (insL_sorted h)
    refine ⟨h1, fun x => ?_⟩
    rw [List.foldl_cons, h2 x, insL_mem, List.mem_cons]
    constructor
    · rintro (h | h | h) <;> simp [h]
    · rintro ((h | h) | h) <;> simp [h]
theorem srt_sorted (L : List Int) : (srtL L).Pairwise (· < ·) := (srt_fold L [] List.Pairwise.nil).1
theorem srt_mem (L : List Int) (x : Int) : x ∈ srtL L ↔ x ∈ L := by
  have := (srt_fold L [] List.Pairwise.nil).2 x
  unfold srtL
  simpa using this
theorem lt_nodup {l : List Int} (h : l.Pairwise (· < ·)) : l.Nodup := h.imp fun hab e => by omega
theorem srt_merge {L : List Int} (h : L.Nodup) : L.mergeSort (fun x y => decide (x ≤ y)) = srtL L := by
  have hp : (L.mergeSort fun x y => decide (x ≤ y)).Perm (srtL L) := by
    refine (List.mergeSort_perm _ _).trans ?_
    exact (List.perm_ext_iff_of_nodup h (lt_nodup (srt_sorted L))).2 fun x => (srt_mem L x).symm
  refine List.Perm.eq_of_pairwise (le := fun a b => decide (a ≤ b) = true) (fun a b _ _ h1 h2 => by simp only [decide_eq_true_eq] at h1 h2; omega) (List.pairwise_mergeSort (fun a b c h1 h2 => by simp only [decide_eq_true_eq] at h1 h2 ⊢; omega) (fun a b => by simp only [Bool.or_eq_true, decide_eq_true_eq]; omega) L) ((srt_sorted L).imp fun h => by simp only [decide_eq_true_eq]; omega) hp
theorem srt_len {L : List Int} (h : L.Nodup) : (srtL L).length = L.length := by rw [← srt_merge h, List.length_mergeSort]
/-- What one more number makes of a row in order: k of it stand ahead. -/
theorem insL_at {v : Int} : ∀ {l : List Int} {k : Nat}, k ≤ l.length → (∀ j, j < k → l[j]?.getD 0 < v) → (∀ h : k < l.length, v < l[k]?.getD 0) → insL v l = l.take k ++ v :: l.drop k
  | [], k, hk, h1, h2 => by
    have : k = 0 := by simpa using hk
    subst this; rfl
  | h :: t, 0, hk, h1, h2 => by
    have := h2 (by simp)
    simp at this
    rw [insL, if_neg (by omega), if_neg (by omega)]
    rfl
  | h :: t, k + 1, hk, h1, h2 => by
    have h0 := h1 0 (by omega)
    simp at h0
    rw [insL, if_pos h0, insL_at (l := t) (k := k) (by simpa using hk) (fun j hj => by have := h1 (j + 1) (by omega); simpa using this) (fun hh => by have := h2 (by simpa using hh); simpa using this)]
    rfl
theorem insL_dup {v : Int} : ∀ {l : List Int} {k : Nat}, k < l.length → (∀ j, j < k → l[j]?.getD 0 < v) → l[k]?.getD 0 = v → insL v l = l
  | [], k, hk, h1, h2 => by simp at hk
  | h :: t, 0, hk, h1, h2 => by
    simp at h2
    rw [insL, if_neg (by omega), if_pos h2]
  | h :: t, k + 1, hk, h1, h2 => by
    have h0 := h1 0 (by omega)
    simp at h0
    rw [insL, if_pos h0, insL_dup (l := t) (k := k) (by simpa using hk) (fun j hj => by have := h1 (j + 1) (by omega); simpa using this) (by simpa using h2)]
theorem srt_take {L : List Int} {k : Nat} (h : k < L.length) : srtL (L.take (k + 1)) = insL (L[k]?.getD 0) (srtL (L.take k)) := by
  unfold srtL
  rw [List.take_succ_eq_append_getElem h, List.foldl_append, List.getElem?_eq_getElem h]
  rfl
theorem insL_len (v : Int) : ∀ l : List Int, (insL v l).length ≤ l.length + 1
  | [] => by simp [insL]
  | h :: t => by
    rw [insL]
    split
    · have := insL_len v t; simp; omega
    · split <;> simp
theorem srt_len_le (L : List Int) : ∀ k, k ≤ L.length → (srtL (L.take k)).length ≤ k
  | 0, h => by simp [srtL]
  | k + 1, h => by
    rw [srt_take (by omega)]
    have h1 := insL_len (L[k]?.getD 0) (srtL (L.take k))
    have h2 := srt_len_le L k (by omega)
    omega
end Go.Proofs.YtfohfljdgmlibaaDoor
