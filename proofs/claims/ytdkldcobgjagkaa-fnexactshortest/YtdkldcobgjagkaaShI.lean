/-
  Contract of the program: the least character of a class.
-/
import Derived.Test.YtdkldcobgjagkaaShM
import Derived.Test.YtdkldcobgjagkaaClass2
import Derived.Test.YtdkldcobgjagkaaShelfS
import Derived.Sort.OwnSortedInts
import Derived.OwnWalk
import Derived.Laws.OwnMore
namespace Go.Proofs.Ytdkldcobgjagkaa
open Go.RowKit Go.Joins
set_option linter.unusedVariables false
set_option linter.unusedSimpArgs false
/-- A row of numbers of one's own. -/
def IR (B : Nat) (w : World) (ad : Option Addr) (c : Nat) (L : List Int) : Prop := w.ownsRow B 2 1 (.slice ad L.length c) L.length (L.map (Value.int .i64))
/-- A row in order. -/
def srG (L : List Int) : List Int := L.mergeSort fun x y => decide (x ≤ y)
theorem srG_len (L : List Int) : (srG L).length = L.length := List.length_mergeSort ..
theorem srG_mem {L : List Int} {x : Int} : x ∈ srG L ↔ x ∈ L := (List.mergeSort_perm L _).mem_iff
theorem srG_ord (L : List Int) : (srG L).Pairwise (fun a b => a ≤ b) := by
  have h := List.pairwise_mergeSort (le := fun (x y : Int) => decide (x ≤ y)) (fun a b c h1 h2 => by simp at h1 h2 ⊢; omega) (fun a b => by simp; omega) L
  exact h.imp (fun h => by simpa using h)
theorem i_sortG (B : Nat) (ad : Option Addr) (c : Nat) (L : List Int) (w : World) (h : IR B w ad c L) (h0 : 0 < L.length) (hl : L.length ≤ 1000) :
    Calls Try.prog 41 #[.slice ad L.length c] w fun e w' => e = .returned (.tuple #[]) ∧ IR B w' ad c (srG L) ∧ ∀ w0, Below B w0 w → Below B w0 w' := by
  rcases h.2 with ⟨hv, h1⟩ | ⟨g, cap, cur, hv, hB, hg, hc, hm, hz, ht⟩
  · omega
  · simp only [Value.slice.injEq] at hv
    obtain ⟨rfl, -, rfl⟩ := hv
    have hgl : g < w.heap.size := (Array.getElem?_eq_some_iff.1 hg).1
    have hsl : (srG L).length = L.length := srG_len L
    refine (Try.slices_Sort_int g 0 c L w (holds_of_blockI hg (by rw [Nat.mul_one] at ht; exact ht)) hgl (by omega)).mono ?_
    rintro e w' ⟨rfl, n, os, rfl⟩
    have ho := ownsRow_sortedI (n := n) (os := os) (ss := L) (ts := srG L) hsl hB hg hc hm hz
    refine ⟨rfl, ?_, fun w0 hb => ?_⟩
    · unfold IR
      rw [hsl]
      exact ho
    · exact hb.grown (grownBy_sortedI (srG L).toArray) (by omega) (fun k hk => by cases hk; exact hB)
/-- The candidates, in the program's way. -/
def cdI (L H : Nat → Int) : Nat → List Int
  | 0 => [0, 57344]
  | k + 1 => cdI L H k ++ [L k, H k + 1]
theorem cdI_len (L H : Nat → Int) : ∀ k, (cdI L H k).length = 2 * k + 2
  | 0 => rfl
  | k + 1 => by rw [cdI, List.length_append, cdI_len L H k]; simp; omega
theorem cdI_has {L H : Nat → Int} : ∀ {n : Nat} {y : Int}, CandS n L H y → y ∈ cdI L H n := by
  intro n y h
  have h0 : ∀ k, (0 : Int) ∈ cdI L H k ∧ (57344 : Int) ∈ cdI L H k := by
    intro k
    induction k with
    | zero => simp [cdI]
    | succ k ih => rw [cdI]; exact ⟨List.mem_append_left _ ih.1, List.mem_append_left _ ih.2⟩
  have h1 : ∀ k i, i < k → L i ∈ cdI L H k ∧ H i + 1 ∈ cdI L H k := by
    intro k
    induction k with
    | zero => intro i hi; omega
    | succ k ih =>
      intro i hi
      rw [cdI]
      by_cases e : i = k
      · subst e; exact ⟨List.mem_append_right _ (by simp), List.mem_append_right _ (by simp)⟩
      · exact ⟨List.mem_append_left _ (ih i (by omega)).1, List.mem_append_left _ (ih i (by omega)).2⟩
  rcases h with rfl | ⟨i, hi, rfl | rfl⟩
  · exact (h0 n).1
  · exact (h1 n i hi).1
  · unfold fixC
    split
    · exact (h0 n).2
    · exact (h1 n i hi).2
/-- The first of a row in order that the class has is its least one. -/
theorem le_first {nt : Bool} {n : Nat} {L H : Nat → Int} (hok : RgOk n L H) {M : List Int} (hM : ∀ y, CandS n L H y → y ∈ M) (hs : M.Pairwise (fun a b => a ≤ b)) {j : Nat} (hj : j < M.length) (hin : inC nt n L H (M[j]?.getD 0) = true) (hno : ∀ i, i < j → inC nt n L H (M[i]?.getD 0) = false) : leC nt n L H = some (M[j]?.getD 0) := by
  refine le_cand hok hin fun y hy hyin => ?_
  obtain ⟨i, hi, e⟩ := List.mem_iff_getElem.1 (hM y hy)
  rcases Nat.lt_trichotomy i j with h | h | h
  · have := hno i h
    rw [List.getElem?_eq_getElem hi, Option.getD_some, e, hyin] at this
    cases this
  · subst h
    rw [List.getElem?_eq_getElem hi, Option.getD_some, e]
    exact Int.le_refl _
  · have := List.pairwise_iff_getElem.1 hs j i hj hi h
    rw [List.getElem?_eq_getElem hj, Option.getD_some, ← e]
    exact this
theorem le_nofirst {nt : Bool} {n : Nat} {L H : Nat → Int} (hok : RgOk n L H) {M : List Int} (hM : ∀ y, CandS n L H y → y ∈ M) (hno : ∀ i, i < M.length → inC nt n L H (M[i]?.getD 0) = false) : leC nt n L H = none :=
  le_nocand hok fun y hy => by
    obtain ⟨i, hi, e⟩ := List.mem_iff_getElem.1 (hM y hy)
    have := hno i hi
    rw [List.getElem?_eq_getElem hi, Option.getD_some, e] at this
    exact this
end Go.Proofs.Ytdkldcobgjagkaa
