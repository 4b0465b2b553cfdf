/-
  What ReadMarks has read so far, by the specification.
-/
import Derived.Test.YtdbipaobanjbbaaDoorMrE
namespace Go.Proofs.YtdbipaobanjbbaaDoor
open Go.RowKit Go.Joins
set_option linter.unusedVariables false
set_option linter.unusedSimpArgs false
theorem unesc_len : ∀ (f : Nat) (l x : List UInt8), l.length ≤ f → unesc l = some x → x.length ≤ l.length
  | 0, l, x, hl, h => by
    have : l = [] := List.length_eq_zero_iff.1 (by omega)
    subst this
    rw [unesc_nil] at h
    cases h
    exact Nat.le_refl _
  | f + 1, [], x, hl, h => by rw [unesc_nil] at h; cases h; exact Nat.le_refl _
  | f + 1, c :: t, x, hl, h => by
    have ht : t.length ≤ f := by simpa using hl
    by_cases h60 : c = 60
    · subst h60; rw [unesc_lt] at h; cases h
    · by_cases h38 : c = 38
      · subst h38
        rw [unesc_amp] at h
        split at h
        · rename_i h1
          cases hr : refB (cut1 59 t).1 with
          | none => rw [hr] at h; cases h
          | some y =>
            rw [hr] at h
            dsimp only at h
            obtain ⟨z, hz, rfl⟩ := Option.map_eq_some_iff.1 h
            have h2 := cut1_yes 59 t h1
            have h3 := congrArg List.length h2
            simp only [List.length_append, List.length_cons] at h3
            have h4 := unesc_len f _ z (by omega) hz
            have h5 := (refB_len hr).2.1
            simp only [List.length_append, List.length_cons]
            omega
        · cases h
      · rw [unesc_chr t h60 h38] at h
        obtain ⟨z, hz, rfl⟩ := Option.map_eq_some_iff.1 h
        have := unesc_len f t z ht hz
        simp only [List.length_cons]
        omega
theorem unV_len (s : ByteArray) : (unV s).size ≤ s.size := by
  unfold unV
  split
  · unfold strO
    cases h : unesc s.data.toList with
    | none => exact Nat.zero_le _
    | some x =>
      have := unesc_len _ _ x (Nat.le_refl _) h
      have h8 : (⟨x.toArray⟩ : ByteArray).size = x.length := by simp [ByteArray.size]
      have h7 := bl s
      show (⟨x.toArray⟩ : ByteArray).size ≤ s.size
      omega
  · exact Nat.zero_le _
/-- What is read: the marks L, and the bytes C of a line that has no end yet. -/
def RmRel (s : ByteArray) (w wr : World) (k : Nat) (C : ByteArray) (ad : Option Addr) (n c : Nat) : Prop :=
  ∃ L, MrO w.heap.size wr ad n c L ∧ (∀ b ∈ C.data.toList, b ≠ 10) ∧ szL L + C.size ≤ k ∧ n ≤ 200 ∧ Below w.heap.size w wr ∧ ∀ A, OkL A → txR A = s.data.toList → ∃ R, A = L ++ R ∧ txR R = C.data.toList ++ s.data.toList.drop k
theorem rr_start (s : ByteArray) (w : World) : RmRel s w (w.alloc (.cells #[] 29)) 0 ⟨#[]⟩ (some ⟨w.heap.size, 0, none⟩) 0 0 :=
  ⟨[], ⟨World.ownsRow_made (base := w.heap.size) (e := 29) (size := 5) w #[] 0 (Nat.le_refl _) (Nat.zero_le _) rfl, rfl⟩, fun b hb => by simp at hb, Nat.zero_le _, Nat.zero_le _, (Below.refl _ _).alloc (Nat.le_refl _) _, fun A hA h => ⟨A, rfl, by simpa using h⟩⟩
section
variable {s : ByteArray} {w wr : World} {k : Nat} {C : ByteArray} {ad : Option Addr} {n c : Nat}
theorem rr_below (h : RmRel s w wr k C ad n c) : Below w.heap.size w wr := by obtain ⟨L, -, -, -, -, h, -⟩ := h; exact h
theorem rr_size (h : RmRel s w wr k C ad n c) : C.size ≤ k ∧ n ≤ 200 := by obtain ⟨L, -, -, h1, h2, -⟩ := h; exact ⟨by omega, h2⟩
theorem bdrop (t : ByteArray) (k : Nat) (hk : k < t.size) : t.data.toList.drop k = t[k] :: t.data.toList.drop (k + 1) := by
  have hl : k < t.data.toList.length := by simpa using hk
  rw [List.drop_eq_getElem_cons hl]
  simp
  rfl
theorem bext1 (C t : ByteArray) (k : Nat) (hk : k < t.size) : (C ++ t.extract k (k + 1)).data.toList = C.data.toList ++ [t[k]] := by
  have e1 : (t.extract k (k + 1)).data.toList = [t[k]] := by
    rw [Lib.extract_data, bdrop t k hk]
    simp
  have e2 : (C ++ t.extract k (k + 1)).data.toList = C.data.toList ++ (t.extract k (k + 1)).data.toList := by simp [ByteArray.data_append]
  rw [e2, e1]
theorem rr_more (h : RmRel s w wr k C ad n c) (hk : k < s.size) (hc : s[k] ≠ 10) : RmRel s w wr (k + 1) (C ++ s.extract k (k + 1)) ad n c := by
  obtain ⟨L, h1, h2, h3, h4, h5, h6⟩ := h
  have e := bext1 C s k hk
  refine ⟨L, h1, fun b hb => ?_, ?_, h4, h5, fun A hA hx => ?_⟩
  · rw [e] at hb
    rcases List.mem_append.1 hb with hb | hb
    · exact h2 b hb
    · rw [List.mem_singleton] at hb; subst hb; exact hc
  · have h8 := ByteArray.size_append (a := C) (b := s.extract k (k + 1))
    have h9 := ByteArray.size_extract (a := s) (b := k) (e := k + 1)
    omega
  · obtain ⟨R, hR, hx2⟩ := h6 A hA hx
    exact ⟨R, hR, by rw [hx2, e, bdrop s k hk]; simp⟩
/-- At a line's end: the mark of it, if the text is one of right marks. -/
theorem rr_line (h : RmRel s w wr k C ad n c) (hk : k < s.size) (hc : s[k] = 10) : ∀ A, OkL A → txR A = s.data.toList → ∃ m, okR m = true ∧ bdR m = C.data.toList ∧ n < 200 := by
  obtain ⟨L, h1, h2, h3, h4, h5, h6⟩ := h
  intro A hA hx
  obtain ⟨R, hR, hx2⟩ := h6 A hA hx
  rw [bdrop s k hk, hc] at hx2
  obtain ⟨m, R', e1, e2, e3⟩ := tx_line (fun m hm => hA.2 m (by rw [hR]; simp [hm])) h2 hx2
  refine ⟨m, hA.2 m (by rw [hR, e1]; simp), e2, ?_⟩
  have h9 := hA.1
  rw [hR, e1] at h9
  simp at h9
  have h8 := h1.2
  omega
theorem rr_fail (h : RmRel s w wr k C ad n c) (hk : k < s.size) (hc : s[k] = 10) (hb : ∀ m, okR m = true → bdR m = C.data.toList → n < 200 → False) : ¬ ∃ A, OkL A ∧ txR A = s.data.toList := fun ⟨A, hA, hx⟩ => by
  obtain ⟨m, h1, h2, h3⟩ := rr_line h hk hc A hA hx
  exact hb m h1 h2 h3
theorem rr_own (h : RmRel s w wr k C ad n c) : wr.ownsRow w.heap.size 29 5 (.slice ad n c) n ((Classical.choose h).flatMap mrV) := (Classical.choose_spec h).1.1
theorem rr_put (h : RmRel s w wr k C ad n c) (hk : k < s.size) (hc : s[k] = 10) {m : Mr} {w2 : World} {ad2 : Option Addr} {c2 : Nat} (hm : ∀ m', okR m' = true → bdR m' = C.data.toList → m = m') (hv : m.vl.size ≤ C.size) (hn : n < 200)
    (ho : w2.ownsRow w.heap.size 29 5 (.slice ad2 (n + 1) c2) (n + 1) ((Classical.choose h).flatMap mrV ++ mrV m)) (hb : Below w.heap.size w w2) : RmRel s w w2 (k + 1) ⟨#[]⟩ ad2 (n + 1) c2 := by
  obtain ⟨h1, h2, h3, h4, h5, h6⟩ := Classical.choose_spec h
  refine ⟨Classical.choose h ++ [m], ⟨?_, by rw [List.length_append, h1.2]; rfl⟩, fun b hb => by simp at hb, ?_, by omega, hb, fun A hA hx => ?_⟩
  · rw [List.flatMap_append, List.flatMap_singleton]
    exact ho
  · rw [szL_snoc]
    show _ + 0 ≤ _
    omega
  · obtain ⟨R, hR, hx2⟩ := h6 A hA hx
    rw [bdrop s k hk, hc] at hx2
    obtain ⟨m', R', e1, e2, e3⟩ := tx_line (fun m hm => hA.2 m (by rw [hR]; simp [hm])) h2 hx2
    refine ⟨R', ?_, ?_⟩
    · rw [hR, e1, hm m' (hA.2 m' (by rw [hR, e1]; simp)) e2]
      simp
    · rw [e3]; rfl
/-- At the end. -/
theorem rr_open (h : RmRel s w wr k C ad n c) (hk : k = s.size) (hC : C.data.toList ≠ []) : ¬ ∃ A, OkL A ∧ txR A = s.data.toList := fun ⟨A, hA, hx⟩ => by
  obtain ⟨L, h1, h2, h3, h4, h5, h6⟩ := h
  obtain ⟨R, hR, hx2⟩ := h6 A hA hx
  rw [hk, List.drop_of_length_le (by simp), List.append_nil] at hx2
  exact hC (tx_open h2 hx2).2
theorem rr_end (h : RmRel s w wr k C ad n c) (hk : k = s.size) (hC : C.data.toList = []) : ∃ L, MrO w.heap.size wr ad n c L ∧ mkTot (mkOf L) ≤ s.size ∧ ((mkV (mkOf L) = s → OkL L ∧ txR L = s.data.toList) ∧ (mkV (mkOf L) ≠ s → ¬ ∃ A, OkL A ∧ txR A = s.data.toList)) := by
  obtain ⟨L, h1, h2, h3, h4, h5, h6⟩ := h
  have hm := mkTot_of L
  have hz : mkTot (mkOf L) ≤ s.size := by rw [hm]; unfold szL at h3; omega
  refine ⟨L, h1, hz, fun hv => ?_, fun hv => fun ⟨A, hA, hx⟩ => ?_⟩
  · by_cases ho : OkL L
    · rw [mkV_ok ho] at hv
      exact ⟨ho, by rw [← hv]⟩
    · rw [mkV_nok ho] at hv
      have hs0 : s.size = 0 := by rw [← hv]; rfl
      have hL : L = [] := List.length_eq_zero_iff.1 (by have := szL_len L; omega)
      exact absurd ⟨by rw [hL]; exact Nat.zero_le _, fun m hm => by rw [hL] at hm; simp at hm⟩ ho
  · obtain ⟨R, hR, hx2⟩ := h6 A hA hx
    rw [hk, List.drop_of_length_le (by simp), List.append_nil] at hx2
    obtain ⟨hR0, -⟩ := tx_open h2 hx2
    rw [hR0, List.append_nil] at hR
    subst hR
    rw [mkV_ok hA] at hv
    apply hv
    cases s with
    | mk d =>
      have : txR A = d.toList := hx
      rw [this]
end
end Go.Proofs.YtdbipaobanjbbaaDoor
