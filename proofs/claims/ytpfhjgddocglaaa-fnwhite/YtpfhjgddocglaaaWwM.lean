/-
  Plain facts: what joined words look like; words of joined words; blanks made one kind twice.
-/
import Derived.Test.YtpfhjgddocglaaaWhY
namespace Go.Proofs.Ytpfhjgddocglaaa
set_option linter.unusedVariables false
set_option linter.unusedSimpArgs false
def WOk (W : List (List UInt8)) : Prop := ∀ x ∈ W, x ≠ [] ∧ ∀ c ∈ x, blB c = false
theorem wd_ok : ∀ (l cur : List UInt8), (∀ c ∈ cur, blB c = false) → WOk (wdB cur l)
  | [], cur, h => by
    unfold wdB
    by_cases e : cur = []
    · rw [if_pos e]; intro x hx; cases hx
    · rw [if_neg e]; intro x hx; rw [List.mem_singleton] at hx; subst hx; exact ⟨e, h⟩
  | c :: l, cur, h => by
    rw [wdB]
    by_cases hb : blB c = true
    · rw [if_pos hb]
      have ih := wd_ok l [] (fun c hc => by cases hc)
      by_cases e : cur = []
      · rw [if_pos e]; exact ih
      · rw [if_neg e]
        intro x hx
        rcases List.mem_cons.1 hx with rfl | hx
        · exact ⟨e, h⟩
        · exact ih x hx
    · rw [if_neg hb]
      exact wd_ok l (cur ++ [c]) (fun d hd => by
        rcases List.mem_append.1 hd with hd | hd
        · exact h d hd
        · rw [List.mem_singleton] at hd; subst hd; simpa using hb)
theorem join_cons2 (x y : List UInt8) (r : List (List UInt8)) : Lib.join (x :: y :: r) [32] = x ++ 32 :: Lib.join (y :: r) [32] := by
  rw [Lib.join_cons, Lib.join_cons]
  simp [Lib.joinTail]
theorem wd_join : ∀ (W : List (List UInt8)), WOk W → wdB [] (Lib.join W [32]) = W
  | [], _ => rfl
  | [x], h => by
    rw [Lib.join_one]
    obtain ⟨h1, h2⟩ := h x (List.mem_cons_self ..)
    have := wd_run x [] [] h2
    rw [List.append_nil, List.nil_append] at this
    rw [this, wdB, if_neg h1]
  | x :: y :: r, h => by
    obtain ⟨h1, h2⟩ := h x (List.mem_cons_self ..)
    have ih := wd_join (y :: r) (fun z hz => h z (List.mem_cons_of_mem _ hz))
    rw [join_cons2, wd_run x [] _ h2, List.nil_append, wdB, if_pos (by decide), if_neg h1, ih]
theorem wd_re : ∀ (l cur : List UInt8), wdB cur (reB l) = wdB cur l
  | [], cur => rfl
  | c :: l, cur => by
    have e : reB (c :: l) = (if blB c = true then 32 else c) :: reB l := rfl
    rw [e, wdB, wdB]
    by_cases hb : blB c = true
    · rw [if_pos hb, if_pos (by decide), if_pos hb, wd_re l []]
    · rw [if_neg hb, if_neg hb, if_neg hb, wd_re l (cur ++ [c])]
theorem re_re (l : List UInt8) : reB (reB l) = reB l := by
  unfold reB
  rw [List.map_map]
  apply List.map_congr_left
  intro c _
  by_cases hb : blB c = true
  · simp only [Function.comp, if_pos hb]; rfl
  · simp only [Function.comp, if_neg hb]
/-- A text whose blanks are single, and inside. -/
def GoodT (t : List UInt8) : Prop := ∀ (i : Nat) (c : UInt8), t[i]? = some c → blB c = true → c = 32 ∧ 0 < i ∧ i + 1 < t.length ∧ ∀ d, t[i - 1]? = some d → blB d = false
theorem good_join : ∀ (W : List (List UInt8)), WOk W → GoodT (Lib.join W [32]) ∧ (W ≠ [] → 0 < (Lib.join W [32]).length)
  | [], _ => ⟨fun i c h => by simp [Lib.join_nil] at h, fun h => absurd rfl h⟩
  | [x], h => by
    rw [Lib.join_one]
    obtain ⟨h1, h2⟩ := h x (List.mem_cons_self ..)
    refine ⟨fun i c hc hb => ?_, fun _ => List.length_pos_iff.2 h1⟩
    have := h2 c (List.mem_of_getElem? hc)
    rw [this] at hb
    cases hb
  | x :: y :: r, h => by
    obtain ⟨h1, h2⟩ := h x (List.mem_cons_self ..)
    obtain ⟨ih, ih2⟩ := good_join (y :: r) (fun z hz => h z (List.mem_cons_of_mem _ hz))
    have hl := ih2 (by simp)
    rw [join_cons2]
    obtain ⟨t, ht⟩ : ∃ t, Lib.join (y :: r) [32] = t := ⟨_, rfl⟩
    rw [ht] at ih hl ⊢
    have hx := List.length_pos_iff.2 h1
    refine ⟨fun i c hc hb => ?_, fun _ => by simp; omega⟩
    by_cases e : i < x.length
    · rw [List.getElem?_append_left e] at hc
      have := h2 c (List.mem_of_getElem? hc)
      rw [this] at hb
      cases hb
    · rw [List.getElem?_append_right (by omega)] at hc
      by_cases e2 : i = x.length
      · subst e2
        simp at hc
        refine ⟨hc.symm, hx, by simp; omega, fun d hd => ?_⟩
        rw [List.getElem?_append_left (by omega)] at hd
        exact h2 d (List.mem_of_getElem? hd)
      · obtain ⟨j, hj⟩ : ∃ j, i - x.length = j + 1 := ⟨i - x.length - 1, by omega⟩
        rw [hj, List.getElem?_cons_succ] at hc
        obtain ⟨g1, g2, g3, g4⟩ := ih j c hc hb
        refine ⟨g1, by omega, by simp; omega, fun d hd => ?_⟩
        rw [List.getElem?_append_right (by omega)] at hd
        obtain ⟨m, hm⟩ : ∃ m, j = m + 1 := ⟨j - 1, by omega⟩
        have e3 : i - 1 - x.length = m + 1 := by omega
        rw [e3, List.getElem?_cons_succ] at hd
        exact g4 d (by rw [hm]; exact hd)
theorem jn_good (s : ByteArray) : GoodT (jnB s).data.toList := (good_join _ (wd_ok s.data.toList [] (fun c hc => by cases hc))).1
theorem wh_idem (s : ByteArray) (i : Int) : whB (whB s i) i = whB s i := by
  by_cases h1 : i = 1
  · subst h1
    show (⟨(reB (reB s.data.toList)).toArray⟩ : ByteArray) = ⟨(reB s.data.toList).toArray⟩
    rw [re_re]
  · by_cases h2 : i = 2
    · subst h2
      show (⟨(Lib.join (wdB [] (Lib.join (wdB [] s.data.toList) [32])) [32]).toArray⟩ : ByteArray) = ⟨(Lib.join (wdB [] s.data.toList) [32]).toArray⟩
      rw [wd_join _ (wd_ok s.data.toList [] (fun c hc => by cases hc))]
    · unfold whB
      simp only [if_neg h1, if_neg h2]
theorem wh_both (s : ByteArray) : whB (whB s 1) 2 = jnB s := by
  show (⟨(Lib.join (wdB [] (reB s.data.toList)) [32]).toArray⟩ : ByteArray) = _
  rw [wd_re]
  rfl
theorem wh_len (s : ByteArray) : (whB s 1).size = s.size := by
  show (reB s.data.toList).toArray.size = s.data.size
  simp [reB]
theorem wh_size (s : ByteArray) (i : Int) (h : s.size ≤ 14) : (whB s i).size ≤ 100 := by
  by_cases h1 : i = 1
  · subst h1
    rw [wh_len]
    omega
  · by_cases h2 : i = 2
    · subst h2
      show (Lib.join (wdB [] s.data.toList) [32]).toArray.size ≤ 100
      rw [List.size_toArray]
      have h3 := join_totW [32] rfl (wdB [] s.data.toList)
      have h4 := tot_wd s.data.toList []
      have h5 : s.data.toList.length = s.size := by simp
      simp only [List.length_nil] at h4
      omega
    · unfold whB
      rw [if_neg h1, if_neg h2]
      omega
end Go.Proofs.Ytpfhjgddocglaaa
