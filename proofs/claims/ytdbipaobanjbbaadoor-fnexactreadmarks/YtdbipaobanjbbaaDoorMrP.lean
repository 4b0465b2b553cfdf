/-
  Plain facts on texts of marks and their lines: of no program.
-/
import Derived.Test.YtdbipaobanjbbaaDoorMrL
namespace Go.Proofs.YtdbipaobanjbbaaDoor
open Go.RowKit Go.Joins
set_option linter.unusedVariables false
set_option linter.unusedSimpArgs false
theorem cnt_free : ∀ l : List UInt8, (∀ b ∈ l, b ≠ 10) → l.count 10 = 0
  | [], _ => rfl
  | x :: l, h => by
    rw [List.count_cons, cnt_free l (fun b hb => h b (by simp [hb]))]
    have : (x == 10) = false := by rw [beq_eq_false_iff_ne]; exact h x (by simp)
    rw [this]
    rfl
theorem cnt_tx : ∀ L : List Mr, (∀ m ∈ L, okR m = true) → (txR L).count 10 = L.length
  | [], _ => rfl
  | m :: L, h => by
    rw [tx_cons, List.count_append, cnt_tx L (fun q hq => h q (by simp [hq]))]
    unfold lnR
    rw [List.count_append, cnt_free _ (bd_no10 (h m (by simp)))]
    simp
    omega
theorem tx_split : ∀ (L A : List Mr) (u : List UInt8), (∀ m ∈ L, okR m = true) → (∀ m ∈ A, okR m = true) → txR A = txR L ++ u → ∃ R, A = L ++ R ∧ txR R = u
  | [], A, u, _, _, h => ⟨A, rfl, by rw [tx_nil, List.nil_append] at h; exact h⟩
  | m :: L, [], u, _, _, h => by rw [tx_nil, tx_cons] at h; simp [lnR] at h
  | m :: L, a :: A, u, hL, hA, h => by
    rw [tx_cons, tx_cons] at h
    unfold lnR at h
    rw [List.append_assoc, List.append_assoc, List.append_assoc] at h
    obtain ⟨h1, h2⟩ := first_end _ _ _ _ (bd_no10 (hA a (by simp))) (bd_no10 (hL m (by simp))) (by simpa using h)
    obtain ⟨R, h3, h4⟩ := tx_split L A u (fun q hq => hL q (by simp [hq])) (fun q hq => hA q (by simp [hq])) h2
    exact ⟨R, by rw [bd_inj (hA a (by simp)) (hL m (by simp)) h1, h3]; rfl, h4⟩
theorem ib_first (a u : List UInt8) (h : ∀ b ∈ a, b ≠ 10) : Lib.indexByte (a ++ 10 :: u) 10 = (a.length : Int) := by
  have hge := Lib.indexByte_ge (a ++ 10 :: u) 10
  have hat : (a ++ 10 :: u)[a.length]? = some 10 := by rw [List.getElem?_append_right (Nat.le_refl _), Nat.sub_self]; rfl
  by_cases hn : Lib.indexByte (a ++ 10 :: u) 10 = -1
  · exact absurd hat (Lib.indexByte_none hn a.length)
  · obtain ⟨o, ho⟩ : ∃ o : Nat, Lib.indexByte (a ++ 10 :: u) 10 = (o : Int) := ⟨(Lib.indexByte (a ++ 10 :: u) 10).toNat, by omega⟩
    obtain ⟨h1, h2⟩ := Lib.indexByte_some ho
    rw [ho]
    rcases Nat.lt_trichotomy o a.length with h3 | h3 | h3
    · rw [List.getElem?_append_left h3] at h1
      exact absurd rfl (h 10 (List.mem_of_getElem? h1))
    · rw [h3]
    · exact absurd hat (h2 a.length h3)
theorem nx_line {t : ByteArray} {m : Mr} {u : List UInt8} (hm : okR m = true) (h : t.data.toList = lnR m ++ u) : (nxL t).1.data.toList = lnR m := by
  have h1 : t.data.toList = bdR m ++ 10 :: u := by rw [h]; unfold lnR; simp
  have h2 := ib_first (bdR m) u (bd_no10 hm)
  rw [← h1] at h2
  unfold nxL
  rw [if_pos (by rw [h2]; omega)]
  show (t.extract 0 _).data.toList = _
  rw [Lib.extract_data, h2, h1]
  unfold lnR
  simp only [Int.toNat_natCast, Nat.sub_zero, List.drop_zero]
  rw [show bdR m ++ 10 :: u = (bdR m ++ [10]) ++ u by simp]
  exact List.take_left' (by simp)
/-- What is read so far: right marks, and the rest of the text. -/
def RdL (s : ByteArray) (k : Nat) (L : List Mr) : Prop := (∀ m ∈ L, okR m = true) ∧ L.length = k ∧ txR L ++ (rsB s k).data.toList = s.data.toList
theorem rdl_start (s : ByteArray) : RdL s 0 [] := ⟨fun m hm => by simp at hm, rfl, by simp [tx_nil, rsB]⟩
theorem rdl_next {s : ByteArray} {k : Nat} {L : List Mr} {m : Mr} (h : RdL s k L) (hm : okR m = true) (hl : lnR m = (lnB s k).data.toList) : RdL s (k + 1) (L ++ [m]) := by
  refine ⟨fun q hq => ?_, by rw [List.length_append, h.2.1]; rfl, ?_⟩
  · rcases List.mem_append.1 hq with hq | hq
    · exact h.1 q hq
    · rw [List.mem_singleton] at hq; subst hq; exact hm
  · rw [tx_app, tx_cons, tx_nil, List.append_nil, List.append_assoc, hl]
    have h1 := nx_parts (rsB s k)
    have h2 : (lnB s k).data.toList ++ (rsB s (k + 1)).data.toList = (rsB s k).data.toList := h1
    rw [h2]
    exact h.2.2
theorem rdl_no {s : ByteArray} {k : Nat} {L : List Mr} (h : RdL s k L) (hn : RsN s k) (hb : ¬ ∃ m, okR m = true ∧ lnR m = (lnB s k).data.toList) : ¬ ∃ A, OkL A ∧ txR A = s.data.toList := fun ⟨A, hA, hx⟩ => by
  rw [← h.2.2] at hx
  obtain ⟨R, h1, h2⟩ := tx_split L A _ h.1 hA.2 hx
  cases R with
  | nil =>
    rw [tx_nil] at h2
    unfold RsN at hn
    rw [← bl, ← h2] at hn
    simp at hn
  | cons m R =>
    rw [tx_cons] at h2
    have hm := hA.2 m (by rw [h1]; simp)
    exact hb ⟨m, hm, (nx_line hm h2.symm).symm⟩
theorem rdl_end {s : ByteArray} {k : Nat} {L : List Mr} (h : RdL s k L) (he : RsE s k) (hc : ¬ 200 < s.data.toList.count 10) : OkL L ∧ txR L = s.data.toList := by
  have h1 : (rsB s k).data.toList = [] := List.length_eq_zero_iff.1 (by rw [bl]; exact he)
  have h2 := h.2.2
  rw [h1, List.append_nil] at h2
  refine ⟨⟨?_, h.1⟩, h2⟩
  rw [← h2, cnt_tx L h.1] at hc
  omega
theorem rdl_many {s : ByteArray} (h : 200 < s.data.toList.count 10) : ¬ ∃ A, OkL A ∧ txR A = s.data.toList := fun ⟨A, hA, hx⟩ => by
  rw [← hx, cnt_tx A hA.2] at h
  have := hA.1
  omega
theorem rdl_few {s : ByteArray} {k : Nat} {L : List Mr} (h : RdL s k L) : k ≤ s.size := by
  have h1 : ∀ L : List Mr, L.length ≤ (txR L).length := by
    intro L
    induction L with
    | nil => exact Nat.zero_le _
    | cons m L ih => rw [tx_cons, List.length_append, List.length_cons]; unfold lnR; simp; omega
  have h2 := h1 L
  have h3 := congrArg List.length h.2.2
  simp only [List.length_append, bl] at h3
  have := h.2.1
  omega
end Go.Proofs.YtdbipaobanjbbaaDoor
