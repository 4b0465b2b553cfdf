/-
  Plain laws on texts of marks: a right line is read as its mark, and no other one; of no program.
-/
import Derived.Test.YtdbipaobanjbbaaDoorMkMath
import Derived.Test.YtdbipaobanjbbaaDoorEsMath
import Derived.Test.YtdbipaobanjbbaaDoorUnSS
import Derived.Lib.ItoaMem
namespace Go.Proofs.YtdbipaobanjbbaaDoor
open Go.RowKit Go.Joins
set_option linter.unusedVariables false
set_option linter.unusedSimpArgs false
/-- A mark. -/
structure Mr where
  g : Bool
  dc : Int
  vl : ByteArray
  nl : Bool
  gv : Bool
def mr0 : Mr := ⟨false, 0, ⟨#[]⟩, false, false⟩
def mrA (L : List Mr) (j : Nat) : Mr := L[j]?.getD mr0
def mkOf (L : List Mr) : Mk := ⟨L.length, fun j => (mrA L j).g, fun j => (mrA L j).dc, fun j => (mrA L j).vl, fun j => (mrA L j).nl, fun j => (mrA L j).gv⟩
/-- A line without its end. -/
def bdR (m : Mr) : List UInt8 := fl m.g 103 ++ fl m.nl 110 ++ fl m.gv 100 ++ [32] ++ Lib.itoa m.dc ++ [32] ++ escL true m.vl.data.toList
def lnR (m : Mr) : List UInt8 := bdR m ++ [10]
def okR (m : Mr) : Bool := mkB m.dc m.vl
def txR (L : List Mr) : List UInt8 := L.flatMap lnR
def OkL (L : List Mr) : Prop := L.length ≤ 200 ∧ ∀ m ∈ L, okR m = true
theorem ln_lnP (m : Mr) : lnP m.g m.dc m.vl m.nl m.gv = lnR m := rfl
theorem tx_nil : txR [] = [] := rfl
theorem tx_cons (m : Mr) (L : List Mr) : txR (m :: L) = lnR m ++ txR L := by simp [txR]
theorem tx_app (A B : List Mr) : txR (A ++ B) = txR A ++ txR B := by simp [txR]
theorem mrA_mem {L : List Mr} {j : Nat} (h : j < L.length) : mrA L j ∈ L := by
  unfold mrA
  rw [List.getElem?_eq_getElem h]
  exact List.getElem_mem h
theorem tx_take (L : List Mr) : ∀ k, k ≤ L.length → txM (mkOf L) k = txR (L.take k)
  | 0, _ => by simp [txM, txR]
  | k + 1, h => by
    rw [txM, tx_take L k (by omega), List.take_succ_eq_append_getElem (by omega), tx_app]
    congr 1
    have e : mrA L k = L[k]'(by omega) := by unfold mrA; rw [List.getElem?_eq_getElem (by omega)]; rfl
    rw [tx_cons, tx_nil, List.append_nil, ← e]
    rfl
theorem tx_all (L : List Mr) : txM (mkOf L) L.length = txR L := by rw [tx_take L _ (Nat.le_refl _), List.take_length]
theorem okR_parts {m : Mr} (h : okR m = true) : (-1 ≤ m.dc ∧ m.dc ≤ 30) ∧ escOk m.vl = true ∧ m.vl.size ≤ 2500 ∧ plainB m.vl = true := by
  unfold okR mkB at h
  simp only [Bool.and_eq_true, decide_eq_true_eq] at h
  have h2 := h.2
  unfold escOk at h2
  simp only [Bool.and_eq_true, decide_eq_true_eq] at h2
  exact ⟨h.1, h.2, h2.1, h2.2⟩
/-- What MarksText answers at such a row. -/
theorem mkV_ok {L : List Mr} (h : OkL L) : mkV (mkOf L) = ⟨(txR L).toArray⟩ := by
  rw [mkV_all (M := mkOf L) h.1 (fun j hj => h.2 _ (mrA_mem hj))]
  show (⟨(txM (mkOf L) L.length).toArray⟩ : ByteArray) = _
  rw [tx_all]
theorem mkV_nok {L : List Mr} (h : ¬ OkL L) : mkV (mkOf L) = ⟨#[]⟩ := by
  by_cases h1 : L.length ≤ 200
  · have : ∃ m ∈ L, okR m = false := by
      by_cases e : ∃ m ∈ L, okR m = false
      · exact e
      · exact absurd ⟨h1, fun m hm => by
          cases h9 : okR m
          · exact absurd ⟨m, hm, h9⟩ e
          · rfl⟩ h
    obtain ⟨m, hm, h2⟩ := this
    obtain ⟨j, hj, rfl⟩ := List.mem_iff_getElem.1 hm
    refine mkV_bad (M := mkOf L) (k := j) hj ?_
    have e : mrA L j = L[j] := by unfold mrA; rw [List.getElem?_eq_getElem hj]; rfl
    show mkB (mrA L j).dc (mrA L j).vl = false
    rw [e]
    exact h2
  · exact mkV_big (M := mkOf L) (by show 200 < L.length; omega)
theorem fl_mem (b : Bool) (c : UInt8) : ∀ x ∈ fl b c, x = c ∨ x = 45 := by
  intro x hx
  unfold fl at hx
  split at hx
  · rw [List.mem_singleton] at hx; exact .inl hx
  · rw [List.mem_singleton] at hx; exact .inr hx
theorem itoa_nat (u : Nat) (h : u ≤ 30) : Lib.itoa (u : Int) = if u < 10 then [UInt8.ofNat (48 + u)] else [UInt8.ofNat (48 + u / 10), UInt8.ofNat (48 + u % 10)] := by
  rw [Lib.itoa_nonneg]
  split
  · rename_i h1; exact Lib.decDigits_one h1
  · rename_i h1; exact Lib.decDigits_two h1 (by omega)
theorem itoa_m1 : Lib.itoa (-1) = [45, 49] := by
  have h := Lib.itoa_neg 1 (by decide)
  rw [Lib.decDigits_one (by decide)] at h
  exact h
theorem itoa_dig {dc : Int} (h : -1 ≤ dc ∧ dc ≤ 30) : ∀ b ∈ Lib.itoa dc, b ≠ 10 ∧ b ≠ 32 := by
  by_cases e : dc = -1
  · subst e
    rw [itoa_m1]
    decide
  · have H : ∀ u : Nat, u < 31 → ∀ b ∈ (if u < 10 then [UInt8.ofNat (48 + u)] else [UInt8.ofNat (48 + u / 10), UInt8.ofNat (48 + u % 10)]), b ≠ 10 ∧ b ≠ 32 := by decide
    have h1 := H dc.toNat (by omega)
    rw [← itoa_nat dc.toNat (by omega), show ((dc.toNat : Nat) : Int) = dc by omega] at h1
    exact h1
theorem itoa_pos {dc : Int} (h : -1 ≤ dc ∧ dc ≤ 30) : 1 ≤ (Lib.itoa dc).length := by
  by_cases e : dc = -1
  · subst e
    rw [itoa_m1]
    decide
  · have h1 := itoa_nat dc.toNat (by omega)
    rw [show ((dc.toNat : Nat) : Int) = dc by omega] at h1
    rw [h1]
    split <;> simp
theorem escB_no10 (c : UInt8) : ∀ b ∈ escB true c, b ≠ 10 := by
  unfold escB
  split
  · decide +revert
  split
  · decide +revert
  split
  · decide +revert
  split
  · decide +revert
  split
  · intro b hb; rw [List.mem_cons, List.mem_cons, List.mem_cons, List.mem_cons, List.mem_cons, List.mem_cons] at hb; rcases hb with rfl | rfl | rfl | rfl | rfl | rfl | hb <;> first | (exact (by decide)) | cases hb
  split
  · intro b hb; rw [List.mem_cons, List.mem_cons, List.mem_cons, List.mem_cons] at hb; rcases hb with rfl | rfl | rfl | rfl | hb <;> first | (exact (by decide)) | cases hb
  split
  · intro b hb; rw [List.mem_cons, List.mem_cons, List.mem_cons, List.mem_cons, List.mem_cons] at hb; rcases hb with rfl | rfl | rfl | rfl | rfl | hb <;> first | (exact (by decide)) | cases hb
  · rename_i h38 h60 h62 h13 h34 h9 h10
    intro b hb
    rw [List.mem_singleton] at hb
    subst hb
    exact fun e => h10 ⟨rfl, e⟩
theorem escL_no10 (l : List UInt8) : ∀ b ∈ escL true l, b ≠ 10 := by
  intro b hb
  unfold escL at hb
  obtain ⟨c, hc, hb⟩ := List.mem_flatMap.1 hb
  exact escB_no10 c b hb
theorem bd_no10 {m : Mr} (h : okR m = true) : ∀ b ∈ bdR m, b ≠ 10 := by
  intro b hb
  unfold bdR at hb
  simp only [List.mem_append] at hb
  rcases hb with (((((hb | hb) | hb) | hb) | hb) | hb) | hb
  · rcases fl_mem _ _ b hb with rfl | rfl <;> decide
  · rcases fl_mem _ _ b hb with rfl | rfl <;> decide
  · rcases fl_mem _ _ b hb with rfl | rfl <;> decide
  · rw [List.mem_singleton] at hb; subst hb; decide
  · exact (itoa_dig (okR_parts h).1 b hb).1
  · rw [List.mem_singleton] at hb; subst hb; decide
  · exact escL_no10 _ b hb
/-- Two texts with an end each: the first ends are one. -/
theorem first_end : ∀ (a b u v : List UInt8), (∀ x ∈ a, x ≠ 10) → (∀ x ∈ b, x ≠ 10) → a ++ 10 :: u = b ++ 10 :: v → a = b ∧ u = v
  | [], [], u, v, _, _, h => by simp at h; exact ⟨rfl, h⟩
  | [], y :: b, u, v, _, hb, h => by
    simp at h
    exact absurd h.1.symm (hb y (by simp))
  | x :: a, [], u, v, ha, _, h => by
    simp at h
    exact absurd h.1 (ha x (by simp))
  | x :: a, y :: b, u, v, ha, hb, h => by
    simp at h
    obtain ⟨h1, h2⟩ := first_end a b u v (fun z hz => ha z (by simp [hz])) (fun z hz => hb z (by simp [hz])) h.2
    exact ⟨by rw [h.1, h1], h2⟩
/-- The marks that are still to come begin with the line that was read. -/
theorem tx_line {R : List Mr} {line u : List UInt8} (hR : ∀ m ∈ R, okR m = true) (hl : ∀ x ∈ line, x ≠ 10) (h : txR R = line ++ 10 :: u) : ∃ m R', R = m :: R' ∧ bdR m = line ∧ txR R' = u := by
  cases R with
  | nil => rw [tx_nil] at h; simp at h
  | cons m R' =>
    rw [tx_cons] at h
    unfold lnR at h
    rw [List.append_assoc] at h
    obtain ⟨h1, h2⟩ := first_end _ _ _ _ (bd_no10 (hR m (by simp))) hl (by simpa using h)
    exact ⟨m, R', rfl, h1, h2⟩
/-- A text of marks ends with an end. -/
theorem tx_open {R : List Mr} {line : List UInt8} (hl : ∀ x ∈ line, x ≠ 10) (h : txR R = line) : R = [] ∧ line = [] := by
  cases R with
  | nil => exact ⟨rfl, h.symm⟩
  | cons m R' =>
    rw [tx_cons] at h
    have : (10 : UInt8) ∈ line := by rw [← h]; simp [lnR]
    exact absurd rfl (hl 10 this)
theorem fl_one (b : Bool) (c : UInt8) : fl b c = [if b = true then c else 45] := by unfold fl; split <;> rfl
/-- A right line: its parts. -/
theorem bd_eq (m : Mr) : bdR m = (if m.g = true then 103 else 45) :: (if m.nl = true then 110 else 45) :: (if m.gv = true then 100 else 45) :: 32 :: (Lib.itoa m.dc ++ 32 :: escL true m.vl.data.toList) := by
  unfold bdR
  rw [fl_one, fl_one, fl_one]
  simp
theorem bd_drop (m : Mr) : (bdR m).drop 4 = Lib.itoa m.dc ++ 32 :: escL true m.vl.data.toList := by rw [bd_eq]; rfl
theorem bd_cut {m : Mr} (h : okR m = true) : cut1 32 ((bdR m).drop 4) = (Lib.itoa m.dc, escL true m.vl.data.toList, true) := by
  rw [bd_drop]
  exact cut1_app 32 _ _ (fun b hb => (itoa_dig (okR_parts h).1 b hb).2)
theorem fl_val (b : Bool) (c : UInt8) (hc : c ≠ 45) : ((if b = true then c else 45) == c) = b := by
  cases b
  · simp; exact fun e => hc e.symm
  · simp
theorem esc_len3 {m : Mr} (h : okR m = true) : (escL true m.vl.data.toList).length ≤ 15000 := by
  have h2 := escL_len true m.vl.data.toList
  rw [bl] at h2
  have := (okR_parts h).2.2.1
  omega
theorem bd_un {m : Mr} (h : okR m = true) : unOk ⟨(escL true m.vl.data.toList).toArray⟩ = true ∧ unV ⟨(escL true m.vl.data.toList).toArray⟩ = m.vl := by
  have hp := plain_esc true (okR_parts h).2.2.2 (by have := esc_len3 h; omega)
  have hu := un_esc true m.vl.data.toList
  unfold unOk unV
  rw [hp]
  simp only [if_true, Bool.true_and]
  rw [hu]
  exact ⟨rfl, rfl⟩
theorem bd_len {m : Mr} (h : okR m = true) : 6 ≤ (bdR m).length ∧ (bdR m).length ≤ 15010 := by
  rw [bd_eq]
  have h1 := itoa_len (okR_parts h).1
  have h2 := esc_len3 h
  have h3 := itoa_pos (okR_parts h).1
  simp only [List.length_cons, List.length_append]
  omega
end Go.Proofs.YtdbipaobanjbbaaDoor
