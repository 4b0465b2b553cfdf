/-
  Shortest texts of expressions: the least character of a class, the text of a node. No step of the program in this text.
-/
import Derived.Test.YtepommmmmfaihaaDoorC7
namespace Go.Proofs.YtepommmmmfaihaaDoor
open Go.RowKit
set_option linter.unusedVariables false
set_option linter.unusedSimpArgs false
/-- What the ranges of a class are. -/
def RgOk (n : Nat) (L H : Nat → Int) : Prop := 1 ≤ n ∧ n ≤ 12 ∧ ∀ i, i < n → chB (L i) = true ∧ chB (H i) = true ∧ L i ≤ H i
/-- A class has a character. -/
def inC (nt : Bool) (n : Nat) (L H : Nat → Int) (x : Int) : Bool := chB x && (anyB n L H x != nt)
theorem ch_yes {x : Int} (h : (0 ≤ x ∧ x ≤ 55295) ∨ (57344 ≤ x ∧ x ≤ 1114111)) : chB x = true := decide_eq_true h
theorem any_iff {n : Nat} {L H : Nat → Int} {x : Int} : anyB n L H x = true ↔ ∃ i, i < n ∧ L i ≤ x ∧ x ≤ H i := by
  unfold anyB hasB
  rw [List.any_eq_true]
  constructor
  · rintro ⟨i, h1, h2⟩
    exact ⟨i, by simpa using h1, of_decide_eq_true h2⟩
  · rintro ⟨i, h1, h2⟩
    exact ⟨i, by simpa using h1, decide_eq_true h2⟩
theorem any_no {n : Nat} {L H : Nat → Int} {x : Int} (h : ¬ ∃ i, i < n ∧ L i ≤ x ∧ x ≤ H i) : anyB n L H x = false := by
  cases hx : anyB n L H x
  · rfl
  · exact absurd (any_iff.1 hx) h
theorem inC_pos {n : Nat} {L H : Nat → Int} {x : Int} : inC false n L H x = true ↔ chB x = true ∧ ∃ i, i < n ∧ L i ≤ x ∧ x ≤ H i := by
  unfold inC
  rw [Bool.and_eq_true, bne_iff_ne, ← any_iff]
  constructor
  · rintro ⟨h1, h2⟩
    exact ⟨h1, by cases hx : anyB n L H x; exact absurd hx h2; rfl⟩
  · rintro ⟨h1, h2⟩
    exact ⟨h1, by rw [h2]; decide⟩
theorem inC_neg {n : Nat} {L H : Nat → Int} {x : Int} : inC true n L H x = true ↔ chB x = true ∧ ¬ ∃ i, i < n ∧ L i ≤ x ∧ x ≤ H i := by
  unfold inC
  rw [Bool.and_eq_true, bne_iff_ne, ← any_iff]
/-- The character behind a range. -/
def fixC (z : Int) : Int := if z = 55296 then 57344 else z
/-- Where a run of characters of a class can begin. -/
def CandS (n : Nat) (L H : Nat → Int) (y : Int) : Prop := y = 0 ∨ ∃ i, i < n ∧ (y = L i ∨ y = fixC (H i + 1))
theorem cand_neg {n : Nat} {L H : Nat → Int} (hok : RgOk n L H) : ∀ (k : Nat) (x : Int), x.toNat ≤ k → inC true n L H x = true → ∃ y, inC true n L H y = true ∧ y ≤ x ∧ CandS n L H y := by
  intro k
  induction k with
  | zero =>
    intro x hk hx
    have hc := chB_cases (inC_neg.1 hx).1
    have : x = 0 := by omega
    exact ⟨x, hx, Int.le_refl _, .inl this⟩
  | succ k ih =>
    intro x hk hx
    obtain ⟨hc, hno⟩ := inC_neg.1 hx
    have hcc := chB_cases hc
    by_cases h0 : x = 0
    · exact ⟨x, hx, Int.le_refl _, .inl h0⟩
    · by_cases h5 : x = 57344
      · subst h5
        by_cases hr : ∃ i, i < n ∧ L i ≤ 55295 ∧ 55295 ≤ H i
        · obtain ⟨i, hi, h1, h2⟩ := hr
          have hH := chB_cases (hok.2.2 i hi).2.1
          have hHe : H i = 55295 := by
            rcases Int.lt_or_le (H i) 57344 with h | h
            · omega
            · exact absurd ⟨i, hi, by omega, h⟩ hno
          exact ⟨57344, hx, Int.le_refl _, .inr ⟨i, hi, .inr (by rw [hHe]; rfl)⟩⟩
        · obtain ⟨y, hy, hle, hcd⟩ := ih 55295 (by omega) (inC_neg.2 ⟨by decide, hr⟩)
          exact ⟨y, hy, by omega, hcd⟩
      · have hc1 : chB (x - 1) = true := ch_yes (by omega)
        by_cases hr : ∃ i, i < n ∧ L i ≤ x - 1 ∧ x - 1 ≤ H i
        · obtain ⟨i, hi, h1, h2⟩ := hr
          have hHe : H i = x - 1 := by
            rcases Int.lt_or_le (H i) x with h | h
            · omega
            · exact absurd ⟨i, hi, by omega, h⟩ hno
          refine ⟨x, hx, Int.le_refl _, .inr ⟨i, hi, .inr ?_⟩⟩
          unfold fixC
          rw [hHe, if_neg (by omega)]
          omega
        · obtain ⟨y, hy, hle, hcd⟩ := ih (x - 1) (by omega) (inC_neg.2 ⟨hc1, hr⟩)
          exact ⟨y, hy, by omega, hcd⟩
theorem cand_ok {nt : Bool} {n : Nat} {L H : Nat → Int} (hok : RgOk n L H) {x : Int} (hx : inC nt n L H x = true) : ∃ y, inC nt n L H y = true ∧ y ≤ x ∧ CandS n L H y := by
  cases nt
  · obtain ⟨hc, i, hi, h1, h2⟩ := inC_pos.1 hx
    exact ⟨L i, inC_pos.2 ⟨(hok.2.2 i hi).1, i, hi, Int.le_refl _, (hok.2.2 i hi).2.2⟩, h1, .inr ⟨i, hi, .inl rfl⟩⟩
  · exact cand_neg hok x.toNat x (Nat.le_refl _) hx
/-- The least character of a class. -/
def LeastC (nt : Bool) (n : Nat) (L H : Nat → Int) (r : Int) : Prop := inC nt n L H r = true ∧ ∀ x, inC nt n L H x = true → r ≤ x
open Classical in
noncomputable def leC (nt : Bool) (n : Nat) (L H : Nat → Int) : Option Int := if h : ∃ r, LeastC nt n L H r then some (Classical.choose h) else none
theorem le_some {nt : Bool} {n : Nat} {L H : Nat → Int} {r : Int} (h : LeastC nt n L H r) : leC nt n L H = some r := by
  have hx : ∃ r, LeastC nt n L H r := ⟨r, h⟩
  have hs := Classical.choose_spec hx
  unfold leC
  rw [dif_pos hx]
  have h1 := h.2 _ hs.1
  have h2 := hs.2 _ h.1
  rw [Option.some.injEq]
  omega
theorem le_none {nt : Bool} {n : Nat} {L H : Nat → Int} (h : ∀ x, inC nt n L H x = false) : leC nt n L H = none := by
  unfold leC
  rw [dif_neg]
  rintro ⟨r, hr, -⟩
  rw [h r] at hr
  cases hr
/-- By its candidates. -/
theorem le_cand {nt : Bool} {n : Nat} {L H : Nat → Int} (hok : RgOk n L H) {r : Int} (h : inC nt n L H r = true) (hm : ∀ y, CandS n L H y → inC nt n L H y = true → r ≤ y) : leC nt n L H = some r := le_some ⟨h, fun x hx => by
  obtain ⟨y, hy, hle, hc⟩ := cand_ok hok hx
  have := hm y hc hy
  omega⟩
theorem le_nocand {nt : Bool} {n : Nat} {L H : Nat → Int} (hok : RgOk n L H) (hm : ∀ y, CandS n L H y → inC nt n L H y = false) : leC nt n L H = none := le_none fun x => by
  cases hx : inC nt n L H x
  · rfl
  · obtain ⟨y, hy, hle, hc⟩ := cand_ok hok hx
    rw [hm y hc] at hy
    cases hy
theorem le_range {nt : Bool} {n : Nat} {L H : Nat → Int} {r : Int} (h : leC nt n L H = some r) : chB r = true := by
  unfold leC at h
  split at h
  · rename_i hx
    have hs := Classical.choose_spec hx
    rw [Option.some.injEq] at h
    rw [← h]
    have h1 := hs.1
    unfold inC at h1
    rw [Bool.and_eq_true] at h1
    exact h1.1
  · cases h
/-- A text again and again. -/
def repL (p : List Int) : Nat → List Int
  | 0 => []
  | k + 1 => repL p k ++ p
theorem rep_len (p : List Int) : ∀ k, (repL p k).length = k * p.length
  | 0 => by simp [repL]
  | k + 1 => by rw [repL, List.length_append, rep_len p k, Nat.succ_mul]
/-- One and then another. -/
def rowS : Option (List Int) → Option (List Int) → Option (List Int)
  | some p, some q => if p.length + q.length ≤ 300 then some (p ++ q) else none
  | _, _ => none
/-- One or another. -/
def orS : Option (List Int) → Option (List Int) → Option (List Int)
  | none, b => b
  | some p, none => some p
  | some p, some q => if q.length < p.length then some q else some p
def cntS (mn : Int) (a : Option (List Int)) : Option (List Int) := if mn = 0 then some [] else match a with
  | some p => if p.length * mn.toNat ≤ 300 then some (repL p mn.toNat) else none
  | none => none
/-- One of the shortest texts of a node. -/
noncomputable def shX (X : Rx) (n : Nat) : Option (List Int) :=
  if X.K n = 2 then (leC (X.NT n) (X.NR n) (X.L n) (X.H n)).map fun c => [c]
  else if X.K n = 3 then (if h : (X.A n).toNat < n ∧ (X.B n).toNat < n then rowS (shX X (X.A n).toNat) (shX X (X.B n).toNat) else none)
  else if X.K n = 4 then (if h : (X.A n).toNat < n ∧ (X.B n).toNat < n then orS (shX X (X.A n).toNat) (shX X (X.B n).toNat) else none)
  else if X.K n = 5 then (if h : (X.A n).toNat < n then cntS (X.MN n) (shX X (X.A n).toNat) else none)
  else some []
termination_by n
decreasing_by all_goals omega
section
variable {X : Rx} {n a b : Nat}
theorem sh_class (h : X.K n = 2) : shX X n = (leC (X.NT n) (X.NR n) (X.L n) (X.H n)).map fun c => [c] := by rw [shX, if_pos h]
theorem sh_seq (h : X.K n = 3) (hA : X.A n = (a : Int)) (hB : X.B n = (b : Int)) (ha : a < n) (hb : b < n) : shX X n = rowS (shX X a) (shX X b) := by
  rw [shX, if_neg (by omega), if_pos h, hA, hB]
  simp only [Int.toNat_natCast]
  rw [dif_pos ⟨ha, hb⟩]
theorem sh_or (h : X.K n = 4) (hA : X.A n = (a : Int)) (hB : X.B n = (b : Int)) (ha : a < n) (hb : b < n) : shX X n = orS (shX X a) (shX X b) := by
  rw [shX, if_neg (by omega), if_neg (by omega), if_pos h, hA, hB]
  simp only [Int.toNat_natCast]
  rw [dif_pos ⟨ha, hb⟩]
theorem sh_cnt (h : X.K n = 5) (hA : X.A n = (a : Int)) (ha : a < n) : shX X n = cntS (X.MN n) (shX X a) := by
  rw [shX, if_neg (by omega), if_neg (by omega), if_neg (by omega), if_pos h, hA]
  simp only [Int.toNat_natCast]
  rw [dif_pos ha]
theorem sh_empty (h : X.K n = 1) : shX X n = some [] := by
  rw [shX, if_neg (by omega), if_neg (by omega), if_neg (by omega), if_neg (by omega)]
end
end Go.Proofs.YtepommmmmfaihaaDoor
