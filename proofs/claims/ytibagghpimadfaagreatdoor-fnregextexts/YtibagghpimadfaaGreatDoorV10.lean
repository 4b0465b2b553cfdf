/-
  Texts put together: RgB, RxS.
-/
import Derived.Test.YtibagghpimadfaaGreatDoorV9
import Derived.Test.YtibagghpimadfaaGreatDoorV6
/-
  Texts of expressions as rows of characters: characters, classes and counts are read as what they are. No step of the program in this text.
-/
namespace Go.Proofs.YtibagghpimadfaaGreatDoor
open Go.RowKit Go.Joins
set_option linter.unusedVariables false
set_option linter.unusedSimpArgs false
/-- A character's text. -/
def chL (l : List UInt8) (c : Int) : List Int := if c = 10 then [92, 110] else if c = 13 then [92, 114] else if c = 9 then [92, 116] else if isS l c = true then [92, c] else [c]
theorem isS_mem {l : List UInt8} {c : Int} (h : isS l c = true) : ∃ b ∈ l, (b.toNat : Int) = c := by
  unfold isS at h
  rw [List.any_eq_true] at h
  obtain ⟨b, hb, h⟩ := h
  exact ⟨b, hb, by simpa using h⟩
theorem sgO_cases {c : Int} (h : isS sgO c = true) : c = 46 ∨ c = 92 ∨ c = 63 ∨ c = 42 ∨ c = 43 ∨ c = 123 ∨ c = 125 ∨ c = 40 ∨ c = 41 ∨ c = 124 ∨ c = 91 ∨ c = 93 := by
  obtain ⟨b, hb, rfl⟩ := isS_mem h
  simp only [sgO, List.mem_cons, List.not_mem_nil, or_false] at hb
  rcases hb with rfl | rfl | rfl | rfl | rfl | rfl | rfl | rfl | rfl | rfl | rfl | rfl <;> decide
theorem sgI_cases {c : Int} (h : isS sgI c = true) : c = 91 ∨ c = 93 ∨ c = 92 ∨ c = 45 ∨ c = 94 := by
  obtain ⟨b, hb, rfl⟩ := isS_mem h
  simp only [sgI, List.mem_cons, List.not_mem_nil, or_false] at hb
  rcases hb with rfl | rfl | rfl | rfl | rfl <;> decide
theorem not_sgO {c : Int} (h : isS sgO c = false) : c ≠ 46 ∧ c ≠ 92 ∧ c ≠ 63 ∧ c ≠ 42 ∧ c ≠ 43 ∧ c ≠ 123 ∧ c ≠ 125 ∧ c ≠ 40 ∧ c ≠ 41 ∧ c ≠ 124 ∧ c ≠ 91 ∧ c ≠ 93 := by
  refine ⟨?_, ?_, ?_, ?_, ?_, ?_, ?_, ?_, ?_, ?_, ?_, ?_⟩ <;> (rintro rfl; exact absurd h (by decide))
theorem not_sgI {c : Int} (h : isS sgI c = false) : c ≠ 91 ∧ c ≠ 93 ∧ c ≠ 92 ∧ c ≠ 45 ∧ c ≠ 94 := by
  refine ⟨?_, ?_, ?_, ?_, ?_⟩ <;> (rintro rfl; exact absurd h (by decide))
/-- A character alone is an atom. -/
theorem ch_atom (c : Int) (r : List Int) (X : List Nd) : cA (chL sgO c ++ r) X = some (r, X ++ [clsN c]) := by
  unfold chL
  by_cases e1 : c = 10
  · subst e1; rw [if_pos rfl]; exact cA_bs
  rw [if_neg e1]
  by_cases e2 : c = 13
  · subst e2; rw [if_pos rfl]; exact cA_bs
  rw [if_neg e2]
  by_cases e3 : c = 9
  · subst e3; rw [if_pos rfl]; exact cA_bs
  rw [if_neg e3]
  cases hs : isS sgO c
  · rw [if_neg (by decide)]
    exact cA_ch hs
  · rw [if_pos rfl]
    show cA (92 :: c :: r) X = _
    rw [cA_bs]
    rcases sgO_cases hs with rfl | rfl | rfl | rfl | rfl | rfl | rfl | rfl | rfl | rfl | rfl | rfl <;> rfl
/-- A character within brackets. -/
theorem in_ch (c : Int) (r : List Int) : inP (chL sgI c ++ r) = some (c, r) := by
  unfold chL
  by_cases e1 : c = 10
  · subst e1; rw [if_pos rfl]; rfl
  rw [if_neg e1]
  by_cases e2 : c = 13
  · subst e2; rw [if_pos rfl]; rfl
  rw [if_neg e2]
  by_cases e3 : c = 9
  · subst e3; rw [if_pos rfl]; rfl
  rw [if_neg e3]
  cases hs : isS sgI c
  · rw [if_neg (by decide)]
    show inP (c :: r) = _
    rw [inP, if_neg (not_sgI hs).2.2.1, if_neg (by rw [hs]; decide)]
  · rw [if_pos rfl]
    show inP (92 :: c :: r) = _
    rcases sgI_cases hs with rfl | rfl | rfl | rfl | rfl <;> rfl
/-- What a character's text within brackets begins with. -/
theorem chI_head (c : Int) : ∃ h t, chL sgI c = h :: t ∧ h ≠ 93 ∧ h ≠ 45 ∧ h ≠ 94 := by
  unfold chL
  by_cases e1 : c = 10
  · rw [if_pos e1]; exact ⟨92, [110], rfl, by decide, by decide, by decide⟩
  rw [if_neg e1]
  by_cases e2 : c = 13
  · rw [if_pos e2]; exact ⟨92, [114], rfl, by decide, by decide, by decide⟩
  rw [if_neg e2]
  by_cases e3 : c = 9
  · rw [if_pos e3]; exact ⟨92, [116], rfl, by decide, by decide, by decide⟩
  rw [if_neg e3]
  cases hs : isS sgI c
  · rw [if_neg (by decide)]
    have h := not_sgI hs
    exact ⟨c, [], rfl, h.2.1, h.2.2.2.1, h.2.2.2.2⟩
  · rw [if_pos rfl]; exact ⟨92, [c], rfl, by decide, by decide, by decide⟩
def rgL (p : Int × Int) : List Int := if p.1 = p.2 then chL sgI p.1 else chL sgI p.1 ++ 45 :: chL sgI p.2
def rgsL (L : List (Int × Int)) : List Int := L.flatMap rgL
theorem rgL_head (p : Int × Int) : ∃ h t, rgL p = h :: t ∧ h ≠ 93 ∧ h ≠ 45 ∧ h ≠ 94 := by
  obtain ⟨h, t, e, hh⟩ := chI_head p.1
  unfold rgL
  by_cases e1 : p.1 = p.2
  · rw [if_pos e1]; exact ⟨h, t, e, hh⟩
  · rw [if_neg e1, e]; exact ⟨h, _, rfl, hh⟩
theorem rgs_head (L : List (Int × Int)) (r : List Int) : (rgsL L ++ 93 :: r).head? ≠ some 45 := by
  cases L with
  | nil => simp [rgsL]
  | cons p L =>
    obtain ⟨h, t, e, h1, h2, h3⟩ := rgL_head p
    have : rgsL (p :: L) = rgL p ++ rgsL L := by simp [rgsL]
    rw [this, e]
    simp [h2]
/-- The ranges are read back. -/
theorem br_back : ∀ (L : List (Int × Int)) (f : Nat) (M : List (Int × Int)) (r : List Int), L.length < f → brF f (rgsL L ++ 93 :: r) M = some (r, M ++ L)
  | [], 0, M, r, h => by simp at h
  | [], f + 1, M, r, h => by
    rw [brF, if_pos (by simp [rgsL])]
    simp [rgsL]
  | p :: L, 0, M, r, h => by simp at h
  | p :: L, f + 1, M, r, h => by
    obtain ⟨hd, t, e, h1, h2, h3⟩ := rgL_head p
    have hs : rgsL (p :: L) = rgL p ++ rgsL L := by simp [rgsL]
    have hl : L.length < f := by simp at h; omega
    have hne : (rgsL (p :: L) ++ 93 :: r).head? ≠ some 93 := by rw [hs, e]; simp [h1]
    rw [brF, if_neg hne, hs]
    have hr := rgs_head L r
    by_cases e1 : p.1 = p.2
    · have e2 : rgL p ++ rgsL L ++ 93 :: r = chL sgI p.1 ++ (rgsL L ++ 93 :: r) := by unfold rgL; rw [if_pos e1, List.append_assoc]
      rw [e2, in_ch]
      show (if (rgsL L ++ 93 :: r).head? = some 45 then _ else brF f (rgsL L ++ 93 :: r) (M ++ [(p.1, p.1)])) = _
      rw [if_neg hr, br_back L f _ r hl]
      have : (p.1, p.1) = p := by rw [show (p.1, p.1) = (p.1, p.2) by rw [← e1]]
      rw [this]
      simp
    · have e2 : rgL p ++ rgsL L ++ 93 :: r = chL sgI p.1 ++ (45 :: (chL sgI p.2 ++ (rgsL L ++ 93 :: r))) := by unfold rgL; rw [if_neg e1]; simp
      rw [e2, in_ch]
      show (if (45 :: (chL sgI p.2 ++ (rgsL L ++ 93 :: r))).head? = some 45 then (match inP (45 :: (chL sgI p.2 ++ (rgsL L ++ 93 :: r))).tail with | none => none | some (b, u2) => brF f u2 (M ++ [(p.1, b)])) else _) = _
      rw [if_pos List.head?_cons, List.tail_cons, in_ch]
      show brF f (rgsL L ++ 93 :: r) (M ++ [(p.1, p.2)]) = _
      rw [br_back L f _ r hl]
      simp
theorem rgs_len : ∀ (L : List (Int × Int)), L.length ≤ (rgsL L).length
  | [] => Nat.zero_le _
  | p :: L => by
    obtain ⟨h, t, e, -⟩ := rgL_head p
    have hs : rgsL (p :: L) = rgL p ++ rgsL L := by simp [rgsL]
    have := rgs_len L
    rw [hs, e]
    simp
    omega
/-- A class's text. -/
def oneL (nt : Bool) (L : List (Int × Int)) : Option Int := match nt, L with
  | false, [p] => if p.1 = p.2 then some p.1 else none
  | _, _ => none
def ctL (nt : Bool) (L : List (Int × Int)) : List Int := match oneL nt L with
  | some c => chL sgO c
  | none => 91 :: ((if nt = true then [94] else []) ++ (rgsL L ++ [93]))
theorem one_of {nt : Bool} {L : List (Int × Int)} {c : Int} (h : oneL nt L = some c) : nt = false ∧ L = [(c, c)] := by
  unfold oneL at h
  split at h
  · rename_i p
    split at h
    · rename_i e
      cases h
      exact ⟨rfl, by rw [show p = (p.1, p.1) by rw [show (p.1, p.1) = (p.1, p.2) by rw [← e]]]⟩
    · cases h
  · cases h
theorem ct_atom (nt : Bool) (L : List (Int × Int)) (r : List Int) (X : List Nd) (hL : 0 < L.length) : cA (ctL nt L ++ r) X = some (r, X ++ [clN nt L]) := by
  unfold ctL
  cases h : oneL nt L with
  | some c =>
    obtain ⟨rfl, rfl⟩ := one_of h
    exact ch_atom c r X
  | none =>
    show cA (91 :: ((if nt = true then [94] else []) ++ (rgsL L ++ [93])) ++ r) X = _
    rw [List.cons_append, cA_br]
    unfold brP
    cases nt
    · have e : ((if (false : Bool) = true then [94] else ([] : List Int)) ++ (rgsL L ++ [93]) ++ r) = rgsL L ++ 93 :: r := by simp
      rw [e]
      have hh : (rgsL L ++ 93 :: r).head? ≠ some 94 := by
        cases L with
        | nil => simp at hL
        | cons p L =>
          obtain ⟨h, t, e, h1, h2, h3⟩ := rgL_head p
          have : rgsL (p :: L) = rgL p ++ rgsL L := by simp [rgsL]
          rw [this, e]
          simp [h3]
      rw [if_neg hh, decide_eq_false hh, br_back L _ [] r (by have := rgs_len L; simp; omega)]
      rfl
    · have e : ((if (true : Bool) = true then [94] else ([] : List Int)) ++ (rgsL L ++ [93]) ++ r) = 94 :: (rgsL L ++ 93 :: r) := by simp
      rw [e, if_pos List.head?_cons, decide_eq_true (show (94 :: (rgsL L ++ 93 :: r)).head? = some 94 from rfl), List.tail_cons, br_back L _ [] r (by have := rgs_len L; simp; omega)]
      rfl
/-- What may stand at the beginning of a node's text. -/
def hdG (l : List Int) : Prop := ∃ h t, l = h :: t ∧ h ≠ 124 ∧ h ≠ 41 ∧ h ≠ 63 ∧ h ≠ 42 ∧ h ≠ 43 ∧ h ≠ 123
theorem hd_of {h : Int} {t : List Int} (h1 : h = 92 ∨ h = 91 ∨ h = 40) : hdG (h :: t) := by
  rcases h1 with rfl | rfl | rfl <;> exact ⟨_, _, rfl, by decide, by decide, by decide, by decide, by decide, by decide⟩
theorem ct_head (nt : Bool) (L : List (Int × Int)) : hdG (ctL nt L) := by
  unfold ctL
  cases h : oneL nt L with
  | some c =>
    show hdG (chL sgO c)
    unfold chL
    by_cases e1 : c = 10
    · rw [if_pos e1]; exact hd_of (.inl rfl)
    rw [if_neg e1]
    by_cases e2 : c = 13
    · rw [if_pos e2]; exact hd_of (.inl rfl)
    rw [if_neg e2]
    by_cases e3 : c = 9
    · rw [if_pos e3]; exact hd_of (.inl rfl)
    rw [if_neg e3]
    cases hs : isS sgO c
    · rw [if_neg (by decide)]
      have h := not_sgO hs
      exact ⟨c, [], rfl, h.2.2.2.2.2.2.2.2.2.1, h.2.2.2.2.2.2.2.2.1, h.2.2.1, h.2.2.2.1, h.2.2.2.2.1, h.2.2.2.2.2.1⟩
    · rw [if_pos rfl]; exact hd_of (.inl rfl)
  | none => exact hd_of (.inr (.inl rfl))
theorem hdG_app {l : List Int} (h : hdG l) (r : List Int) : hdG (l ++ r) := by
  obtain ⟨a, t, rfl, h⟩ := h
  exact ⟨a, t ++ r, rfl, h⟩
theorem hdG_row {l : List Int} (h : hdG l) : rwE l = false := by
  obtain ⟨a, t, rfl, h1, h2, -⟩ := h
  simp [rwE, h1, h2]
theorem hdG_ct {l : List Int} (h : hdG l) : ctP l = some (none, l) := by
  obtain ⟨a, t, rfl, h1, h2, h3, h4, h5, h6⟩ := h
  unfold ctP
  rw [if_neg (by simpa using h3), if_neg (by simpa using h4), if_neg (by simpa using h5), if_neg (by simpa using h6)]
theorem row_ct {r : List Int} (h : rwE r = true) : ctP r = some (none, r) := by
  have h' : r = [] ∨ r.head? = some 124 ∨ r.head? = some 41 := of_decide_eq_true h
  unfold ctP
  rcases h' with rfl | h' | h'
  · rfl
  · rw [h']; rfl
  · rw [h']; rfl
/-- A number's text. -/
def itL (n : Int) : List Int := if n < 10 then [48 + n] else [48 + n / 10, 48 + n % 10]
theorem nm_it {n c : Int} {r : List Int} (h0 : 0 ≤ n) (h1 : n ≤ 20) (hc : dgB c = false) : nmP (itL n ++ c :: r) = some (n, c :: r) := by
  unfold itL
  by_cases h : n < 10
  · rw [if_pos h]
    show nmP ((48 + n) :: c :: r) = _
    have hd : dgB (48 + n) = true := decide_eq_true (by omega)
    rw [nmP, if_pos hd]
    by_cases h0 : n = 0
    · subst h0; rfl
    · rw [if_neg (by omega), nm2, if_neg (by rw [hc]; decide)]
      congr 2
      omega
  · rw [if_neg h]
    show nmP ((48 + n / 10) :: (48 + n % 10) :: c :: r) = _
    have hd : dgB (48 + n / 10) = true := decide_eq_true (by omega)
    have hd2 : dgB (48 + n % 10) = true := decide_eq_true (by omega)
    rw [nmP, if_pos hd, if_neg (by omega), nm2, if_pos hd2]
    congr 2
    omega
/-- A count's text. -/
def cnL (mn mx : Int) : List Int :=
  if mn = 0 ∧ mx = 1 then [63] else if mn = 0 ∧ mx = -1 then [42] else if mn = 1 ∧ mx = -1 then [43] else
  if mn = mx then 123 :: (itL mn ++ [125]) else if mx = -1 then 123 :: (itL mn ++ [44, 125]) else 123 :: (itL mn ++ 44 :: (itL mx ++ [125]))
theorem it_head (n : Int) (h0 : 0 ≤ n) (h1 : n ≤ 20) : ∃ h t, itL n = h :: t ∧ h ≠ 125 := by
  unfold itL
  split
  · exact ⟨_, _, rfl, by omega⟩
  · exact ⟨_, _, rfl, by omega⟩
theorem ct_back {mn mx : Int} (h0 : 0 ≤ mn) (h1 : mn ≤ 20) (h2 : mx = -1 ∨ (mn ≤ mx ∧ mx ≤ 20)) (r : List Int) : ctP (cnL mn mx ++ r) = some (some (mn, mx), r) := by
  have d1 : dgB 125 = false := by decide
  have d2 : dgB 44 = false := by decide
  have hb : ∀ (u : List Int) (m : Int × Int), lmP u = some (m, r) → ctP (123 :: u) = some (some m, r) := fun u m h => by
    unfold ctP
    rw [if_neg (by simp), if_neg (by simp), if_neg (by simp), if_pos List.head?_cons, List.tail_cons, h]
  unfold cnL
  by_cases e1 : mn = 0 ∧ mx = 1
  · rw [if_pos e1]; obtain ⟨rfl, rfl⟩ := e1; rfl
  rw [if_neg e1]
  by_cases e2 : mn = 0 ∧ mx = -1
  · rw [if_pos e2]; obtain ⟨rfl, rfl⟩ := e2; rfl
  rw [if_neg e2]
  by_cases e3 : mn = 1 ∧ mx = -1
  · rw [if_pos e3]; obtain ⟨rfl, rfl⟩ := e3; rfl
  rw [if_neg e3]
  by_cases e4 : mn = mx
  · rw [if_pos e4]
    subst e4
    rw [List.cons_append, List.append_assoc]
    refine hb _ _ ?_
    unfold lmP
    show (match nmP (itL mn ++ 125 :: r) with | none => none | some (n, r) => _) = _
    rw [nm_it h0 h1 d1]
    rfl
  rw [if_neg e4]
  by_cases e5 : mx = -1
  · rw [if_pos e5]
    subst e5
    rw [List.cons_append, List.append_assoc]
    refine hb _ _ ?_
    unfold lmP
    show (match nmP (itL mn ++ 44 :: 125 :: r) with | none => none | some (n, r) => _) = _
    rw [nm_it h0 h1 d2]
    rfl
  · rw [if_neg e5]
    have e6 : 123 :: (itL mn ++ 44 :: (itL mx ++ [125])) ++ r = 123 :: (itL mn ++ 44 :: (itL mx ++ 125 :: r)) := by simp
    rw [e6]
    refine hb _ _ ?_
    unfold lmP
    rw [nm_it h0 h1 d2]
    show (if (44 :: (itL mx ++ 125 :: r)).head? = some 125 then _ else if (44 :: (itL mx ++ 125 :: r)).head? = some 44 then (if (44 :: (itL mx ++ 125 :: r)).tail.head? = some 125 then _ else match nmP (44 :: (itL mx ++ 125 :: r)).tail with | none => none | some (m, r2) => if r2.head? = some 125 then some ((mn, m), r2.tail) else none) else none) = _
    obtain ⟨h, t, eh, hne⟩ := it_head mx (by omega) (by omega)
    rw [if_neg (by simp), if_pos List.head?_cons, List.tail_cons, if_neg (by rw [eh]; simpa using hne), nm_it (by omega) (by omega) d1]
    rfl
end Go.Proofs.YtibagghpimadfaaGreatDoor

/-
  Contract: which lists of nodes the specification calls a right expression.
-/
namespace Go.Proofs.YtibagghpimadfaaGreatDoor
open Go.RowKit Go.Joins
set_option linter.unusedVariables false
set_option linter.unusedSimpArgs false
def nodeX (X : Rx) (j : Nat) : Bool := nodeB (X.K j) (X.NT j) (X.NR j) (X.L j) (X.H j) (X.A j) (X.B j) (X.MN j) (X.MX j)
def rxB (X : Rx) : Bool := decide (1 ≤ X.len ∧ X.len ≤ 120) && ((List.range X.len).all (nodeX X) && (decide (trX X (X.len - 1) = some 0) && decide (wtX X (X.len - 1) ≤ 2000)))
theorem rxB_size {X : Rx} (h : ¬ (1 ≤ X.len ∧ X.len ≤ 120)) : rxB X = false := by unfold rxB; rw [decide_eq_false h]; rfl
theorem rxB_node {X : Rx} {k : Nat} (hk : k < X.len) (h : nodeX X k = false) : rxB X = false := by
  have : (List.range X.len).all (nodeX X) = false := by
    rw [List.all_eq_false]
    exact ⟨k, by simpa using hk, by simp [h]⟩
  unfold rxB
  rw [this]
  simp
theorem rxB_all {X : Rx} (h0 : 1 ≤ X.len ∧ X.len ≤ 120) (h : ∀ j, j < X.len → nodeX X j = true) : rxB X = (decide (trX X (X.len - 1) = some 0) && decide (wtX X (X.len - 1) ≤ 2000)) := by
  have : (List.range X.len).all (nodeX X) = true := by
    rw [List.all_eq_true]
    intro j hj
    exact h j (by simpa using hj)
  unfold rxB
  rw [this, decide_eq_true h0]
  simp
theorem node_cnt {kd : Int} {nt : Bool} {n : Nat} {L H : Nat → Int} {a b mn mx : Int} (h : nodeB kd nt n L H a b mn mx = true) (h5 : kd = 5) : 0 ≤ mn ∧ mn ≤ 20 ∧ mx ≤ 20 ∧ -1 ≤ mx := by
  subst h5
  simp [nodeB] at h
  omega
theorem rx_nodes {w : World} {b off : Nat} {X : Rx} {B len : Nat} (hX : X.len = len) (h : RxRow w b off X B) : NodesAt w b off len X.K X.A X.B := fun j hj => by
  obtain ⟨ad, cp, hc, -⟩ := h j (by omega)
  exact ⟨hc.1, hc.2.2.2.1, hc.2.2.2.2.1⟩
theorem trI_zero (X : Rx) (n : Nat) : (trI X.K X.A X.B n = 0) ↔ trX X n = some 0 := by
  unfold trI trX
  cases h : tr (twoK X.K) (cntK X.K) X.A X.B n with
  | none => simp
  | some f => simp
set_option maxRecDepth 100000 in
set_option maxHeartbeats 4000000 in
theorem s_regex (X : Rx) (len : Nat) (a : Option Addr) (cap : Nat) (w : World) (hX : X.len = len) (hlen : len ≤ maxLen) (hnr : ∀ j, j < len → X.NR j ≤ maxLen) (hr : RxAt w a X w.heap.size) :
    Calls Tryz.prog 16 #[.slice a len cap] w fun e w' => e = .returned (.bool (rxB X)) ∧ Below w.heap.size w w' := by
  unfold maxLen at hlen
  have HX := hide hX
  have HNR := hide hnr
  have HR := hide hr
  clear hr hnr hX
  by_cases hs : 1 ≤ len ∧ len ≤ 120
  · obtain ⟨g1, g2⟩ := hs
    have g3 : (1 : Int) ≤ len := by omega
    have g4 : (len : Int) ≤ 120 := by omega
    obtain ⟨b, off, rfl, hbs, hrow⟩ := HR.out (by rw [HX.out]; omega)
    have HRW := hide hrow
    clear hrow
    go_enter Tryz.func16, Tryz.ntmps16
    go_wp2
    go_loopw [3] (fun i wr => ∃ k : Nat, k ≤ len ∧ i = .int .i64 k ∧ Below w.heap.size w wr ∧ Hid (∀ j, j < k → nodeX X j = true)) (fun i _ => len - (intOf i).toNat)
    case atStart => exact ⟨0, Nat.zero_le _, rfl, Below.refl _ _, fun j h => by omega⟩
    case round =>
      obtain ⟨k, hk, rfl, hb, HM⟩ := hrel
      have hbw : b < wr.heap.size := Nat.lt_of_lt_of_le hbs hb.size
      by_cases hlt : k < len
      · obtain ⟨ad, cp, hc, hrg⟩ := HRW.out k (by rw [HX.out]; omega)
        obtain ⟨c0, c1, c2, c3, c4, c5, c6⟩ := rxCells_go hc hbs hb
        have HG := hide (rngAt_up (rngAt_go hrg hb) hb.size)
        have HB := hide hb
        have hi : (k : Int) < (len : Int) := by omega
        clear hc hrg hb
        cases hno : nodeX X k
        · go_wp2_with (go_at_call 32; refine (s_nodeok _ _ _ _ _ _ _ _ _ (X.L k) (X.H k) _ (HNR.out k hlt) HG.out).mono ?_; rintro e w2 ⟨rfl, hb2⟩; rw [show nodeB (X.K k) (X.NT k) (X.NR k) (X.L k) (X.H k) (X.A k) (X.B k) (X.MN k) (X.MX k) = false from hno]; have HB2 := hide (HB.out.trans (hb2.mono HB.out.size)); clear hb2)
          go_ret
          exact ⟨ret_bool (rxB_node (by rw [HX.out]; exact hlt) hno).symm, HB2.out⟩
        · go_wp2_with (go_at_call 32; refine (s_nodeok _ _ _ _ _ _ _ _ _ (X.L k) (X.H k) _ (HNR.out k hlt) HG.out).mono ?_; rintro e w2 ⟨rfl, hb2⟩; rw [show nodeB (X.K k) (X.NT k) (X.NR k) (X.L k) (X.H k) (X.A k) (X.B k) (X.MN k) (X.MX k) = true from hno]; have HB2 := hide (HB.out.trans (hb2.mono HB.out.size)); clear hb2)
          go_roundw
          case rel =>
            refine ⟨k + 1, by omega, by go_num, HB2.out, fun j hj => ?_⟩
            by_cases e : j = k
            · subst e; exact hno
            · exact HM.out j (by omega)
          case measure => simp [intOf]; omega
      · have hkn : k = len := by omega
        subst hkn
        have HV := hide (rxB_all (X := X) (by rw [HX.out]; exact ⟨g1, g2⟩) (by rw [HX.out]; exact HM.out))
        rw [HX.out] at HV
        have hrow := rxRow_up (rxRow_go HRW.out hbs hb) hb.size
        have hroot : ((k : Int) - 1) = ((k - 1 : Nat) : Int) := by omega
        have CT : Hid (Calls Tryz.prog 33 #[.slice (some ⟨b, off, none⟩) k cap, .int .i64 ((k : Int) - 1)] wr fun e w' => e = .returned (.int .i64 (trI X.K X.A X.B (k - 1))) ∧ w' = wr) := hide (by rw [hroot]; exact s_tree b off k cap X.K X.A X.B wr (by omega) (rx_nodes HX.out hrow) k (k - 1) (by omega) (by omega))
        have HB := hide hb
        have HRR := hide hrow
        by_cases ht : trX X (k - 1) = some 0
        · have hz : trI X.K X.A X.B (k - 1) = 0 := (trI_zero X (k - 1)).2 ht
          have CW : Hid (Calls Tryz.prog 34 #[.slice (some ⟨b, off, none⟩) k cap, .int .i64 ((k : Int) - 1)] wr fun e w' => e = .returned (.int .i64 (wtX X (k - 1))) ∧ Below wr.heap.size wr w') := hide (by rw [hroot]; exact s_weight X k HX.out (by omega) (fun j hj h5 => node_cnt (HM.out j hj) h5) b off cap k (k - 1) 0 wr (by omega) (by omega) ht hbw HRR.out)
          rw [hz] at CT
          rw [decide_eq_true ht] at HV
          obtain ⟨x, hx⟩ : ∃ x, wtX X (k - 1) = x := ⟨_, rfl⟩
          rw [hx] at CW HV
          clear hrow hroot hz ht hx hb
          go_wp2_with (first | (go_at_call 33; refine CT.out.mono ?_; rintro e w2 ⟨rfl, rfl⟩) | (go_at_call 34; refine CW.out.mono ?_; rintro e w2 ⟨rfl, hb2⟩; have HB2 := hide (HB.out.trans (hb2.mono HB.out.size)); clear hb2))
          go_ret
          exact ⟨ret_bool (by rw [HV.out]; simp), HB2.out⟩
        · have hz : ¬ trI X.K X.A X.B (k - 1) = 0 := fun h => ht ((trI_zero X (k - 1)).1 h)
          rw [decide_eq_false ht] at HV
          obtain ⟨x, hx⟩ : ∃ x, trI X.K X.A X.B (k - 1) = x := ⟨_, rfl⟩
          rw [hx] at CT hz
          have hz2 : (x == 0) = false := by simpa using hz
          clear hrow hroot ht hx hb hz
          go_wp2_with (first | (go_at_call 33; refine CT.out.mono ?_; rintro e w2 ⟨rfl, rfl⟩))
          go_ret
          exact ⟨ret_bool (by rw [HV.out]; rfl), HB.out⟩
  · have e := rxB_size (X := X) (by rw [HX.out]; exact hs)
    rw [e]
    by_cases g : len = 0
    · go_enter Tryz.func16, Tryz.ntmps16
      go_wp2
      go_ret
      exact ⟨rfl, Below.refl _ _⟩
    · have g2 : (120 : Int) < (len : Int) := by omega
      go_enter Tryz.func16, Tryz.ntmps16
      go_wp2
      go_ret
      exact ⟨rfl, Below.refl _ _⟩
end Go.Proofs.YtibagghpimadfaaGreatDoor
