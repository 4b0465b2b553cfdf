/-
  Texts put together: DocMath, DocAt.
-/
import Derived.Test.YthcggdjkfebemaaGreatDoorB2
/-
  Plain facts on documents as rows of items, of no program: which places are right, how deep they stand.
-/
namespace Go.Proofs.YthcggdjkfebemaaGreatDoor
set_option linter.unusedVariables false
section
variable (U : Nat → Int) (t : Int)
/-- From 'a' on upwards, is 't' met? -/
def rcF : Nat → Int → Bool
  | 0, _ => false
  | f + 1, a => if a < 0 then false else if a = t then true else rcF f (U a.toNat)
def rc (a : Int) : Bool := rcF U t (a.toNat + 1) a
theorem rcF_more : ∀ (f g : Nat) (a : Int), a < f → a < g → (∀ j : Nat, (j : Int) ≤ a → U j < j) → rcF U t f a = rcF U t g a
  | 0, 0, a, hf, hg, hd => rfl
  | 0, g + 1, a, hf, hg, hd => by rw [rcF, rcF, if_pos (by omega)]
  | f + 1, 0, a, hf, hg, hd => by rw [rcF, rcF, if_pos (by omega)]
  | f + 1, g + 1, a, hf, hg, hd => by
    rw [rcF, rcF]
    by_cases h0 : a < 0
    · rw [if_pos h0, if_pos h0]
    · rw [if_neg h0, if_neg h0]
      by_cases h1 : a = t
      · rw [if_pos h1, if_pos h1]
      · have := hd a.toNat (by omega)
        rw [if_neg h1, if_neg h1, rcF_more f g (U a.toNat) (by omega) (by omega) (fun j hj => hd j (by omega))]
theorem rc_neg {a : Int} (h : a < 0) : rc U t a = false := by unfold rc; rw [rcF, if_pos h]
theorem rc_hit {a : Int} (h : 0 ≤ a) (e : a = t) : rc U t a = true := by unfold rc; rw [rcF, if_neg (by omega), if_pos e]
theorem rc_step {a : Int} (h : 0 ≤ a) (e : a ≠ t) (hd : ∀ j : Nat, (j : Int) ≤ a → U j < j) : rc U t a = rc U t (U a.toNat) := by
  have := hd a.toNat (by omega)
  unfold rc
  rw [rcF, if_neg (by omega), if_neg e]
  exact rcF_more U t _ _ _ (by omega) (by omega) (fun j hj => hd j (by omega))
/-- What is met is 'a' itself, or one above an item up to 'a'. -/
theorem rcF_mem : ∀ (f : Nat) (a : Int), (∀ j : Nat, (j : Int) ≤ a → U j < j) → rcF U t f a = true → 0 ≤ t ∧ t ≤ a ∧ (t = a ∨ ∃ j : Nat, (j : Int) ≤ a ∧ U j = t)
  | 0, a, hd, h => by cases h
  | f + 1, a, hd, h => by
    rw [rcF] at h
    split at h
    · cases h
    · rename_i h0
      split at h
      · rename_i h1
        exact ⟨by omega, by omega, .inl h1.symm⟩
      · have hu := hd a.toNat (by omega)
        obtain ⟨p, q, r⟩ := rcF_mem f (U a.toNat) (fun j hj => hd j (by omega)) h
        refine ⟨p, by omega, .inr ?_⟩
        rcases r with r | ⟨j, hj, r⟩
        · exact ⟨a.toNat, by omega, r.symm⟩
        · exact ⟨j, by omega, r⟩
theorem rc_mem {a : Int} (hd : ∀ j : Nat, (j : Int) ≤ a → U j < j) (h : rc U t a = true) : 0 ≤ t ∧ t ≤ a ∧ (t = a ∨ ∃ j : Nat, (j : Int) ≤ a ∧ U j = t) := rcF_mem U t _ a hd h
/-- How many there are from 'a' on upwards. -/
def dpF : Nat → Int → Nat
  | 0, _ => 0
  | f + 1, a => if a < 0 then 0 else dpF f (U a.toNat) + 1
def dp (a : Int) : Nat := dpF U (a.toNat + 1) a
theorem dpF_more : ∀ (f g : Nat) (a : Int), a < f → a < g → (∀ j : Nat, (j : Int) ≤ a → U j < j) → dpF U f a = dpF U g a
  | 0, 0, a, hf, hg, hd => rfl
  | 0, g + 1, a, hf, hg, hd => by rw [dpF, dpF, if_pos (by omega)]
  | f + 1, 0, a, hf, hg, hd => by rw [dpF, dpF, if_pos (by omega)]
  | f + 1, g + 1, a, hf, hg, hd => by
    rw [dpF, dpF]
    by_cases h0 : a < 0
    · rw [if_pos h0, if_pos h0]
    · have := hd a.toNat (by omega)
      rw [if_neg h0, if_neg h0, dpF_more f g (U a.toNat) (by omega) (by omega) (fun j hj => hd j (by omega))]
theorem dp_neg {a : Int} (h : a < 0) : dp U a = 0 := by unfold dp; rw [dpF, if_pos h]
theorem dp_step {a : Int} (h : 0 ≤ a) (hd : ∀ j : Nat, (j : Int) ≤ a → U j < j) : dp U a = dp U (U a.toNat) + 1 := by
  have := hd a.toNat (by omega)
  unfold dp
  rw [dpF, if_neg (by omega)]
  rw [dpF_more U a.toNat ((U a.toNat).toNat + 1) (U a.toNat) (by omega) (by omega) (fun j hj => hd j (by omega))]
theorem dpF_le : ∀ (f : Nat) (a : Int), dpF U f a ≤ f
  | 0, a => Nat.le_refl _
  | f + 1, a => by
    rw [dpF]
    split
    · omega
    · have := dpF_le f (U a.toNat)
      omega
theorem dp_le {a : Int} : dp U a ≤ a.toNat + 1 := dpF_le U _ a
end
def isE (s : ByteArray) : Bool := s.toList.isEmpty
/-- Where the way up from an item begins: at the one ahead of it, or, where that is a text, above it. -/
def stI (D : Dc) (i : Nat) : Int := if isE (D.NM (i - 1)) = true then D.U (i - 1) else (i : Int) - 1
def dupB (D : Dc) (i : Nat) : Bool := isE (D.NM (i - 1)) && (isE (D.NM i) && (D.U (i - 1) == D.U i))
/-- An item's place is right, when those ahead of it are. -/
def placeB (D : Dc) (i : Nat) : Bool :=
  if i = 0 then (D.U 0 == -1) && !(isE (D.NM 0))
  else !(dupB D i) && (rc D.U (D.U i) (stI D i) && decide (dp D.U (D.U i) < 20))
def Good (D : Dc) (i : Nat) : Prop := ∀ j, j < i → placeB D j = true
theorem good_less {D : Dc} {i k : Nat} (h : Good D i) (hk : k ≤ i) : Good D k := fun j hj => h j (by omega)
theorem place_rc {D : Dc} {i : Nat} (h0 : i ≠ 0) (h : placeB D i = true) : rc D.U (D.U i) (stI D i) = true := by
  unfold placeB at h
  rw [if_neg h0] at h
  simp at h
  exact h.2.1
theorem place_zero {D : Dc} (h : placeB D 0 = true) : D.U 0 = -1 ∧ isE (D.NM 0) = false := by
  unfold placeB at h
  rw [if_pos rfl] at h
  simpa using h
theorem good_dec {D : Dc} : ∀ (i : Nat), Good D i → ∀ j, j < i → -1 ≤ D.U j ∧ D.U j < j
  | 0, h, j, hj => by omega
  | i + 1, h, j, hj => by
    have ih := good_dec i (good_less h (by omega))
    by_cases e : j = i
    · subst e
      by_cases h0 : j = 0
      · subst h0
        have := (place_zero (h 0 (by omega))).1
        omega
      · have hr := place_rc h0 (h j (by omega))
        have hst : stI D j ≤ (j : Int) - 1 := by
          unfold stI
          split
          · have := ih (j - 1) (by omega); omega
          · omega
        obtain ⟨p, q, -⟩ := rc_mem D.U (D.U j) (fun k hk => (ih k (by omega)).2) hr
        omega
    · exact ih j (by omega)
theorem st_le {D : Dc} {i : Nat} (h0 : i ≠ 0) (h : Good D i) : -1 ≤ stI D i ∧ stI D i ≤ (i : Int) - 1 := by
  unfold stI
  split
  · have := good_dec i h (i - 1) (by omega); omega
  · omega
/-- What stands above an item is an element. -/
theorem good_el {D : Dc} : ∀ (i : Nat), Good D i → ∀ j, j < i → 0 ≤ D.U j → isE (D.NM (D.U j).toNat) = false
  | 0, h, j, hj, hu => by omega
  | i + 1, h, j, hj, hu => by
    have hd := good_dec i (good_less h (by omega))
    have ih := good_el i (good_less h (by omega))
    by_cases e : j = i
    · subst e
      by_cases h0 : j = 0
      · subst h0
        have := (place_zero (h 0 (by omega))).1
        omega
      · have hr := place_rc h0 (h j (by omega))
        have hst := st_le h0 (good_less h (by omega) : Good D j)
        obtain ⟨p, q, r⟩ := rc_mem D.U (D.U j) (fun k hk => (hd k (by omega)).2) hr
        rcases r with r | ⟨k, hk, r⟩
        · rw [r]
          cases hE : isE (D.NM (j - 1)) with
          | true =>
            have hs : stI D j = D.U (j - 1) := by unfold stI; rw [if_pos hE]
            rw [hs]
            exact ih (j - 1) (by omega) (by rw [hs] at r; omega)
          | false =>
            have hs : stI D j = (j : Int) - 1 := by unfold stI; rw [if_neg (by rw [hE]; decide)]
            rw [hs, show ((j : Int) - 1).toNat = j - 1 by omega]
            exact hE
        · rw [← r]
          exact ih k (by omega) (by omega)
    · exact ih j (by omega) hu
/-- The specification's way to say it. -/
theorem spec_rc {D : Dc} {i : Nat} (h0 : i ≠ 0) (h : Good D i) (hu : 0 ≤ D.U i ∧ D.U i ≤ (i : Int) - 1) (he : isE (D.NM (D.U i).toNat) = false) : rc D.U (D.U i) ((i : Int) - 1) = rc D.U (D.U i) (stI D i) := by
  have hd := good_dec i h
  unfold stI
  split
  · rename_i hE
    rw [rc_step D.U (D.U i) (by omega) (fun e => by rw [← e, show ((i : Int) - 1).toNat = i - 1 by omega] at he; rw [he] at hE; cases hE) (fun j hj => (hd j (by omega)).2), show ((i : Int) - 1).toNat = i - 1 by omega]
  · rfl
theorem spec_range {D : Dc} {i : Nat} (h0 : i ≠ 0) (h : Good D i) (hr : rc D.U (D.U i) (stI D i) = true) : (0 ≤ D.U i ∧ D.U i ≤ (i : Int) - 1) ∧ isE (D.NM (D.U i).toNat) = false := by
  have hd := good_dec i h
  have hst := st_le h0 h
  obtain ⟨p, q, r⟩ := rc_mem D.U (D.U i) (fun k hk => (hd k (by omega)).2) hr
  refine ⟨⟨p, by omega⟩, ?_⟩
  rcases r with r | ⟨k, hk, r⟩
  · rw [r]
    cases hE : isE (D.NM (i - 1)) with
    | true =>
      have hs : stI D i = D.U (i - 1) := by unfold stI; rw [if_pos hE]
      rw [hs]
      exact good_el i h (i - 1) (by omega) (by rw [hs] at r; omega)
    | false =>
      have hs : stI D i = (i : Int) - 1 := by unfold stI; rw [if_neg (by rw [hE]; decide)]
      rw [hs, show ((i : Int) - 1).toNat = i - 1 by omega]
      exact hE
  · rw [← r]
    exact good_el i h k (by omega) (by omega)
theorem place_no_rc {D : Dc} {i : Nat} (h0 : i ≠ 0) (h : rc D.U (D.U i) (stI D i) = false) : placeB D i = false := by
  unfold placeB; rw [if_neg h0, h]; simp
theorem place_no_dp {D : Dc} {i : Nat} (h0 : i ≠ 0) (h : ¬ dp D.U (D.U i) < 20) : placeB D i = false := by
  unfold placeB; rw [if_neg h0, decide_eq_false h]; simp
theorem place_no_dup {D : Dc} {i : Nat} (h0 : i ≠ 0) (h : dupB D i = true) : placeB D i = false := by
  unfold placeB; rw [if_neg h0, h]; rfl
theorem place_yes {D : Dc} {i : Nat} (h0 : i ≠ 0) (h1 : dupB D i = false) (h2 : rc D.U (D.U i) (stI D i) = true) (h3 : dp D.U (D.U i) < 20) : placeB D i = true := by
  unfold placeB; rw [if_neg h0, h1, h2, decide_eq_true h3]; rfl
end Go.Proofs.YthcggdjkfebemaaGreatDoor

/-
  Contracts: is there an attribute of that name; how many bytes an item has.
-/
namespace Go.Proofs.YthcggdjkfebemaaGreatDoor
open Go.RowKit Go.Joins
set_option linter.unusedVariables false
set_option linter.unusedSimpArgs false
def sameS (x y : ByteArray) : Bool := x.toList == y.toList
/-- One of the first n has that name. -/
def anyS (n : Nat) (N : Nat → ByteArray) (s : ByteArray) : Bool := (List.range n).any fun k => sameS (N k) s
theorem anyS_hit {n k : Nat} {N : Nat → ByteArray} {s : ByteArray} (hk : k < n) (h : ((N k).toList == s.toList) = true) : anyS n N s = true := by
  unfold anyS
  rw [List.any_eq_true]
  exact ⟨k, by simpa using hk, h⟩
theorem anyS_no {n : Nat} {N : Nat → ByteArray} {s : ByteArray} (h : ∀ k, k < n → ((N k).toList == s.toList) = false) : anyS n N s = false := by
  unfold anyS
  rw [List.any_eq_false]
  intro k hk
  have := h k (by simpa using hk)
  show ¬ (sameS (N k) s) = true
  unfold sameS
  rw [this]
  decide
/-- What the first attribute of a name says; nothing, when there is none. -/
def AttrIs (n : Nat) (N V : Nat → ByteArray) (s v : ByteArray) : Prop := (anyS n N s = false ∧ v = ⟨#[]⟩) ∨ (anyS n N s = true ∧ ∃ k, k < n ∧ ((N k).toList == s.toList) = true ∧ (∀ j, j < k → ((N j).toList == s.toList) = false) ∧ v = V k)
set_option maxHeartbeats 1000000 in
theorem i_attrV (a : Option Addr) (n c : Nat) (N V : Nat → ByteArray) (s : ByteArray) (w : World) (hn : n ≤ 1048576) (hr : AtAt w a n N V w.heap.size) :
    Calls Tryz.prog 96 #[.slice a n c, .string s] w fun e w' => ∃ v, e = .returned (.tuple #[.string v, .bool (anyS n N s)]) ∧ AttrIs n N V s v ∧ Below w.heap.size w w' := by
  have HR := hide hr
  clear hr
  go_enter Tryz.func96, Tryz.ntmps96
  go_wp2
  go_loopw [10] (fun i wr => ∃ k : Nat, k ≤ n ∧ i = .int .i64 k ∧ Below w.heap.size w wr ∧ Hid (∀ j, j < k → ((N j).toList == s.toList) = false)) (fun i _ => n - (intOf i).toNat)
  case atStart => exact ⟨0, Nat.zero_le _, rfl, Below.refl _ _, fun j h => by omega⟩
  case round =>
    obtain ⟨k, hk, rfl, hb, HM⟩ := hrel
    by_cases hlt : k < n
    · obtain ⟨b, off, rfl, hbs, hc⟩ := HR.out (by omega)
      have c0 : wr.cell? ⟨b, off + k * 2, none⟩ = some (.string (N k)) := (hb.cell hbs).trans (hc k hlt).1
      have c1 : wr.cell? ⟨b, off + k * 2 + 1, none⟩ = some (.string (V k)) := (hb.cell hbs).trans (hc k hlt).2
      have HB := hide hb
      clear hc hb
      cases he : ((N k).toList == s.toList)
      · go_wp2
        go_roundw
        case rel =>
          refine ⟨k + 1, by omega, by go_num, HB.out.alloc HB.out.size _, fun j hj => ?_⟩
          by_cases e : j = k
          · subst e; exact he
          · exact HM.out j (by omega)
        case measure => simp [intOf]; omega
      · have HA := hide (anyS_hit hlt he)
        have HE := hide he
        go_wp2
        go_ret2
        exact ⟨V k, by rw [HA.out]; rfl, .inr ⟨HA.out, k, hlt, HE.out, HM.out, rfl⟩, HB.out.alloc HB.out.size _⟩
    · have hkn : k = n := by omega
      subst hkn
      have HA := hide (anyS_no HM.out)
      go_wp2
      go_ret2
      exact ⟨⟨#[]⟩, by rw [HA.out]; rfl, .inl ⟨HA.out, rfl⟩, hb⟩
set_option maxHeartbeats 1000000 in
theorem i_has (a : Option Addr) (n c : Nat) (N V : Nat → ByteArray) (s : ByteArray) (w : World) (hn : n ≤ 1048576) (hr : AtAt w a n N V w.heap.size) :
    Calls Tryz.prog 76 #[.slice a n c, .string s] w fun e w' => e = .returned (.bool (anyS n N s)) ∧ Below w.heap.size w w' := by
  have C := hide (i_attrV a n c N V s w hn hr)
  clear hr
  go_enter Tryz.func76, Tryz.ntmps76
  go_wp2_with (first | (go_at_call 96; refine C.out.mono ?_; rintro e w2 ⟨v, rfl, -, hb⟩; have HB := hide hb; clear hb))
  go_ret
  exact ⟨rfl, HB.out⟩
def atsT (n : Nat) (N V : Nat → ByteArray) : Nat := sumN (atSz N V) n
set_option maxHeartbeats 1000000 in
theorem i_size (up : Int) (nm tx : ByteArray) (a : Option Addr) (n c : Nat) (N V : Nat → ByteArray) (w : World) (hs : nm.size + tx.size + n + atsT n N V ≤ 1048576) (hr : AtAt w a n N V w.heap.size) :
    Calls Tryz.prog 26 #[.agg #[.int .i64 up, .string nm, .string tx, .slice a n c]] w fun e w' => e = .returned (.int .i64 ((nm.size + tx.size + atsT n N V : Nat) : Int)) ∧ Below w.heap.size w w' := by
  have HR := hide hr
  have HS := hide hs
  have hn : n ≤ 1048576 := by omega
  have hx : (nm.size : Int) ≤ 1048576 := by omega
  have hy : (tx.size : Int) ≤ 1048576 := by omega
  clear hr hs
  go_enter Tryz.func26, Tryz.ntmps26
  go_wp2
  go_loopw [3, 16] (fun t i wr => ∃ k : Nat, k ≤ n ∧ i = .int .i64 k ∧ t = .int .i64 ((nm.size : Int) + tx.size + (sumN (atSz N V) k : Int)) ∧ Below w.heap.size w wr) (fun _ i _ => n - (intOf i).toNat)
  case atStart => exact ⟨0, Nat.zero_le _, rfl, by simp [sumN], (Below.refl _ _).alloc (Nat.le_refl _) _⟩
  case round =>
    obtain ⟨k, hk, rfl, rfl, hb⟩ := hrel
    have hle := sumN_le (atSz N V) hk
    have hall := HS.out
    unfold atsT at hall
    by_cases hlt : k < n
    · obtain ⟨b, off, rfl, hbs, hc⟩ := HR.out (by omega)
      have c0 : wr.cell? ⟨b, off + k * 2, none⟩ = some (.string (N k)) := (hb.cell hbs).trans (hc k hlt).1
      have c1 : wr.cell? ⟨b, off + k * 2 + 1, none⟩ = some (.string (V k)) := (hb.cell hbs).trans (hc k hlt).2
      have HB := hide hb
      have hle2 := sumN_at (atSz N V) hlt
      have hat : atSz N V k = (N k).size + (V k).size := rfl
      rw [hat] at hle2
      obtain ⟨q, hq⟩ : ∃ q, sumN (atSz N V) k = q := ⟨_, rfl⟩
      have HQ1 : Hid (sumN (atSz N V) (k + 1) = q + ((N k).size + (V k).size)) := hide (by rw [← hq]; rfl)
      rw [hq] at hle hle2 ⊢
      have hz1 : (nm.size : Int) + (tx.size : Int) + (q : Int) + ((N k).size : Int) + ((V k).size : Int) ≤ 1048576 := by omega
      clear hc hb hat hq hle hle2 hall
      go_wp2
      go_roundw
      case rel => exact ⟨k + 1, by omega, by go_num, by rw [HQ1.out]; go_num, HB.out.alloc HB.out.size _⟩
      case measure => simp [intOf]; omega
    · have hkn : k = n := by omega
      subst hkn
      go_wp2
      go_ret
      exact ⟨ret_iI (by unfold atsT; omega), hb⟩
end Go.Proofs.YthcggdjkfebemaaGreatDoor
