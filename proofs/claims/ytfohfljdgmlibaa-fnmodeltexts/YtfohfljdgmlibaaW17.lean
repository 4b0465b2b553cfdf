/-
  Plain facts on the text of a model, of no program's run.
-/
import Derived.Test.YtfohfljdgmlibaaW6
import Derived.Lib.Join
namespace Go.Proofs.Ytfohfljdgmlibaa
set_option linter.unusedVariables false
set_option linter.unusedSimpArgs false
def sgP (oc : Int) : List UInt8 := if oc = 1 then [63] else if oc = 2 then [42] else if oc = 3 then [43] else []
def sepP (k : Int) : List UInt8 := if k = 2 then [44] else [124]
def bdP (k : Int) (nm : ByteArray) (ts : List (List UInt8)) : List UInt8 := if k = 1 then nm.data.toList else if k = 4 then [35] else [40] ++ Lib.join ts (sepP k) ++ [41]
def mtF (D : Pn) : Nat → Nat → List UInt8
  | 0, _ => []
  | f + 1, i => bdP (D.K i) (D.NM i) ((D.KL i).map fun k => mtF D f k.toNat) ++ sgP (D.OC i)
theorem mtF_more {D : Pn} : ∀ (f g i : Nat), Lo D i → i < f → i < g → mtF D f i = mtF D g i
  | 0, g, i, hl, hf, hg => by omega
  | f + 1, 0, i, hl, hf, hg => by omega
  | f + 1, g + 1, i, hl, hf, hg => by
    have : ((D.KL i).map fun k => mtF D f k.toNat) = (D.KL i).map fun k => mtF D g k.toNat := List.map_congr_left (fun k hk => by
      have := hl i (Nat.le_refl _) k hk
      exact mtF_more f g k.toNat (lo_less hl (by omega)) (by omega) (by omega))
    rw [mtF, mtF, this]
/-- The text of a node. -/
def mt (D : Pn) (i : Nat) : List UInt8 := mtF D (i + 1) i
theorem mt_eq {D : Pn} {i : Nat} (hl : Lo D i) : mt D i = bdP (D.K i) (D.NM i) ((D.KL i).map fun k => mt D k.toNat) ++ sgP (D.OC i) := by
  have : ((D.KL i).map fun k => mtF D i k.toNat) = (D.KL i).map fun k => mt D k.toNat := List.map_congr_left (fun k hk => by
    have := hl i (Nat.le_refl _) k hk
    exact mtF_more i (k.toNat + 1) k.toNat (lo_less hl (by omega)) (by omega) (by omega))
  show mtF D (i + 1) i = _
  rw [mtF, this]
theorem sg_len (oc : Int) : (sgP oc).length ≤ 1 := by
  unfold sgP
  repeat' split
  all_goals simp
theorem sep_len (k : Int) : (sepP k).length = 1 := by
  unfold sepP
  split <;> rfl
theorem join_snoc (ts : List (List UInt8)) (t sep : List UInt8) : Lib.join (ts ++ [t]) sep = if ts = [] then t else Lib.join ts sep ++ sep ++ t := by
  match ts with
  | [] => rw [if_pos rfl]; exact Lib.join_one t sep
  | x :: r =>
    rw [if_neg (by simp), List.cons_append, Lib.join_cons, Lib.join_cons]
    unfold Lib.joinTail
    simp
def totL : List (List UInt8) → Nat
  | [] => 0
  | t :: ts => t.length + 1 + totL ts
theorem tot_app : ∀ (a b : List (List UInt8)), totL (a ++ b) = totL a + totL b
  | [], b => by simp [totL]
  | t :: a, b => by rw [List.cons_append, totL, totL, tot_app a b]; omega
theorem join_tot (sep : List UInt8) (hs : sep.length = 1) : ∀ ts : List (List UInt8), (Lib.join ts sep).length ≤ totL ts
  | [] => by simp [Lib.join_nil, totL]
  | x :: r => by
    rw [Lib.join_length, hs]
    have : ∀ l : List (List UInt8), Lib.lens l + l.length = totL l := by
      intro l
      induction l with
      | nil => rfl
      | cons y l ih => rw [totL, ← ih]; simp [Lib.lens]; omega
    have h := this (x :: r)
    rw [List.length_cons] at h
    omega
theorem fd_tot {D : Pn} : ∀ (ks : List Int) (a f : Nat), (∀ j c, j < a → tr D j = some c → (mt D j).length + 1 ≤ 50 * (j + 1 - c)) → fd (tr D) ks a = some f → totL (ks.map fun k => mt D k.toNat) ≤ 50 * (a - f) ∧ f ≤ a
  | [], a, f, ih, h => by
    simp [fd] at h
    subst h
    exact ⟨Nat.zero_le _, Nat.le_refl _⟩
  | k :: ks, a, f, ih, h => by
    by_cases hc : 0 < a ∧ k = (a : Int) - 1
    · cases hg : tr D (a - 1) with
      | none => rw [fd_none hc hg] at h; cases h
      | some c =>
        have hca := tr_le hg
        rw [fd_yes hc hg] at h
        obtain ⟨h1, h2⟩ := fd_tot ks c f (fun j d hj => ih j d (by omega)) h
        have h3 := ih (a - 1) c (by omega) hg
        rw [List.map_cons, totL, show k.toNat = a - 1 by omega]
        exact ⟨by omega, by omega⟩
    · rw [fd_no hc] at h; cases h
theorem tot_rev : ∀ l : List (List UInt8), totL l.reverse = totL l
  | [] => rfl
  | t :: l => by rw [List.reverse_cons, tot_app, tot_rev l, totL, totL, totL]; omega
theorem nd_name {k : Int} {nm : ByteArray} {n : Nat} {oc : Int} (h : ndB k nm n oc = true) (hk : k = 1) : nm.size ≤ 40 := by
  unfold ndB at h
  rw [if_pos hk] at h
  simp only [Bool.and_eq_true] at h
  have h2 := h.2.1
  rcases Nat.lt_or_ge 40 nm.size with h3 | h3
  · rw [nameB_long nm h3] at h2; cases h2
  · exact h3
theorem mt_len {D : Pn} (hn : ∀ j, j < D.n → nodeB D j = true) (hlo : ∀ j, j < D.n → ∀ k, k ∈ D.KL j → 0 ≤ k ∧ k < (j : Int)) : ∀ (m i c : Nat), i < m → i < D.n → tr D i = some c → (mt D i).length + 1 ≤ 50 * (i + 1 - c)
  | 0, i, c, hm, hi, h => by omega
  | m + 1, i, c, hm, hi, h => by
    have hc := tr_le h
    rw [mt_eq (fun j hj => hlo j (by omega))]
    have h1 := sg_len (D.OC i)
    rw [List.length_append]
    unfold bdP
    split
    · rename_i hk
      have h2 := nd_name (hn i hi) hk
      have h3 : (D.NM i).data.toList.length = (D.NM i).size := by simp
      omega
    · split
      · simp only [List.length_cons, List.length_nil]; omega
      · have ht := h
        rw [tr_eq] at ht
        obtain ⟨h2, h3⟩ := fd_tot _ i c (fun j d hj hd => mt_len hn hlo m j d (by omega) (by omega) hd) ht
        rw [List.map_reverse, tot_rev] at h2
        have h4 := join_tot (sepP (D.K i)) (sep_len _) ((D.KL i).map fun k => mt D k.toNat)
        simp only [List.length_append, List.length_cons, List.length_nil]
        omega
/-- The texts of a node's kids are short. -/
theorem mt_kids {D : Pn} (hn : ∀ j, j < D.n → nodeB D j = true) (hlo : ∀ j, j < D.n → ∀ k, k ∈ D.KL j → 0 ≤ k ∧ k < (j : Int)) {i c : Nat} (hi : i < D.n) (h : tr D i = some c) : totL ((D.KL i).map fun k => mt D k.toNat) ≤ 50 * i := by
  have ht := h
  rw [tr_eq] at ht
  obtain ⟨h2, h3⟩ := fd_tot _ i c (fun j d hj hd => mt_len hn hlo (j + 1) j d (by omega) (by omega) hd) ht
  rw [List.map_reverse, tot_rev] at h2
  omega
theorem tot_take (l : List (List UInt8)) (m : Nat) : totL (l.take m) ≤ totL l := by
  have := tot_app (l.take m) (l.drop m)
  rw [List.take_append_drop] at this
  omega
/-- What stands in a text behind m kids. -/
theorem join_take (sep : List UInt8) (ts : List (List UInt8)) (m : Nat) (h : m < ts.length) : Lib.join (ts.take (m + 1)) sep = (if m = 0 then [] else Lib.join (ts.take m) sep ++ sep) ++ ts[m]?.getD [] := by
  rw [List.take_succ_eq_append_getElem h, join_snoc, List.getElem?_eq_getElem h]
  by_cases e : m = 0
  · subst e; simp
  · rw [if_neg (by intro h9; rw [List.take_eq_nil_iff] at h9; rcases h9 with h9 | h9; exact e h9; rw [h9] at h; simp at h), if_neg e]; rfl
end Go.Proofs.Ytfohfljdgmlibaa
