/-
  Texts put together: FsM, WhM, WhR.
-/
import Derived.Test.YtdepgkpfibmbgaaGreatDoorE26
import Derived.Test.YtdepgkpfibmbgaaGreatDoorE6
import Derived.Test.YtdepgkpfibmbgaaGreatDoorE1
import Derived.Lib.FieldsP
import Derived.Lib.SpaceUEq
import Derived.Lib.Join
import Derived.Test.YtdepgkpfibmbgaaGreatDoorChecked
import Derived.WalkKit
import Derived.WalkLawsBesides
import Derived.Below
import Derived.OwnWalk
import Derived.Laws.OwnMore
import Derived.Deep.AppendLies
import Derived.Deep.QuietTactic
import Derived.Deep.Draws
import Derived.KernelRfl
/-
  What a path selects, looked at from the law's side: below the element, by the path's last name. No step of the program in this text.
-/
namespace Go.Proofs.YtdepgkpfibmbgaaGreatDoor
open Go.RowKit
set_option linter.unusedVariables false
set_option linter.unusedSimpArgs false
/-- From a place on upwards the element X is met. -/
inductive Rc (D : Dc) (X : Nat) : Int → Prop
  | here : Rc D X (X : Int)
  | up {j : Int} : (X : Int) < j → Rc D X (D.U j.toNat) → Rc D X j
theorem rc_ge {D : Dc} {X : Nat} {j : Int} (h : Rc D X j) : (X : Int) ≤ j := by
  cases h with
  | here => exact Int.le_refl _
  | up h1 _ => exact Int.le_of_lt h1
theorem rc_more {D : Dc} {X : Nat} {j : Int} (h : Rc D X j) (hj : (X : Int) < j) : Rc D X (D.U j.toNat) := by
  cases h with
  | here => exact absurd hj (Int.lt_irrefl _)
  | up _ h2 => exact h2
theorem rc_end {D : Dc} {X : Nat} {j : Int} (h : Rc D X j) (hj : ¬ (X : Int) < j) : j = X := by
  have := rc_ge h
  omega
theorem rcF_Rc {D : Dc} {X : Nat} (hd : ∀ j, j < D.n → -1 ≤ D.U j ∧ D.U j < j) : ∀ (f : Nat) (a : Int), a < D.n → rcF D.U X f a = true → Rc D X a
  | 0, a, ha, h => by cases h
  | f + 1, a, ha, h => by
    rw [rcF] at h
    split at h
    · cases h
    · split at h
      · rename_i h1 h2
        rw [h2]
        exact Rc.here
      · rename_i h1 h2
        have hx := hd a.toNat (by omega)
        have ih := rcF_Rc hd f (D.U a.toNat) (by omega) h
        have := rc_ge ih
        exact Rc.up (by omega) ih
theorem el_Rc {D : Dc} {X : Nat} (hd : ∀ j, j < D.n → -1 ≤ D.U j ∧ D.U j < j) : ∀ (m : Nat), m ≤ D.n → ∀ j ∈ el D X m, Rc D X j
  | 0, hm, j, h => by cases h
  | m + 1, hm, j, h => by
    rw [el] at h
    split at h
    · rename_i hc
      rcases List.mem_append.1 h with h | h
      · exact el_Rc hd m (by omega) j h
      · rw [List.mem_singleton] at h
        subst h
        exact rcF_Rc hd _ _ (by omega) hc.2.1
    · exact el_Rc hd m (by omega) j h
theorem st_Rc {D : Dc} {X : Nat} {dp : Bool} (hd : ∀ j, j < D.n → -1 ≤ D.U j ∧ D.U j < j) : ∀ j ∈ st D X D.n dp, Rc D X j := fun j hj => by
  unfold st at hj
  split at hj
  · rcases List.mem_cons.1 hj with rfl | h
    · exact Rc.here
    · exact el_Rc hd D.n (Nat.le_refl _) j h
  · rw [List.mem_singleton] at hj
    subst hj
    exact Rc.here
theorem step_of {D : Dc} {L : List Int} {nm : List UInt8} {j : Int} (h : j ∈ stepS D L nm) : ∃ y ∈ L, (0 ≤ j ∧ j < D.n) ∧ D.U j.toNat = y ∧ (D.NM j.toNat).data.toList = nm := by
  unfold stepS at h
  obtain ⟨y, hy, hj⟩ := List.mem_flatMap.1 h
  obtain ⟨h1, h2⟩ := kn_mem hj
  refine ⟨y, hy, h1, h2, ?_⟩
  unfold kn at hj
  have := (List.mem_filter.1 hj).2
  simpa using this
theorem sel_Rc {D : Dc} {X : Nat} (hd : ∀ j, j < D.n → -1 ≤ D.U j ∧ D.U j < j) : ∀ (ps : List (List UInt8)) (L : List Int), (∀ j ∈ L, Rc D X j) → ∀ j ∈ sel D L ps, Rc D X j
  | [], L, hL, j, h => hL j h
  | p :: ps, L, hL, j, h => by
    refine sel_Rc hd ps (stepS D L p) (fun k hk => ?_) j h
    obtain ⟨y, hy, hr, hu, -⟩ := step_of hk
    have h1 := hL y hy
    have h2 := rc_ge h1
    have h3 := hd k.toNat (by omega)
    rw [hu] at h3
    exact Rc.up (by omega) (by rw [hu]; exact h1)
theorem sel_last {D : Dc} {L : List Int} {ps : List (List UInt8)} {nm : List UInt8} : sel D L (ps ++ [nm]) = stepS D (sel D L ps) nm := by
  unfold sel
  rw [List.foldl_append]
  rfl
theorem sg_last : ∀ (t cur : List UInt8), ∃ ps nm pre, sg cur t = ps ++ [nm] ∧ cur ++ t = pre ++ nm
  | [], cur => ⟨[], cur, [], rfl, by simp⟩
  | c :: t, cur => by
    by_cases h : c = 47
    · subst h
      obtain ⟨ps, nm, pre, h1, h2⟩ := sg_last t []
      refine ⟨cur :: ps, nm, cur ++ 47 :: pre, by rw [sg_sign, h1]; rfl, ?_⟩
      rw [List.nil_append] at h2
      rw [h2]
      simp
    · obtain ⟨ps, nm, pre, h1, h2⟩ := sg_last t (cur ++ [c])
      exact ⟨ps, nm, pre, by rw [sg_more h, h1], by rw [← h2]; simp⟩
theorem sg_plain : ∀ (t cur : List UInt8), (∀ b ∈ t, b ≠ 47) → sg cur t = [cur ++ t]
  | [], cur, _ => by simp [sg]
  | c :: t, cur, h => by
    rw [sg_more (h c (List.mem_cons_self ..)), sg_plain t (cur ++ [c]) (fun b hb => h b (List.mem_cons_of_mem _ hb))]
    simp
theorem rest_suffix (l : List UInt8) : ∃ pre, l = pre ++ restL l := by
  unfold restL Lib.trimPrefix
  split
  · exact ⟨_, (List.take_append_drop _ l).symm⟩
  · exact ⟨[], rfl⟩
theorem name_no47 {l : List UInt8} (h : (47 : UInt8) ∈ l) : nameL l = false := by
  unfold nameL
  obtain ⟨k, hk, e⟩ := List.mem_iff_getElem.1 h
  have hs : k < (⟨l.toArray⟩ : ByteArray).size := by show k < l.toArray.size; simpa using hk
  have e2 : ((⟨l.toArray⟩ : ByteArray)[k]) = 47 := by
    show (l.toArray)[k]'(by simpa using hk) = 47
    simpa using e
  by_cases h0 : k = 0
  · subst h0
    exact nameB_first _ (by omega) (by rw [e2]; decide)
  · exact nameB_more _ k (by omega) hs (by rw [e2]; decide)
theorem name_plain {s : ByteArray} (h : nameB s = true) : deepL s.data.toList = false ∧ restL s.data.toList = s.data.toList ∧ sg [] s.data.toList = [s.data.toList] := by
  have hno : ∀ b ∈ s.data.toList, b ≠ 47 := fun b hb e => by
    subst e
    have h9 := name_no47 hb
    rw [nameL_data, h] at h9
    cases h9
  have hd : deepL s.data.toList = false := by
    cases hd : deepL s.data.toList
    · rfl
    · unfold deepL at hd
      have h1 := List.isPrefixOf_iff_prefix.1 hd
      obtain ⟨t, ht⟩ := h1
      exact absurd rfl (hno 47 (by rw [← ht]; simp))
  refine ⟨hd, ?_, by rw [sg_plain _ _ hno]; rfl⟩
  unfold restL Lib.trimPrefix
  have hd2 : Lib.hasPrefix s.data.toList [47, 47] = false := hd
  rw [hd2]
  rfl
/-- What is known of a place that a path selects. -/
theorem se_facts {D : Dc} {x j : Int} {s : ByteArray} (h : j ∈ selV D x s) : txOk D x = true ∧ routeB s = true ∧ (0 ≤ j ∧ j < D.n) ∧ Rc D x.toNat (D.U j.toNat) ∧ (D.NM j.toNat).toList.isEmpty = false ∧ (∃ pre, s.data.toList = pre ++ (D.NM j.toNat).data.toList) ∧ (nameB s = true → D.U j.toNat = x) := by
  cases hr : routeB s
  · rw [selV_no (.inl hr)] at h; cases h
  cases ht : txOk D x
  · rw [selV_no (.inr ht)] at h; cases h
  obtain ⟨hdk, hn, -, hx0, hx1⟩ := tx_facts ht
  have hd := docok_dec hdk
  rw [selV_yes hr ht, srt_mem] at h
  obtain ⟨ps, nm, pre, h1, h2⟩ := sg_last (restL s.data.toList) []
  rw [h1, sel_last] at h
  obtain ⟨y, hy, hj, hu, hnm⟩ := step_of h
  have hname : nameL nm = true := by
    unfold routeB allN at hr
    rw [h1] at hr
    simp at hr
    exact hr.2.2.2
  refine ⟨rfl, rfl, hj, ?_, ?_, ?_, fun hN => ?_⟩
  · rw [hu]
    exact sel_Rc hd ps _ (st_Rc hd) y hy
  · rw [ByteArray.toList_eq, hnm]
    cases nm with
    | nil => exact absurd hname (by decide)
    | cons => rfl
  · obtain ⟨p0, hp0⟩ := rest_suffix s.data.toList
    rw [List.nil_append] at h2
    rw [hnm]
    exact ⟨p0 ++ pre, by rw [List.append_assoc, ← h2]; exact hp0⟩
  · obtain ⟨q1, q2, q3⟩ := name_plain hN
    rw [q2, q3] at h1
    have hps : ps = [] := by
      cases ps with
      | nil => rfl
      | cons a b =>
        have h9 := congrArg List.length h1
        simp at h9
    rw [hps, q1] at hy
    have : y = ((x.toNat : Nat) : Int) := by simpa [sel, st] using hy
    rw [hu, this]
    omega
theorem se_sorted (D : Dc) (x : Int) (s : ByteArray) : (selV D x s).Pairwise (· < ·) := by
  unfold selV
  split
  · exact srt_sorted _
  · exact List.Pairwise.nil
theorem se_next {D : Dc} {x : Int} {s : ByteArray} {i : Nat} (h0 : 0 < i) (hi : i < (selV D x s).length) : (selV D x s)[i - 1]?.getD 0 < (selV D x s)[i]?.getD 0 := by
  have h := List.pairwise_iff_getElem.1 (se_sorted D x s) (i - 1) i (by omega) hi (by omega)
  rw [List.getElem?_eq_getElem (by omega), List.getElem?_eq_getElem hi]
  exact h
theorem ext_suffix {s nm : ByteArray} {pre : List UInt8} (h : s.data.toList = pre ++ nm.data.toList) : nm.size ≤ s.size ∧ s.extract (s.size - nm.size) s.size = nm := by
  have h1 : s.data.toList.length = s.size := Array.length_toList
  have h2 : nm.data.toList.length = nm.size := Array.length_toList
  rw [h, List.length_append] at h1
  refine ⟨by omega, ?_⟩
  apply Go.WideShapes.bytes_inj
  rw [ByteArray.data_extract, Array.toList_extract, h]
  show ((pre ++ nm.data.toList).drop (s.size - nm.size)).take (s.size - (s.size - nm.size)) = nm.data.toList
  rw [show s.size - nm.size = pre.length by omega, List.drop_left, List.take_of_length_le (by omega)]
end Go.Proofs.YtdepgkpfibmbgaaGreatDoor

/-
  Plain facts on blanks: the words between them, byte by byte and rune by rune; blanks made one kind.
-/
namespace Go.Proofs.YtdepgkpfibmbgaaGreatDoor
set_option linter.unusedVariables false
set_option linter.unusedSimpArgs false
/-- The four blanks. -/
def blB (c : UInt8) : Bool := c == 32 || c == 9 || c == 10 || c == 13
def blR (x : Nat) : Bool := x == 32 || x == 9 || x == 10 || x == 13
/-- Blanks of one kind. -/
def reB (l : List UInt8) : List UInt8 := l.map fun c => if blB c = true then 32 else c
/-- The words, the one that has begun ahead. -/
def wdB : List UInt8 → List UInt8 → List (List UInt8)
  | w, [] => if w = [] then [] else [w]
  | w, c :: l => if blB c = true then (if w = [] then wdB [] l else w :: wdB [] l) else wdB (w ++ [c]) l
theorem wd_run : ∀ (xs w r : List UInt8), (∀ c ∈ xs, blB c = false) → wdB w (xs ++ r) = wdB (w ++ xs) r
  | [], w, r, _ => by simp
  | c :: xs, w, r, h => by
    have h0 := h c (List.mem_cons_self ..)
    rw [List.cons_append, wdB, if_neg (by rw [h0]; simp), wd_run xs (w ++ [c]) r (fun d hd => h d (List.mem_cons_of_mem _ hd))]
    simp
theorem blB_hi {c : UInt8} (h : 128 ≤ c.toNat) : blB c = false := by
  unfold blB
  have : ∀ d : UInt8, d.toNat < 128 → c ≠ d := fun d hd e => by rw [e] at h; omega
  simp [this 32 (by decide), this 9 (by decide), this 10 (by decide), this 13 (by decide)]
theorem blR_B (c : UInt8) : blR c.toNat = blB c := by
  have e : ∀ d : UInt8, (c.toNat == d.toNat) = (c == d) := fun d => by
    by_cases h : c = d
    · subst h; rw [beq_self_eq_true, beq_self_eq_true]
    · have h2 : c.toNat ≠ d.toNat := fun e => h (UInt8.toNat_inj.1 e)
      rw [beq_eq_false_iff_ne.2 h2, beq_eq_false_iff_ne.2 h]
  unfold blR blB
  rw [← e 32, ← e 9, ← e 10, ← e 13]
  rfl
theorem get_at (s : ByteArray) (j : Nat) (h : j < s.size) : s.data.toList[j]? = some (s.get! j) := by
  rw [List.getElem?_eq_getElem (by simpa using h)]
  congr 1
  simp [ByteArray.get!, getElem!_pos, h]
/-- The bytes of a rune that is no blank. -/
theorem dec_step (s : ByteArray) (pos : Nat) (h : pos < s.size) : (blR (Utf8.decode s pos).1 = true ∧ (Utf8.decode s pos).2 = 1 ∧ blB (s.get! pos) = true) ∨
    (blR (Utf8.decode s pos).1 = false ∧ 1 ≤ (Utf8.decode s pos).2 ∧ pos + (Utf8.decode s pos).2 ≤ s.size ∧ ∀ j, pos ≤ j → j < pos + (Utf8.decode s pos).2 → blB (s.get! j) = false) := by
  rw [Lib.decode_at]
  have hc := Lib.decodeN_conts (s.size - pos) (s.get! pos).toNat (s.get! (pos + 1)).toNat (s.get! (pos + 2)).toNat (s.get! (pos + 3)).toNat
  by_cases h0 : (s.get! pos).toNat < 128
  · have e : Lib.decodeN (s.size - pos) (s.get! pos).toNat (s.get! (pos + 1)).toNat (s.get! (pos + 2)).toNat (s.get! (pos + 3)).toNat = ((s.get! pos).toNat, 1) := by
      unfold Lib.decodeN
      rw [if_pos h0]
    rw [e]
    simp only
    rw [blR_B]
    cases hb : blB (s.get! pos)
    · refine .inr ⟨rfl, Nat.le_refl _, by omega, fun j h1 h2 => ?_⟩
      have : j = pos := by omega
      rw [this]; exact hb
    · exact .inl ⟨by first | rfl | trivial, by first | rfl | trivial, by first | rfl | trivial⟩
  · right
    have hle := Lib.decodeN_le_n' (s.size - pos) (s.get! pos).toNat (s.get! (pos + 1)).toNat (s.get! (pos + 2)).toNat (s.get! (pos + 3)).toNat (by omega)
    have hge := Lib.decodeN_ge1 (s.size - pos) (s.get! pos).toNat (s.get! (pos + 1)).toNat (s.get! (pos + 2)).toNat (s.get! (pos + 3)).toNat
    have hru : 128 ≤ (Lib.decodeN (s.size - pos) (s.get! pos).toNat (s.get! (pos + 1)).toNat (s.get! (pos + 2)).toNat (s.get! (pos + 3)).toNat).1 := by
      rcases Lib.decodeN_cases (s.size - pos) (s.get! pos).toNat (s.get! (pos + 1)).toNat (s.get! (pos + 2)).toNat (s.get! (pos + 3)).toNat with ⟨h1, -⟩ | ⟨-, -, -, h1, e⟩ | ⟨-, -, -, -, h1, e⟩ | ⟨h1, -⟩ | e
      · omega
      · rw [e]; exact h1
      · rw [e]; simp only; omega
      · omega
      · rw [e]; decide
    generalize hd : Lib.decodeN (s.size - pos) (s.get! pos).toNat (s.get! (pos + 1)).toNat (s.get! (pos + 2)).toNat (s.get! (pos + 3)).toNat = d at hc hle hge hru
    obtain ⟨c1, c2, c3, c4⟩ := hc
    refine ⟨?_, hge, by omega, fun j h1 h2 => blB_hi ?_⟩
    · unfold blR
      have : ∀ m : Nat, m < 128 → (d.1 == m) = false := fun m hm => by simp; omega
      rw [this 32 (by omega), this 9 (by omega), this 10 (by omega), this 13 (by omega)]
      rfl
    · rcases (show j = pos ∨ j = pos + 1 ∨ j = pos + 2 ∨ j = pos + 3 by omega) with e | e | e | e
      · rw [e]; omega
      · have := c1 (by omega); rw [e]; omega
      · have := c2 (by omega); rw [e]; omega
      · have := c3 (by omega); rw [e]; omega
theorem ext_list (s : ByteArray) (a b : Nat) : (s.extract a b).data.toList = (s.data.toList.take b).drop a := by
  rw [ByteArray.data_extract, Array.toList_extract]
  simp [List.extract_eq_take_drop, List.drop_take]
/-- The word that has begun. -/
def curW (s : ByteArray) (st : Option Nat) (pos : Nat) : List UInt8 := match st with
  | some a => (s.data.toList.take pos).drop a
  | none => []
def exL (s : ByteArray) (x : Nat × Nat) : List UInt8 := (s.extract x.1 x.2).data.toList
theorem cur_more {s : ByteArray} {a pos k : Nat} (ha : a ≤ pos) (hk : pos + k ≤ s.size) : (s.data.toList.take (pos + k)).drop a = (s.data.toList.take pos).drop a ++ (s.data.toList.drop pos).take k := by
  rw [List.take_add, List.drop_append_of_le_length (by simp; omega)]
theorem fields_wd (s : ByteArray) : ∀ (f pos : Nat) (st : Option Nat) (acc : List (Nat × Nat)), s.size ≤ pos + f → pos ≤ s.size → (∀ a, st = some a → a < pos) →
    (Lib.closeSpans s (Lib.spansFromP blR s f pos st acc)).map (exL s) = acc.map (exL s) ++ wdB (curW s st pos) (s.data.toList.drop pos)
  | f, pos, st, acc, hf, hp, hs => by
    by_cases hlt : pos < s.size
    · obtain ⟨f', rfl⟩ : ∃ f', f = f' + 1 := ⟨f - 1, by omega⟩
      have hcur : curW s st pos = [] ↔ st = none := by
        cases st with
        | none => simp [curW]
        | some a =>
          have := hs a rfl
          simp only [curW, reduceCtorEq, iff_false]
          intro e
          have e2 := congrArg List.length e
          simp at e2
          omega
      rcases dec_step s pos hlt with ⟨h1, h2, h3⟩ | ⟨h1, h2, h3, h4⟩
      · have hd : s.data.toList.drop pos = s.get! pos :: s.data.toList.drop (pos + 1) := by
          rw [List.drop_eq_getElem_cons (by simpa using hlt)]
          congr 1
          have := get_at s pos hlt
          rw [List.getElem?_eq_getElem (by simpa using hlt)] at this
          exact Option.some.inj this
        rw [hd, wdB, if_pos h3]
        unfold Lib.spansFromP
        rw [if_pos hlt, if_pos h1, h2]
        cases st with
        | none =>
          simp only
          rw [fields_wd s f' (pos + 1) none acc (by omega) (by omega) (fun a h => by cases h), if_pos (hcur.2 rfl)]
          rfl
        | some a =>
          simp only
          rw [fields_wd s f' (pos + 1) none (acc ++ [(a, pos)]) (by omega) (by omega) (fun a h => by cases h), if_neg (fun e => by have := hcur.1 e; cases this)]
          have e1 : exL s (a, pos) = curW s (some a) pos := ext_list s a pos
          simp [e1, curW]
      · have hd : s.data.toList.drop pos = (s.data.toList.drop pos).take (Utf8.decode s pos).2 ++ s.data.toList.drop (pos + (Utf8.decode s pos).2) := by
          rw [← List.drop_drop, List.take_append_drop]
        have hnb : ∀ c ∈ (s.data.toList.drop pos).take (Utf8.decode s pos).2, blB c = false := fun c hc => by
          obtain ⟨j, hj, e⟩ := List.getElem_of_mem hc
          have hj2 : j < (Utf8.decode s pos).2 := by simp at hj; omega
          have h9 := get_at s (pos + j) (by omega)
          have e9 : ((s.data.toList.drop pos).take (Utf8.decode s pos).2)[j]? = some c := by rw [List.getElem?_eq_getElem hj, e]
          rw [List.getElem?_take, if_pos hj2, List.getElem?_drop, h9] at e9
          rw [← Option.some.inj e9]
          exact h4 (pos + j) (by omega) (by omega)
        rw [hd, wd_run _ _ _ hnb]
        unfold Lib.spansFromP
        rw [if_pos hlt, if_neg (by rw [h1]; simp)]
        generalize hk : (Utf8.decode s pos).2 = k at h2 h3
        cases st with
        | none =>
          simp only
          rw [fields_wd s f' (pos + k) (some pos) acc (by omega) (by omega) (fun a h => by cases h; omega)]
          congr 2
          show (s.data.toList.take (pos + k)).drop pos = [] ++ _
          rw [cur_more (Nat.le_refl _) h3]
          simp
        | some a =>
          have ha := hs a rfl
          simp only
          rw [fields_wd s f' (pos + k) (some a) acc (by omega) (by omega) (fun b h => by cases h; omega)]
          congr 2
          exact cur_more (by omega) h3
    · have hpe : pos = s.size := by omega
      rw [Lib.spansFromP_end _ _ _ _ _ _ hlt, List.drop_eq_nil_of_le (by simp; omega)]
      unfold wdB Lib.closeSpans
      cases st with
      | none => simp [curW]
      | some a =>
        have ha := hs a rfl
        have hne : curW s (some a) pos ≠ [] := fun e => by
          have e2 := congrArg List.length e
          simp [curW] at e2
          omega
        rw [if_neg hne]
        simp only [List.map_append, List.map_cons, List.map_nil]
        congr 2
        show (s.extract a s.size).data.toList = _
        rw [ext_list, hpe]
        rfl
/-- The pieces that Go's FieldsFunc tells are the words. -/
theorem fields_words (s : ByteArray) : (Lib.goFieldsP blR s).map (·.data.toList) = wdB [] s.data.toList := by
  unfold Lib.goFieldsP Lib.spansOfP
  rw [List.map_map]
  have := fields_wd s s.size 0 none [] (by omega) (Nat.zero_le _) (fun a h => by cases h)
  rw [List.map_nil, List.nil_append, List.drop_zero] at this
  exact this
end Go.Proofs.YtdepgkpfibmbgaaGreatDoor

/-
  Contracts of Go's strings.Replacer at six strings of one byte each: how it is made.
-/
namespace Go.Proofs.YtdepgkpfibmbgaaGreatDoor
open Go.RowKit
set_option linter.unusedVariables false
set_option linter.unusedSimpArgs false
theorem infoSt : (Tryz.prog.info? 9).map (fun i => (i.zero, i.size, i.bytes)) = some (some (.string ⟨#[]⟩), 1, 16) := by kernel_rfl
def sixV : List Value := [.string ⟨#[9]⟩, .string ⟨#[32]⟩, .string ⟨#[10]⟩, .string ⟨#[32]⟩, .string ⟨#[13]⟩, .string ⟨#[32]⟩]
def Rep (w : World) (R : Nat) (a b c : Int) (f s : Value) : Prop := w.heap[R]? = some (.cells #[.int .u32 a, .int .i32 b, .int .u32 c, f, s] 167 (0, 0))
def NrAns (w : World) (e : Ending) (w' : World) : Prop := ∃ R g cap, e = .returned (.pointer (some ⟨R, 0, none⟩)) ∧ (w.heap.size ≤ R ∧ g < R) ∧ Rep w' R 0 0 0 .nilIface (.slice (some ⟨g, 0, none⟩) 6 cap) ∧ w'.ownsRow w.heap.size 9 1 (.slice (some ⟨g, 0, none⟩) 6 cap) 6 sixV ∧ Below w.heap.size w w'
set_option maxHeartbeats 2000000 in
theorem n_repl (A : Nat) (w : World) (h : w.heap[A]? = some (.cells sixV.toArray 9 (0, 0))) :
    Calls Tryz.prog 95 #[.slice (some ⟨A, 0, none⟩) 6 6] w (NrAns w) := by
  obtain ⟨i0, hi0, hz0, hz1, hz2⟩ := info_parts infoSt
  have HN := hide (World.news_of_block h)
  have hlt : A < w.heap.size := (Array.getElem?_eq_some_iff.1 h).1
  clear h
  go_enter Tryz.func95, Tryz.ntmps95
  go_wp2_with (at_builtin; refine wpList_append_lies _ (by rfl) (.const (.slice none 0 0)) (.tmp 8) 25 (by rfl) w.heap.size 9 i0 _ 1 16 Tryz.underlying25 hi0 hz0 hz1 hz2 rfl (by omega) (.slice none 0 0) 0 [] (by rfl) (World.ownsRow_nil _ _ _ _) ⟨A, 0, none⟩ 6 6 sixV (by rfl) (by rfl) HN.out (by simp [Value.oneCell', sixV]) (by omega) (by unfold maxLen; omega) (by omega) (Nat.le_refl _) w.heap.size rfl ?_; intro g cap w1 hown hgrow hat hlt1; have HO := hide hown; have HG := hide hgrow; have HA := hide hat; clear hown hgrow hat)
  go_ret
  have hb1 : Below w.heap.size w w1 := (Below.refl _ _).grown HG.out (Nat.le_refl _) (fun k hk => by cases hk)
  exact ⟨w1.heap.size, g, cap, rfl, ⟨hb1.size, hlt1⟩, heap_alloc_new w1 _, HO.out.alloc _, hb1.alloc hb1.size _⟩
end Go.Proofs.YtdepgkpfibmbgaaGreatDoor
