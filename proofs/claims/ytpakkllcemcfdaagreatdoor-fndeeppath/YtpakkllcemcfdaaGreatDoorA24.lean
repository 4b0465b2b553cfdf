/-
  Texts put together: FsM, FpM.
-/
import Derived.Test.YtpakkllcemcfdaaGreatDoorA22
import Derived.Test.YtpakkllcemcfdaaGreatDoorA23
/-
  What a path selects, looked at from the law's side: below the element, by the path's last name. No step of the program in this text.
-/
namespace Go.Proofs.YtpakkllcemcfdaaGreatDoor
open Go.RowKit
set_option linter.unusedVariables false
set_option linter.unusedSimpArgs false
/-- From a place on upwards the element X is met. -/
inductive Rc (D : Dc) (X : Nat) : Int → Prop
  | here : Rc D X (X : Int)
  | up {j : Int} : (X : Int) < j → Rc D X (D.U j.toNat) → Rc D X j
theorem rc_ge {D : Dc} {X : Nat} {j : Int} (h : Rc D X j) : (X : Int) ≤ j := by
  cases h with
  | here => exact Int.le_refl _
  | up h1 _ => exact Int.le_of_lt h1
theorem rc_more {D : Dc} {X : Nat} {j : Int} (h : Rc D X j) (hj : (X : Int) < j) : Rc D X (D.U j.toNat) := by
  cases h with
  | here => exact absurd hj (Int.lt_irrefl _)
  | up _ h2 => exact h2
theorem rc_end {D : Dc} {X : Nat} {j : Int} (h : Rc D X j) (hj : ¬ (X : Int) < j) : j = X := by
  have := rc_ge h
  omega
theorem rcF_Rc {D : Dc} {X : Nat} (hd : ∀ j, j < D.n → -1 ≤ D.U j ∧ D.U j < j) : ∀ (f : Nat) (a : Int), a < D.n → rcF D.U X f a = true → Rc D X a
  | 0, a, ha, h => by cases h
  | f + 1, a, ha, h => by
    rw [rcF] at h
    split at h
    · cases h
    · split at h
      · rename_i h1 h2
        rw [h2]
        exact Rc.here
      · rename_i h1 h2
        have hx := hd a.toNat (by omega)
        have ih := rcF_Rc hd f (D.U a.toNat) (by omega) h
        have := rc_ge ih
        exact Rc.up (by omega) ih
theorem el_Rc {D : Dc} {X : Nat} (hd : ∀ j, j < D.n → -1 ≤ D.U j ∧ D.U j < j) : ∀ (m : Nat), m ≤ D.n → ∀ j ∈ el D X m, Rc D X j
  | 0, hm, j, h => by cases h
  | m + 1, hm, j, h => by
    rw [el] at h
    split at h
    · rename_i hc
      rcases List.mem_append.1 h with h | h
      · exact el_Rc hd m (by omega) j h
      · rw [List.mem_singleton] at h
        subst h
        exact rcF_Rc hd _ _ (by omega) hc.2.1
    · exact el_Rc hd m (by omega) j h
theorem st_Rc {D : Dc} {X : Nat} {dp : Bool} (hd : ∀ j, j < D.n → -1 ≤ D.U j ∧ D.U j < j) : ∀ j ∈ st D X D.n dp, Rc D X j := fun j hj => by
  unfold st at hj
  split at hj
  · rcases List.mem_cons.1 hj with rfl | h
    · exact Rc.here
    · exact el_Rc hd D.n (Nat.le_refl _) j h
  · rw [List.mem_singleton] at hj
    subst hj
    exact Rc.here
theorem step_of {D : Dc} {L : List Int} {nm : List UInt8} {j : Int} (h : j ∈ stepS D L nm) : ∃ y ∈ L, (0 ≤ j ∧ j < D.n) ∧ D.U j.toNat = y ∧ (D.NM j.toNat).data.toList = nm := by
  unfold stepS at h
  obtain ⟨y, hy, hj⟩ := List.mem_flatMap.1 h
  obtain ⟨h1, h2⟩ := kn_mem hj
  refine ⟨y, hy, h1, h2, ?_⟩
  unfold kn at hj
  have := (List.mem_filter.1 hj).2
  simpa using this
theorem sel_Rc {D : Dc} {X : Nat} (hd : ∀ j, j < D.n → -1 ≤ D.U j ∧ D.U j < j) : ∀ (ps : List (List UInt8)) (L : List Int), (∀ j ∈ L, Rc D X j) → ∀ j ∈ sel D L ps, Rc D X j
  | [], L, hL, j, h => hL j h
  | p :: ps, L, hL, j, h => by
    refine sel_Rc hd ps (stepS D L p) (fun k hk => ?_) j h
    obtain ⟨y, hy, hr, hu, -⟩ := step_of hk
    have h1 := hL y hy
    have h2 := rc_ge h1
    have h3 := hd k.toNat (by omega)
    rw [hu] at h3
    exact Rc.up (by omega) (by rw [hu]; exact h1)
theorem sel_last {D : Dc} {L : List Int} {ps : List (List UInt8)} {nm : List UInt8} : sel D L (ps ++ [nm]) = stepS D (sel D L ps) nm := by
  unfold sel
  rw [List.foldl_append]
  rfl
theorem sg_last : ∀ (t cur : List UInt8), ∃ ps nm pre, sg cur t = ps ++ [nm] ∧ cur ++ t = pre ++ nm
  | [], cur => ⟨[], cur, [], rfl, by simp⟩
  | c :: t, cur => by
    by_cases h : c = 47
    · subst h
      obtain ⟨ps, nm, pre, h1, h2⟩ := sg_last t []
      refine ⟨cur :: ps, nm, cur ++ 47 :: pre, by rw [sg_sign, h1]; rfl, ?_⟩
      rw [List.nil_append] at h2
      rw [h2]
      simp
    · obtain ⟨ps, nm, pre, h1, h2⟩ := sg_last t (cur ++ [c])
      exact ⟨ps, nm, pre, by rw [sg_more h, h1], by rw [← h2]; simp⟩
theorem sg_plain : ∀ (t cur : List UInt8), (∀ b ∈ t, b ≠ 47) → sg cur t = [cur ++ t]
  | [], cur, _ => by simp [sg]
  | c :: t, cur, h => by
    rw [sg_more (h c (List.mem_cons_self ..)), sg_plain t (cur ++ [c]) (fun b hb => h b (List.mem_cons_of_mem _ hb))]
    simp
theorem rest_suffix (l : List UInt8) : ∃ pre, l = pre ++ restL l := by
  unfold restL Lib.trimPrefix
  split
  · exact ⟨_, (List.take_append_drop _ l).symm⟩
  · exact ⟨[], rfl⟩
theorem name_no47 {l : List UInt8} (h : (47 : UInt8) ∈ l) : nameL l = false := by
  unfold nameL
  obtain ⟨k, hk, e⟩ := List.mem_iff_getElem.1 h
  have hs : k < (⟨l.toArray⟩ : ByteArray).size := by show k < l.toArray.size; simpa using hk
  have e2 : ((⟨l.toArray⟩ : ByteArray)[k]) = 47 := by
    show (l.toArray)[k]'(by simpa using hk) = 47
    simpa using e
  by_cases h0 : k = 0
  · subst h0
    exact nameB_first _ (by omega) (by rw [e2]; decide)
  · exact nameB_more _ k (by omega) hs (by rw [e2]; decide)
theorem name_plain {s : ByteArray} (h : nameB s = true) : deepL s.data.toList = false ∧ restL s.data.toList = s.data.toList ∧ sg [] s.data.toList = [s.data.toList] := by
  have hno : ∀ b ∈ s.data.toList, b ≠ 47 := fun b hb e => by
    subst e
    have h9 := name_no47 hb
    rw [nameL_data, h] at h9
    cases h9
  have hd : deepL s.data.toList = false := by
    cases hd : deepL s.data.toList
    · rfl
    · unfold deepL at hd
      have h1 := List.isPrefixOf_iff_prefix.1 hd
      obtain ⟨t, ht⟩ := h1
      exact absurd rfl (hno 47 (by rw [← ht]; simp))
  refine ⟨hd, ?_, by rw [sg_plain _ _ hno]; rfl⟩
  unfold restL Lib.trimPrefix
  have hd2 : Lib.hasPrefix s.data.toList [47, 47] = false := hd
  rw [hd2]
  rfl
/-- What is known of a place that a path selects. -/
theorem se_facts {D : Dc} {x j : Int} {s : ByteArray} (h : j ∈ selV D x s) : txOk D x = true ∧ routeB s = true ∧ (0 ≤ j ∧ j < D.n) ∧ Rc D x.toNat (D.U j.toNat) ∧ (D.NM j.toNat).toList.isEmpty = false ∧ (∃ pre, s.data.toList = pre ++ (D.NM j.toNat).data.toList) ∧ (nameB s = true → D.U j.toNat = x) := by
  cases hr : routeB s
  · rw [selV_no (.inl hr)] at h; cases h
  cases ht : txOk D x
  · rw [selV_no (.inr ht)] at h; cases h
  obtain ⟨hdk, hn, -, hx0, hx1⟩ := tx_facts ht
  have hd := docok_dec hdk
  rw [selV_yes hr ht, srt_mem] at h
  obtain ⟨ps, nm, pre, h1, h2⟩ := sg_last (restL s.data.toList) []
  rw [h1, sel_last] at h
  obtain ⟨y, hy, hj, hu, hnm⟩ := step_of h
  have hname : nameL nm = true := by
    unfold routeB allN at hr
    rw [h1] at hr
    simp at hr
    exact hr.2.2.2
  refine ⟨rfl, rfl, hj, ?_, ?_, ?_, fun hN => ?_⟩
  · rw [hu]
    exact sel_Rc hd ps _ (st_Rc hd) y hy
  · rw [ByteArray.toList_eq, hnm]
    cases nm with
    | nil => exact absurd hname (by decide)
    | cons => rfl
  · obtain ⟨p0, hp0⟩ := rest_suffix s.data.toList
    rw [List.nil_append] at h2
    rw [hnm]
    exact ⟨p0 ++ pre, by rw [List.append_assoc, ← h2]; exact hp0⟩
  · obtain ⟨q1, q2, q3⟩ := name_plain hN
    rw [q2, q3] at h1
    have hps : ps = [] := by
      cases ps with
      | nil => rfl
      | cons a b =>
        have h9 := congrArg List.length h1
        simp at h9
    rw [hps, q1] at hy
    have : y = ((x.toNat : Nat) : Int) := by simpa [sel, st] using hy
    rw [hu, this]
    omega
theorem se_sorted (D : Dc) (x : Int) (s : ByteArray) : (selV D x s).Pairwise (· < ·) := by
  unfold selV
  split
  · exact srt_sorted _
  · exact List.Pairwise.nil
theorem se_next {D : Dc} {x : Int} {s : ByteArray} {i : Nat} (h0 : 0 < i) (hi : i < (selV D x s).length) : (selV D x s)[i - 1]?.getD 0 < (selV D x s)[i]?.getD 0 := by
  have h := List.pairwise_iff_getElem.1 (se_sorted D x s) (i - 1) i (by omega) hi (by omega)
  rw [List.getElem?_eq_getElem (by omega), List.getElem?_eq_getElem hi]
  exact h
theorem ext_suffix {s nm : ByteArray} {pre : List UInt8} (h : s.data.toList = pre ++ nm.data.toList) : nm.size ≤ s.size ∧ s.extract (s.size - nm.size) s.size = nm := by
  have h1 : s.data.toList.length = s.size := Array.length_toList
  have h2 : nm.data.toList.length = nm.size := Array.length_toList
  rw [h, List.length_append] at h1
  refine ⟨by omega, ?_⟩
  apply Go.WideShapes.bytes_inj
  rw [ByteArray.data_extract, Array.toList_extract, h]
  show ((pre ++ nm.data.toList).drop (s.size - nm.size)).take (s.size - (s.size - nm.size)) = nm.data.toList
  rw [show s.size - nm.size = pre.length by omega, List.drop_left, List.take_of_length_le (by omega)]
end Go.Proofs.YtpakkllcemcfdaaGreatDoor

/-
  A path that begins anywhere, looked at from the law's side. No step of the program in this text.
-/
namespace Go.Proofs.YtpakkllcemcfdaaGreatDoor
open Go.RowKit
set_option linter.unusedVariables false
set_option linter.unusedSimpArgs false
theorem sel_app {D : Dc} : ∀ (ps : List (List UInt8)) (L1 L2 : List Int), sel D (L1 ++ L2) ps = sel D L1 ps ++ sel D L2 ps
  | [], L1, L2 => rfl
  | p :: ps, L1, L2 => by
    show sel D (stepS D (L1 ++ L2) p) ps = sel D (stepS D L1 p) ps ++ sel D (stepS D L2 p) ps
    rw [← sel_app ps]
    unfold stepS
    rw [List.flatMap_append]
theorem sel_none9 {D : Dc} : ∀ (ps : List (List UInt8)), sel D [] ps = []
  | [] => rfl
  | p :: ps => sel_none9 ps
theorem sel_mem {D : Dc} {ps : List (List UInt8)} {j : Int} : ∀ {L : List Int}, j ∈ sel D L ps ↔ ∃ y ∈ L, j ∈ sel D [y] ps
  | [] => by rw [sel_none9]; simp
  | y :: L => by
    rw [show y :: L = [y] ++ L from rfl, sel_app, List.mem_append, sel_mem (L := L)]
    constructor
    · rintro (h | ⟨z, hz, h⟩)
      · exact ⟨y, by simp, h⟩
      · exact ⟨z, by simp [hz], h⟩
    · rintro ⟨z, hz, h⟩
      rcases List.mem_append.1 hz with hz | hz
      · rw [List.mem_singleton] at hz; subst hz; exact .inl h
      · exact .inr ⟨z, hz, h⟩
theorem Rc_rcF {D : Dc} {X : Nat} (hd : ∀ j, j < D.n → -1 ≤ D.U j ∧ D.U j < j) {a : Int} (h : Rc D X a) : a < D.n → ∀ f : Nat, a < f → rcF D.U X f a = true := by
  induction h with
  | here =>
    intro _ f hf
    cases f with
    | zero => omega
    | succ f => rw [rcF, if_neg (by omega), if_pos rfl]
  | @up j h1 h2 ih =>
    intro hn f hf
    cases f with
    | zero => omega
    | succ f =>
      have hx := hd j.toNat (by omega)
      rw [rcF, if_neg (by omega), if_neg (by omega)]
      exact ih (by omega) f (by omega)
theorem el_iff {D : Dc} {X : Nat} (hd : ∀ j, j < D.n → -1 ≤ D.U j ∧ D.U j < j) {j : Int} : ∀ (m : Nat), m ≤ D.n → (j ∈ el D X m ↔ ∃ i : Nat, j = (i : Int) ∧ i < m ∧ X < i ∧ Rc D X (i : Int) ∧ (D.NM i).toList.isEmpty = false)
  | 0, hm => by simp [el]
  | m + 1, hm => by
    have ih := el_iff (X := X) (j := j) hd m (by omega)
    rw [el]
    split
    · rename_i hc
      rw [List.mem_append, ih, List.mem_singleton]
      constructor
      · rintro (⟨i, h1, h2, h3⟩ | h)
        · exact ⟨i, h1, by omega, h3⟩
        · exact ⟨m, h, by omega, hc.1, rcF_Rc hd _ _ (by omega) hc.2.1, hc.2.2⟩
      · rintro ⟨i, h1, h2, h3, h4, h5⟩
        by_cases e : i = m
        · subst e; exact .inr h1
        · exact .inl ⟨i, h1, by omega, h3, h4, h5⟩
    · rename_i hc
      rw [ih]
      constructor
      · rintro ⟨i, h1, h2, h3⟩
        exact ⟨i, h1, by omega, h3⟩
      · rintro ⟨i, h1, h2, h3, h4, h5⟩
        by_cases e : i = m
        · subst e
          exact absurd ⟨h3, Rc_rcF hd h4 (by omega) _ (by omega), h5⟩ hc
        · exact ⟨i, h1, by omega, h3, h4, h5⟩
theorem deep_two (s : ByteArray) : deepL (⟨#[47, 47]⟩ ++ s : ByteArray).data.toList = true ∧ restL (⟨#[47, 47]⟩ ++ s : ByteArray).data.toList = s.data.toList := by
  have e : (⟨#[47, 47]⟩ ++ s : ByteArray).data.toList = 47 :: 47 :: s.data.toList := by rw [ByteArray.data_append, Array.toList_append]; rfl
  rw [e]
  refine ⟨by unfold deepL Lib.hasPrefix; simp, ?_⟩
  unfold restL Lib.trimPrefix
  have h : Lib.hasPrefix (47 :: 47 :: s.data.toList) [47, 47] = true := by unfold Lib.hasPrefix; simp
  rw [if_pos h]
  rfl
theorem rest_flat {l : List UInt8} (h : deepL l = false) : restL l = l := by
  unfold restL Lib.trimPrefix
  have hd2 : Lib.hasPrefix l [47, 47] = false := h
  rw [hd2]
  rfl
theorem flat_first {s : ByteArray} {b0 : UInt8} {r : List UInt8} (h : s.data.toList = b0 :: r) (hb : b0 ≠ 47) : deepL s.data.toList = false := by
  rw [h]
  unfold deepL Lib.hasPrefix
  cases r with
  | nil => simp [List.isPrefixOf]
  | cons c r =>
    simp [List.isPrefixOf]
    intro e
    exact absurd e.symm hb
theorem tx_of {D : Dc} {X i : Nat} (h : txOk D (X : Int) = true) (hi : i < D.n) (hn : (D.NM i).toList.isEmpty = false) : txOk D (i : Int) = true := by
  have hdk := (tx_facts h).1
  unfold txOk
  rw [hdk, Int.toNat_natCast, hn, decide_eq_true (by omega)]
  rfl
/-- What a path that begins anywhere selects. -/
theorem deep_iff {D : Dc} {X : Nat} {s : ByteArray} {j : Int} (ht : txOk D (X : Int) = true) (hr : routeB s = true) (hs : s.size ≤ 8) (hf : deepL s.data.toList = false) :
    j ∈ selV D X (⟨#[47, 47]⟩ ++ s) ↔ j ∈ selV D X s ∨ ∃ i : Nat, i < D.n ∧ X < i ∧ Rc D X (i : Int) ∧ (D.NM i).toList.isEmpty = false ∧ j ∈ selV D (i : Int) s := by
  have hd := docok_dec (tx_facts ht).1
  obtain ⟨e1, e2⟩ := deep_two s
  have hr2 : routeB (⟨#[47, 47]⟩ ++ s) = true := by
    have h9 := hr
    unfold routeB at h9 ⊢
    rw [rest_flat hf] at h9
    rw [e2]
    simp only [Bool.and_eq_true, decide_eq_true_eq] at h9 ⊢
    refine ⟨?_, h9.2⟩
    rw [ByteArray.size_append]
    have : (⟨#[47, 47]⟩ : ByteArray).size = 2 := rfl
    omega
  rw [selV_yes hr2 ht, selV_yes hr ht, e1, e2, hf, rest_flat hf, srt_mem, srt_mem, Int.toNat_natCast]
  have es : st D X D.n true = (X : Int) :: el D X D.n := rfl
  have es2 : st D X D.n false = [(X : Int)] := rfl
  rw [es, es2, sel_mem (L := (X : Int) :: el D X D.n)]
  constructor
  · rintro ⟨y, hy, h⟩
    rcases List.mem_cons.1 hy with rfl | hy
    · exact .inl h
    · obtain ⟨i, rfl, h1, h2, h3, h4⟩ := (el_iff hd D.n (Nat.le_refl _)).1 hy
      refine .inr ⟨i, h1, h2, h3, h4, ?_⟩
      rw [selV_yes hr (tx_of ht h1 h4), hf, rest_flat hf, srt_mem, Int.toNat_natCast]
      exact h
  · rintro (h | ⟨i, h1, h2, h3, h4, h⟩)
    · exact ⟨X, by simp, h⟩
    · rw [selV_yes hr (tx_of ht h1 h4), hf, rest_flat hf, srt_mem, Int.toNat_natCast] at h
      exact ⟨i, List.mem_cons_of_mem _ ((el_iff hd D.n (Nat.le_refl _)).2 ⟨i, rfl, h1, h2, h3, h4⟩), h⟩
end Go.Proofs.YtpakkllcemcfdaaGreatDoor
