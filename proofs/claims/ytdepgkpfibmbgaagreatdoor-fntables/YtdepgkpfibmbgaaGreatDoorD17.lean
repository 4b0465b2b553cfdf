/-
  Texts put together: PtMath, SelMath.
-/
import Derived.Test.YtdepgkpfibmbgaaGreatDoorD1
import Derived.Lib.SplitLaws
import Derived.Lib.Strings
import Derived.Test.YtdepgkpfibmbgaaGreatDoorD16
/-
  Plain facts on paths, of no program: the pieces of a text between the signs /, told by what was read so far, and as Go's own Split has them.
-/
namespace Go.Proofs.YtdepgkpfibmbgaaGreatDoor
set_option linter.unusedVariables false
/-- The pieces of a text, 'cur' being what of the first one was read already. -/
def sg (cur : List UInt8) : List UInt8 → List (List UInt8)
  | [] => [cur]
  | c :: t => if c = 47 then cur :: sg [] t else sg (cur ++ [c]) t
theorem sg_sign (cur t : List UInt8) : sg cur (47 :: t) = cur :: sg [] t := by rw [sg, if_pos rfl]
theorem sg_more {c : UInt8} (h : c ≠ 47) (cur t : List UInt8) : sg cur (c :: t) = sg (cur ++ [c]) t := by rw [sg, if_neg h]
theorem sg_len : ∀ (l cur : List UInt8), (sg cur l).length ≤ l.length + 1
  | [], cur => by simp [sg]
  | c :: t, cur => by
    by_cases h : c = 47
    · subst h; rw [sg_sign]; have := sg_len t []; simp; omega
    · rw [sg_more h]; have := sg_len t (cur ++ [c]); simp; omega
def nameL (l : List UInt8) : Bool := nameB ⟨l.toArray⟩
theorem nameL_data (C : ByteArray) : nameL C.data.toList = nameB C := rfl
theorem splitK_ne (k : Nat) (l : List UInt8) : ∃ h t, Lib.splitK [47] 0 k l = h :: t := by
  cases k with
  | zero => exact ⟨_, _, rfl⟩
  | succ k => unfold Lib.splitK; split <;> exact ⟨_, _, rfl⟩
theorem sg_split : ∀ (l cur : List UInt8), ∃ h t, Lib.splitK [47] 0 (Lib.count l [47]) l = h :: t ∧ sg cur l = (cur ++ h) :: t
  | [], cur => by
    rw [Lib.count_miss (by simp [Lib.index])]
    exact ⟨[], [], rfl, by simp [sg]⟩
  | c :: t, cur => by
    by_cases e : c = 47
    · subst e
      obtain ⟨h, r, h1, h2⟩ := sg_split t []
      have hix : Lib.index (47 :: t) [47] = 0 := by rw [Lib.index]; simp [List.isPrefixOf]
      refine ⟨[], h :: r, ?_, ?_⟩
      · rw [Lib.count_cons_eq, Nat.add_comm, Lib.splitK, hix, if_neg (by decide)]
        simp [h1]
      · rw [sg_sign, h2]; simp
    · obtain ⟨h, r, h1, h2⟩ := sg_split t (cur ++ [c])
      have hp : ([47] : List UInt8).isPrefixOf (c :: t) = false := by simp [List.isPrefixOf, Ne.symm e]
      have hix : Lib.index (c :: t) [47] = if Lib.index t [47] == -1 then -1 else Lib.index t [47] + 1 := by rw [Lib.index, hp]; simp
      refine ⟨c :: h, r, ?_, ?_⟩
      · rw [Lib.count_cons_ne c 47 t e]
        cases hk : Lib.count t [47] with
        | zero =>
          rw [hk] at h1
          rw [Lib.splitK] at h1 ⊢
          simp only [List.cons.injEq] at h1
          obtain ⟨rfl, rfl⟩ := h1
          rfl
        | succ k =>
          rw [hk] at h1
          by_cases hm : Lib.index t [47] = -1
          · have := Lib.count_miss hm; omega
          · have hge := Lib.index_ge t [47]
            have hm2 : ¬ ((Lib.index t [47] == -1) = true) := fun h => hm (beq_iff_eq.1 h)
            have hm3 : ¬ ((Lib.index t [47] + 1 == -1) = true) := fun h => by have := beq_iff_eq.1 h; omega
            rw [Lib.splitK, if_neg hm2] at h1
            rw [Lib.splitK, hix, if_neg hm2, if_neg hm3]
            simp only [List.cons.injEq] at h1
            obtain ⟨h3, h4⟩ := h1
            have e1 : (Lib.index t [47] + 1).toNat = (Lib.index t [47]).toNat + 1 := by omega
            obtain ⟨i, hi⟩ : ∃ i, (Lib.index t [47]).toNat = i := ⟨_, rfl⟩
            rw [hi] at h3 h4 e1
            rw [e1]
            simp only [List.length_cons, List.length_nil, Nat.add_zero, Nat.zero_add] at h3 h4 ⊢
            rw [List.take_succ_cons, List.drop_succ_cons, h3, h4]
      · rw [sg_more e, h2]; simp
theorem split_sg (s : ByteArray) : (Lib.splitB ⟨#[47]⟩ 0 (Lib.countB s ⟨#[47]⟩) s).map (·.data.toList) = sg [] s.data.toList := by
  rw [Lib.splitB_data]
  obtain ⟨h, t, h1, h2⟩ := sg_split s.data.toList []
  rw [h2]
  exact h1
theorem split_len (s : ByteArray) : Lib.countB s ⟨#[47]⟩ + 1 = (sg [] s.data.toList).length := by
  rw [← split_sg, List.length_map]
  exact (Lib.splitB_all ⟨#[47]⟩ (by decide) 0 _ s rfl).symm
theorem split_all (s : ByteArray) : (sg [] s.data.toList).all nameL = (Lib.splitB ⟨#[47]⟩ 0 (Lib.countB s ⟨#[47]⟩) s).all nameB := by
  rw [← split_sg, List.all_map]
  rfl
/-- The names of a path that is read without the two signs ahead: all of them are names. -/
def allN (l : List UInt8) : Bool := (sg [] l).all nameL
def cntN (l : List UInt8) : Nat := (sg [] l).length
def deepL (l : List UInt8) : Bool := Lib.hasPrefix l [47, 47]
def restL (l : List UInt8) : List UInt8 := Lib.trimPrefix l [47, 47]
def routeB (s : ByteArray) : Bool := decide (s.size ≤ 20000) && (decide (cntN (restL s.data.toList) ≤ 6) && allN (restL s.data.toList))
/-- What the specification takes for the rest. -/
def deepS (s : ByteArray) : Bool := decide (2 < s.size) && deepL s.data.toList
def restS (s : ByteArray) : ByteArray := if deepS s = true then s.extract 2 s.size else s
theorem rest_same (s : ByteArray) : (allN (restS s).data.toList = allN (restL s.data.toList)) ∧ (allN (restL s.data.toList) = true → (restS s).data.toList = restL s.data.toList ∧ deepS s = deepL s.data.toList) := by
  obtain ⟨⟨l⟩⟩ := s
  by_cases hd : deepL l = true
  · by_cases hl : 2 < l.length
    · have h1 : deepS ⟨⟨l⟩⟩ = true := by unfold deepS; rw [show (⟨⟨l⟩⟩ : ByteArray).data.toList = l from rfl, hd]; simp [ByteArray.size]; exact hl
      have h2 : (restS ⟨⟨l⟩⟩).data.toList = restL l := by
        unfold restS; rw [if_pos h1]
        unfold restL Lib.trimPrefix
        rw [if_pos (show Lib.hasPrefix l [47, 47] = true from hd)]
        have h3 : (ByteArray.extract ⟨⟨l⟩⟩ 2 (ByteArray.size ⟨⟨l⟩⟩)).data.toList = l.drop 2 := by
          rw [Lib.extract_to_end]
        exact h3
      exact ⟨by rw [h2], fun _ => ⟨h2, h1.trans hd.symm⟩⟩
    · have e : l = [47, 47] := by
        have hp : ([47, 47] : List UInt8) <+: l := List.isPrefixOf_iff_prefix.1 hd
        obtain ⟨r, rfl⟩ := hp
        simp at hl
        subst hl
        rfl
      subst e
      have a1 : allN (restL [47, 47]) = false := by decide
      exact ⟨by decide, fun h => by rw [show (⟨⟨[47, 47]⟩⟩ : ByteArray).data.toList = [47, 47] from rfl, a1] at h; cases h⟩
  · have hd' : deepL l = false := by simpa using hd
    have h1 : deepS ⟨⟨l⟩⟩ = false := by unfold deepS; rw [show (⟨⟨l⟩⟩ : ByteArray).data.toList = l from rfl, hd']; simp
    have h2 : (restS ⟨⟨l⟩⟩).data.toList = restL l := by
      unfold restS; rw [if_neg (by rw [h1]; decide)]
      unfold restL Lib.trimPrefix
      rw [if_neg (show ¬ Lib.hasPrefix l [47, 47] = true from hd)]
    exact ⟨by rw [h2], fun _ => ⟨h2, h1.trans hd'.symm⟩⟩
/-- What is left of the pieces at place k. -/
def tailS (l cur : List UInt8) (k : Nat) : List (List UInt8) := if k ≤ l.length then sg cur (l.drop k) else []
theorem tailS_more {l cur : List UInt8} {k : Nat} {c : UInt8} (hk : l[k]? = some c) (hc : c ≠ 47) : tailS l cur k = tailS l (cur ++ [c]) (k + 1) := by
  have hl : k < l.length := by
    rcases Nat.lt_or_ge k l.length with h | h
    · exact h
    · rw [List.getElem?_eq_none h] at hk; cases hk
  have hc' : l[k] = c := by rw [List.getElem?_eq_getElem hl] at hk; exact Option.some.inj hk
  unfold tailS
  rw [if_pos (by omega), if_pos (by omega), List.drop_eq_getElem_cons hl, hc', sg_more hc]
theorem tailS_sign {l cur : List UInt8} {k : Nat} (hk : l[k]? = some 47) : tailS l cur k = cur :: tailS l [] (k + 1) := by
  have hl : k < l.length := by
    rcases Nat.lt_or_ge k l.length with h | h
    · exact h
    · rw [List.getElem?_eq_none h] at hk; cases hk
  have hc' : l[k] = 47 := by rw [List.getElem?_eq_getElem hl] at hk; exact Option.some.inj hk
  unfold tailS
  rw [if_pos (by omega), if_pos (by omega), List.drop_eq_getElem_cons hl, hc', sg_sign]
theorem tailS_end (l cur : List UInt8) : tailS l cur l.length = [cur] := by
  unfold tailS
  rw [if_pos (Nat.le_refl _), List.drop_length, sg]
theorem tailS_out (l cur : List UInt8) : tailS l cur (l.length + 1) = [] := by
  unfold tailS
  rw [if_neg (by omega)]
theorem tailS_zero (l : List UInt8) : tailS l [] 0 = sg [] l := by
  unfold tailS
  rw [if_pos (Nat.zero_le _), List.drop_zero]
end Go.Proofs.YtdepgkpfibmbgaaGreatDoor

/-
  Plain facts on what a path selects, of no program's run: the elements below one, the kids of a name, rows without two alike, in order.
-/
namespace Go.Proofs.YtdepgkpfibmbgaaGreatDoor
set_option linter.unusedVariables false
set_option linter.unusedSimpArgs false
/-- The elements below x among the first m items. -/
def el (D : Dc) (x : Nat) : Nat → List Int
  | 0 => []
  | m + 1 => if x < m ∧ rc D.U x m = true ∧ (D.NM m).toList.isEmpty = false then el D x m ++ [(m : Int)] else el D x m
theorem el_yes {D : Dc} {x m : Nat} (h : x < m ∧ rc D.U x m = true ∧ (D.NM m).toList.isEmpty = false) : el D x (m + 1) = el D x m ++ [(m : Int)] := by rw [el, if_pos h]
theorem el_no {D : Dc} {x m : Nat} (h : ¬ (x < m ∧ rc D.U x m = true ∧ (D.NM m).toList.isEmpty = false)) : el D x (m + 1) = el D x m := by rw [el, if_neg h]
theorem el_len (D : Dc) (x : Nat) : ∀ m, (el D x m).length ≤ m
  | 0 => Nat.le_refl _
  | m + 1 => by
    have := el_len D x m
    rw [el]
    split
    · simp; omega
    · omega
theorem el_mem {D : Dc} {x : Nat} : ∀ (m : Nat) (j : Int), j ∈ el D x m → (x : Int) < j ∧ j < m
  | 0, j, h => by cases h
  | m + 1, j, h => by
    rw [el] at h
    split at h
    · rename_i hc
      rcases List.mem_append.1 h with h | h
      · have := el_mem m j h; omega
      · simp at h; omega
    · have := el_mem m j h; omega
theorem el_start {D : Dc} {x : Nat} : ∀ m, m ≤ x + 1 → el D x m = []
  | 0, h => rfl
  | m + 1, h => by rw [el_no (by omega), el_start m (by omega)]
theorem el_nodup {D : Dc} {x : Nat} : ∀ m, (el D x m).Nodup
  | 0 => List.nodup_nil
  | m + 1 => by
    rw [el]
    split
    · refine List.nodup_append.2 ⟨el_nodup m, by simp, fun a ha b hb => ?_⟩
      have := el_mem m a ha
      simp at hb
      omega
    · exact el_nodup m
/-- An item that stands behind x, none between them standing above x, is below x. -/
theorem in_below {D : Dc} {n x : Nat} (hg : Good D n) : ∀ (f i : Nat), i < f → x < i → i < n → (∀ j, x < j → j ≤ i → (x : Int) ≤ D.U j) → rc D.U x i = true
  | 0, i, hf, h1, h2, h3 => by omega
  | f + 1, i, hf, h1, h2, h3 => by
    have hd := good_dec n hg
    have hi := h3 i h1 (Nat.le_refl _)
    have hdi := (hd i h2).2
    rw [rc_step D.U x (by omega) (by omega) (fun j hj => (hd j (by omega)).2), show ((i : Int)).toNat = i by omega]
    by_cases e : D.U i = x
    · exact rc_hit D.U x (by omega) e
    · have hk : D.U i = ((D.U i).toNat : Int) := by omega
      rw [hk]
      exact in_below hg f (D.U i).toNat (by omega) (by omega) (by omega) (fun j a b => h3 j a (by omega))
theorem el_rest {D : Dc} {n x e : Nat} (hg : Good D n) (hxe : x < e) (hue : D.U e < x) : ∀ k, e + k ≤ n → el D x (e + k) = el D x e
  | 0, h => rfl
  | k + 1, h => by
    rw [show e + (k + 1) = (e + k) + 1 by omega, el_no (by rw [out_of hg hxe hue k (by omega)]; simp), el_rest hg hxe hue k (by omega)]
/-- The kids of x that have the name nm. -/
def kn (D : Dc) (x : Int) (nm : List UInt8) : List Int := (kd D x D.n).filter fun j => (D.NM j.toNat).data.toList == nm
theorem kd_up {D : Dc} {x : Int} : ∀ (m : Nat) (j : Int), j ∈ kd D x m → D.U j.toNat = x
  | 0, j, h => by cases h
  | m + 1, j, h => by
    rw [kd] at h
    split at h
    · rename_i hc
      rcases List.mem_append.1 h with h | h
      · exact kd_up m j h
      · simp at h; subst h; simpa using hc
    · exact kd_up m j h
theorem kd_nodup {D : Dc} {x : Int} : ∀ m, (kd D x m).Nodup
  | 0 => List.nodup_nil
  | m + 1 => by
    rw [kd]
    split
    · refine List.nodup_append.2 ⟨kd_nodup m, by simp, fun a ha b hb => ?_⟩
      have := kd_mem m a ha
      simp at hb
      omega
    · exact kd_nodup m
theorem kn_mem {D : Dc} {x j : Int} {nm : List UInt8} (h : j ∈ kn D x nm) : (0 ≤ j ∧ j < D.n) ∧ D.U j.toNat = x := by
  have := (List.mem_filter.1 h).1
  exact ⟨kd_mem _ _ this, kd_up _ _ this⟩
theorem kn_nodup (D : Dc) (x : Int) (nm : List UInt8) : (kn D x nm).Nodup := (kd_nodup D.n).filter _
theorem kn_len (D : Dc) (x : Int) (nm : List UInt8) : (kn D x nm).length ≤ D.n := Nat.le_trans (List.length_filter_le _ _) (kd_len D x D.n)
/-- One step of a path from each of some places. -/
def stepS (D : Dc) (L : List Int) (nm : List UInt8) : List Int := L.flatMap fun x => kn D x nm
def InR (D : Dc) (L : List Int) : Prop := ∀ j ∈ L, 0 ≤ j ∧ j < (D.n : Int)
theorem step_in {D : Dc} {L : List Int} {nm : List UInt8} : InR D (stepS D L nm) := by
  intro j hj
  obtain ⟨x, -, hx⟩ := List.mem_flatMap.1 hj
  exact (kn_mem hx).1
theorem step_nodup {D : Dc} {nm : List UInt8} : ∀ {L : List Int}, L.Nodup → (stepS D L nm).Nodup
  | [], _ => List.nodup_nil
  | x :: L, h => by
    have h1 := List.nodup_cons.1 h
    show (kn D x nm ++ stepS D L nm).Nodup
    refine List.nodup_append.2 ⟨kn_nodup D x nm, step_nodup h1.2, fun a ha b hb e => ?_⟩
    subst e
    obtain ⟨y, hy, hb⟩ := List.mem_flatMap.1 hb
    have e1 := (kn_mem ha).2
    have e2 := (kn_mem hb).2
    rw [e1] at e2
    subst e2
    exact h1.1 hy
/-- A row of unlike numbers below n is no longer than n. -/
theorem nodup_len {n : Nat} : ∀ {L : List Int}, L.Nodup → (∀ j ∈ L, 0 ≤ j ∧ j < (n : Int)) → L.length ≤ n := by
  intro L hn hr
  have h : L.Perm (((List.range n).map Int.ofNat).filter fun j => decide (j ∈ L)) := by
    refine (List.perm_ext_iff_of_nodup hn ?_).2 fun j => ?_
    · refine List.Pairwise.filter _ ?_
      exact List.Pairwise.map _ (fun a b hab e => hab (Int.ofNat.inj e)) List.nodup_range
    · rw [List.mem_filter]
      constructor
      · intro hj
        have := hr j hj
        exact ⟨List.mem_map.2 ⟨j.toNat, by rw [List.mem_range]; omega, by show ((j.toNat : Nat) : Int) = j; omega⟩, by simpa using hj⟩
      · rintro ⟨-, h⟩
        simpa using h
  have h2 := h.length_eq
  have h3 := List.length_filter_le (fun j => decide (j ∈ L)) ((List.range n).map Int.ofNat)
  simp at h3
  omega
def sel (D : Dc) (L : List Int) (ps : List (List UInt8)) : List Int := ps.foldl (stepS D) L
theorem sel_take {D : Dc} {L : List Int} {ps : List (List UInt8)} {k : Nat} (h : k < ps.length) : sel D L (ps.take (k + 1)) = stepS D (sel D L (ps.take k)) (ps[k]?.getD []) := by
  unfold sel
  rw [List.take_succ_eq_append_getElem h, List.foldl_append, List.getElem?_eq_getElem h]
  rfl
theorem sel_ok {D : Dc} : ∀ (ps : List (List UInt8)) (L : List Int), L.Nodup → InR D L → (sel D L ps).Nodup ∧ InR D (sel D L ps)
  | [], L, h1, h2 => ⟨h1, h2⟩
  | p :: ps, L, h1, h2 => sel_ok ps (stepS D L p) (step_nodup h1) step_in
/-- In order, each once. -/
def insL (v : Int) : List Int → List Int
  | [] => [v]
  | h :: t => if h < v then h :: insL v t else if h = v then h :: t else v :: h :: t
def srtL (L : List Int) : List Int := L.foldl (fun o v => insL v o) []
theorem insL_mem {v x : Int} : ∀ {l : List Int}, x ∈ insL v l ↔ x = v ∨ x ∈ l
  | [] => by simp [insL]
  | h :: t => by
    rw [insL]
    split
    · rw [List.mem_cons, insL_mem (l := t), List.mem_cons]; constructor <;> (intro h; rcases h with h | h | h <;> simp [h])
    · split
      · rename_i e; subst e; simp
      · simp
theorem insL_sorted {v : Int} : ∀ {l : List Int}, l.Pairwise (· < ·) → (insL v l).Pairwise (· < ·)
  | [], _ => by simp [insL]
  | h :: t, hp => by
    obtain ⟨h1, h2⟩ := List.pairwise_cons.1 hp
    rw [insL]
    split
    · refine List.pairwise_cons.2 ⟨fun x hx => ?_, insL_sorted h2⟩
      rcases insL_mem.1 hx with rfl | hx
      · assumption
      · exact h1 x hx
    · split
      · exact hp
      · refine List.pairwise_cons.2 ⟨fun x hx => ?_, hp⟩
        rcases List.mem_cons.1 hx with rfl | hx
        · omega
        · have := h1 x hx; omega
theorem srt_fold : ∀ (L o : List Int), o.Pairwise (· < ·) → (L.foldl (fun o v => insL v o) o).Pairwise (· < ·) ∧ ∀ x, x ∈ L.foldl (fun o v => insL v o) o ↔ x ∈ L ∨ x ∈ o
  | [], o, h => ⟨h, fun x => by simp⟩
  | v :: L, o, h => by
    obtain ⟨h1, h2⟩ := srt_fold L (insL v o) (insL_sorted h)
    refine ⟨h1, fun x => ?_⟩
    rw [List.foldl_cons, h2 x, insL_mem, List.mem_cons]
    constructor
    · rintro (h | h | h) <;> simp [h]
    · rintro ((h | h) | h) <;> simp [h]
theorem srt_sorted (L : List Int) : (srtL L).Pairwise (· < ·) := (srt_fold L [] List.Pairwise.nil).1
theorem srt_mem (L : List Int) (x : Int) : x ∈ srtL L ↔ x ∈ L := by
  have := (srt_fold L [] List.Pairwise.nil).2 x
  unfold srtL
  simpa using this
theorem lt_nodup {l : List Int} (h : l.Pairwise (· < ·)) : l.Nodup := h.imp fun hab e => by omega
theorem srt_merge {L : List Int} (h : L.Nodup) : L.mergeSort (fun x y => decide (x ≤ y)) = srtL L := by
  have hp : (L.mergeSort fun x y => decide (x ≤ y)).Perm (srtL L) := by
    refine (List.mergeSort_perm _ _).trans ?_
    exact (List.perm_ext_iff_of_nodup h (lt_nodup (srt_sorted L))).2 fun x => (srt_mem L x).symm
  refine List.Perm.eq_of_pairwise (le := fun a b => decide (a ≤ b) = true) (fun a b _ _ h1 h2 => by simp only [decide_eq_true_eq] at h1 h2; omega) (List.pairwise_mergeSort (fun a b c h1 h2 => by simp only [decide_eq_true_eq] at h1 h2 ⊢; omega) (fun a b => by simp only [Bool.or_eq_true, decide_eq_true_eq]; omega) L) ((srt_sorted L).imp fun h => by simp only [decide_eq_true_eq]; omega) hp
theorem srt_len {L : List Int} (h : L.Nodup) : (srtL L).length = L.length := by rw [← srt_merge h, List.length_mergeSort]
/-- What one more number makes of a row in order: k of it stand ahead. -/
theorem insL_at {v : Int} : ∀ {l : List Int} {k : Nat}, k ≤ l.length → (∀ j, j < k → l[j]?.getD 0 < v) → (∀ h : k < l.length, v < l[k]?.getD 0) → insL v l = l.take k ++ v :: l.drop k
  | [], k, hk, h1, h2 => by
    have : k = 0 := by simpa using hk
    subst this; rfl
  | h :: t, 0, hk, h1, h2 => by
    have := h2 (by simp)
    simp at this
    rw [insL, if_neg (by omega), if_neg (by omega)]
    rfl
  | h :: t, k + 1, hk, h1, h2 => by
    have h0 := h1 0 (by omega)
    simp at h0
    rw [insL, if_pos h0, insL_at (l := t) (k := k) (by simpa using hk) (fun j hj => by have := h1 (j + 1) (by omega); simpa using this) (fun hh => by have := h2 (by simpa using hh); simpa using this)]
    rfl
theorem insL_dup {v : Int} : ∀ {l : List Int} {k : Nat}, k < l.length → (∀ j, j < k → l[j]?.getD 0 < v) → l[k]?.getD 0 = v → insL v l = l
  | [], k, hk, h1, h2 => by simp at hk
  | h :: t, 0, hk, h1, h2 => by
    simp at h2
    rw [insL, if_neg (by omega), if_pos h2]
  | h :: t, k + 1, hk, h1, h2 => by
    have h0 := h1 0 (by omega)
    simp at h0
    rw [insL, if_pos h0, insL_dup (l := t) (k := k) (by simpa using hk) (fun j hj => by have := h1 (j + 1) (by omega); simpa using this) (by simpa using h2)]
theorem srt_take {L : List Int} {k : Nat} (h : k < L.length) : srtL (L.take (k + 1)) = insL (L[k]?.getD 0) (srtL (L.take k)) := by
  unfold srtL
  rw [List.take_succ_eq_append_getElem h, List.foldl_append, List.getElem?_eq_getElem h]
  rfl
theorem insL_len (v : Int) : ∀ l : List Int, (insL v l).length ≤ l.length + 1
  | [] => by simp [insL]
  | h :: t => by
    rw [insL]
    split
    · have := insL_len v t; simp; omega
    · split <;> simp
theorem srt_len_le (L : List Int) : ∀ k, k ≤ L.length → (srtL (L.take k)).length ≤ k
  | 0, h => by simp [srtL]
  | k + 1, h => by
    rw [srt_take (by omega)]
    have h1 := insL_len (L[k]?.getD 0) (srtL (L.take k))
    have h2 := srt_len_le L k (by omega)
    omega
end Go.Proofs.YtdepgkpfibmbgaaGreatDoor
