/-
  Texts put together: SelMath, SelI.
-/
import Derived.Test.YtdepgkpfibmbgaaGreatDoorF23
import Derived.Test.YtdepgkpfibmbgaaGreatDoorF3
import Derived.Test.YtdepgkpfibmbgaaGreatDoorF1
/-
  Plain facts on what a path selects, of no program's run: the elements below one, the kids of a name, rows without two alike, in order.
-/
namespace Go.Proofs.YtdepgkpfibmbgaaGreatDoor
set_option linter.unusedVariables false
set_option linter.unusedSimpArgs false
/-- The elements below x among the first m items. -/
def el (D : Dc) (x : Nat) : Nat → List Int
  | 0 => []
  | m + 1 => if x < m ∧ rc D.U x m = true ∧ (D.NM m).toList.isEmpty = false then el D x m ++ [(m : Int)] else el D x m
theorem el_yes {D : Dc} {x m : Nat} (h : x < m ∧ rc D.U x m = true ∧ (D.NM m).toList.isEmpty = false) : el D x (m + 1) = el D x m ++ [(m : Int)] := by rw [el, if_pos h]
theorem el_no {D : Dc} {x m : Nat} (h : ¬ (x < m ∧ rc D.U x m = true ∧ (D.NM m).toList.isEmpty = false)) : el D x (m + 1) = el D x m := by rw [el, if_neg h]
theorem el_len (D : Dc) (x : Nat) : ∀ m, (el D x m).length ≤ m
  | 0 => Nat.le_refl _
  | m + 1 => by
    have := el_len D x m
    rw [el]
    split
    · simp; omega
    · omega
theorem el_mem {D : Dc} {x : Nat} : ∀ (m : Nat) (j : Int), j ∈ el D x m → (x : Int) < j ∧ j < m
  | 0, j, h => by cases h
  | m + 1, j, h => by
    rw [el] at h
    split at h
    · rename_i hc
      rcases List.mem_append.1 h with h | h
      · have := el_mem m j h; omega
      · simp at h; omega
    · have := el_mem m j h; omega
theorem el_start {D : Dc} {x : Nat} : ∀ m, m ≤ x + 1 → el D x m = []
  | 0, h => rfl
  | m + 1, h => by rw [el_no (by omega), el_start m (by omega)]
theorem el_nodup {D : Dc} {x : Nat} : ∀ m, (el D x m).Nodup
  | 0 => List.nodup_nil
  | m + 1 => by
    rw [el]
    split
    · refine List.nodup_append.2 ⟨el_nodup m, by simp, fun a ha b hb => ?_⟩
      have := el_mem m a ha
      simp at hb
      omega
    · exact el_nodup m
/-- An item that stands behind x, none between them standing above x, is below x. -/
theorem in_below {D : Dc} {n x : Nat} (hg : Good D n) : ∀ (f i : Nat), i < f → x < i → i < n → (∀ j, x < j → j ≤ i → (x : Int) ≤ D.U j) → rc D.U x i = true
  | 0, i, hf, h1, h2, h3 => by omega
  | f + 1, i, hf, h1, h2, h3 => by
    have hd := good_dec n hg
    have hi := h3 i h1 (Nat.le_refl _)
    have hdi := (hd i h2).2
    rw [rc_step D.U x (by omega) (by omega) (fun j hj => (hd j (by omega)).2), show ((i : Int)).toNat = i by omega]
    by_cases e : D.U i = x
    · exact rc_hit D.U x (by omega) e
    · have hk : D.U i = ((D.U i).toNat : Int) := by omega
      rw [hk]
      exact in_below hg f (D.U i).toNat (by omega) (by omega) (by omega) (fun j a b => h3 j a (by omega))
theorem el_rest {D : Dc} {n x e : Nat} (hg : Good D n) (hxe : x < e) (hue : D.U e < x) : ∀ k, e + k ≤ n → el D x (e + k) = el D x e
  | 0, h => rfl
  | k + 1, h => by
    rw [show e + (k + 1) = (e + k) + 1 by omega, el_no (by rw [out_of hg hxe hue k (by omega)]; simp), el_rest hg hxe hue k (by omega)]
/-- The kids of x that have the name nm. -/
def kn (D : Dc) (x : Int) (nm : List UInt8) : List Int := (kd D x D.n).filter fun j => (D.NM j.toNat).data.toList == nm
theorem kd_up {D : Dc} {x : Int} : ∀ (m : Nat) (j : Int), j ∈ kd D x m → D.U j.toNat = x
  | 0, j, h => by cases h
  | m + 1, j, h => by
    rw [kd] at h
    split at h
    · rename_i hc
      rcases List.mem_append.1 h with h | h
      · exact kd_up m j h
      · simp at h; subst h; simpa using hc
    · exact kd_up m j h
theorem kd_nodup {D : Dc} {x : Int} : ∀ m, (kd D x m).Nodup
  | 0 => List.nodup_nil
  | m + 1 => by
    rw [kd]
    split
    · refine List.nodup_append.2 ⟨kd_nodup m, by simp, fun a ha b hb => ?_⟩
      have := kd_mem m a ha
      simp at hb
      omega
    · exact kd_nodup m
theorem kn_mem {D : Dc} {x j : Int} {nm : List UInt8} (h : j ∈ kn D x nm) : (0 ≤ j ∧ j < D.n) ∧ D.U j.toNat = x := by
  have := (List.mem_filter.1 h).1
  exact ⟨kd_mem _ _ this, kd_up _ _ this⟩
theorem kn_nodup (D : Dc) (x : Int) (nm : List UInt8) : (kn D x nm).Nodup := (kd_nodup D.n).filter _
theorem kn_len (D : Dc) (x : Int) (nm : List UInt8) : (kn D x nm).length ≤ D.n := Nat.le_trans (List.length_filter_le _ _) (kd_len D x D.n)
/-- One step of a path from each of some places. -/
def stepS (D : Dc) (L : List Int) (nm : List UInt8) : List Int := L.flatMap fun x => kn D x nm
def InR (D : Dc) (L : List Int) : Prop := ∀ j ∈ L, 0 ≤ j ∧ j < (D.n : Int)
theorem step_in {D : Dc} {L : List Int} {nm : List UInt8} : InR D (stepS D L nm) := by
  intro j hj
  obtain ⟨x, -, hx⟩ := List.mem_flatMap.1 hj
  exact (kn_mem hx).1
theorem step_nodup {D : Dc} {nm : List UInt8} : ∀ {L : List Int}, L.Nodup → (stepS D L nm).Nodup
  | [], _ => List.nodup_nil
  | x :: L, h => by
    have h1 := List.nodup_cons.1 h
    show (kn D x nm ++ stepS D L nm).Nodup
    refine List.nodup_append.2 ⟨kn_nodup D x nm, step_nodup h1.2, fun a ha b hb e => ?_⟩
    subst e
    obtain ⟨y, hy, hb⟩ := List.mem_flatMap.1 hb
    have e1 := (kn_mem ha).2
    have e2 := (kn_mem hb).2
    rw [e1] at e2
    subst e2
    exact h1.1 hy
/-- A row of unlike numbers below n is no longer than n. -/
theorem nodup_len {n : Nat} : ∀ {L : List Int}, L.Nodup → (∀ j ∈ L, 0 ≤ j ∧ j < (n : Int)) → L.length ≤ n := by
  intro L hn hr
  have h : L.Perm (((List.range n).map Int.ofNat).filter fun j => decide (j ∈ L)) := by
    refine (List.perm_ext_iff_of_nodup hn ?_).2 fun j => ?_
    · refine List.Pairwise.filter _ ?_
      exact List.Pairwise.map _ (fun a b hab e => hab (Int.ofNat.inj e)) List.nodup_range
    · rw [List.mem_filter]
      constructor
      · intro hj
        have := hr j hj
        exact ⟨List.mem_map.2 ⟨j.toNat, by rw [List.mem_range]; omega, by show ((j.toNat : Nat) : Int) = j; omega⟩, by simpa using hj⟩
      · rintro ⟨-, h⟩
        simpa using h
  have h2 := h.length_eq
  have h3 := List.length_filter_le (fun j => decide (j ∈ L)) ((List.range n).map Int.ofNat)
  simp at h3
  omega
def sel (D : Dc) (L : List Int) (ps : List (List UInt8)) : List Int := ps.foldl (stepS D) L
theorem sel_take {D : Dc} {L : List Int} {ps : List (List UInt8)} {k : Nat} (h : k < ps.length) : sel D L (ps.take (k + 1)) = stepS D (sel D L (ps.take k)) (ps[k]?.getD []) := by
  unfold sel
  rw [List.take_succ_eq_append_getElem h, List.foldl_append, List.getElem?_eq_getElem h]
  rfl
theorem sel_ok {D : Dc} : ∀ (ps : List (List UInt8)) (L : List Int), L.Nodup → InR D L → (sel D L ps).Nodup ∧ InR D (sel D L ps)
  | [], L, h1, h2 => ⟨h1, h2⟩
  | p :: ps, L, h1, h2 => sel_ok ps (stepS D L p) (step_nodup h1) step_in
/-- In order, each once. -/
def insL (v : Int) : List Int → List Int
  | [] => [v]
  | h :: t => if h < v then h :: insL v t else if h = v then h :: t else v :: h :: t
def srtL (L : List Int) : List Int := L.foldl (fun o v => insL v o) []
theorem insL_mem {v x : Int} : ∀ {l : List Int}, x ∈ insL v l ↔ x = v ∨ x ∈ l
  | [] => by simp [insL]
  | h :: t => by
    rw [insL]
    split
    · rw [List.mem_cons, insL_mem (l := t), List.mem_cons]; constructor <;> (intro h; rcases h with h | h | h <;> simp [h])
    · split
      · rename_i e; subst e; simp
      · simp
theorem insL_sorted {v : Int} : ∀ {l : List Int}, l.Pairwise (· < ·) → (insL v l).Pairwise (· < ·)
  | [], _ => by simp [insL]
  | h :: t, hp => by
    obtain ⟨h1, h2⟩ := List.pairwise_cons.1 hp
    rw [insL]
    split
    · refine List.pairwise_cons.2 ⟨fun x hx => ?_, insL_sorted h2⟩
      rcases insL_mem.1 hx with rfl | hx
      · assumption
      · exact h1 x hx
    · split
      · exact hp
      · refine List.pairwise_cons.2 ⟨fun x hx => ?_, hp⟩
        rcases List.mem_cons.1 hx with rfl | hx
        · omega
        · have := h1 x hx; omega
theorem srt_fold : ∀ (L o : List Int), o.Pairwise (· < ·) → (L.foldl (fun o v => insL v o) o).Pairwise (· < ·) ∧ ∀ x, x ∈ L.foldl (fun o v => insL v o) o ↔ x ∈ L ∨ x ∈ o
  | [], o, h => ⟨h, fun x => by simp⟩
  | v :: L, o, h => by
    obtain ⟨h1, h2⟩ := srt_fold L (insL v o) (insL_sorted h)
    refine ⟨h1, fun x => ?_⟩
    rw [List.foldl_cons, h2 x, insL_mem, List.mem_cons]
    constructor
    · rintro (h | h | h) <;> simp [h]
    · rintro ((h | h) | h) <;> simp [h]
theorem srt_sorted (L : List Int) : (srtL L).Pairwise (· < ·) := (srt_fold L [] List.Pairwise.nil).1
theorem srt_mem (L : List Int) (x : Int) : x ∈ srtL L ↔ x ∈ L := by
  have := (srt_fold L [] List.Pairwise.nil).2 x
  unfold srtL
  simpa using this
theorem lt_nodup {l : List Int} (h : l.Pairwise (· < ·)) : l.Nodup := h.imp fun hab e => by omega
theorem srt_merge {L : List Int} (h : L.Nodup) : L.mergeSort (fun x y => decide (x ≤ y)) = srtL L := by
  have hp : (L.mergeSort fun x y => decide (x ≤ y)).Perm (srtL L) := by
    refine (List.mergeSort_perm _ _).trans ?_
    exact (List.perm_ext_iff_of_nodup h (lt_nodup (srt_sorted L))).2 fun x => (srt_mem L x).symm
  refine List.Perm.eq_of_pairwise (le := fun a b => decide (a ≤ b) = true) (fun a b _ _ h1 h2 => by simp only [decide_eq_true_eq] at h1 h2; omega) (List.pairwise_mergeSort (fun a b c h1 h2 => by simp only [decide_eq_true_eq] at h1 h2 ⊢; omega) (fun a b => by simp only [Bool.or_eq_true, decide_eq_true_eq]; omega) L) ((srt_sorted L).imp fun h => by simp only [decide_eq_true_eq]; omega) hp
theorem srt_len {L : List Int} (h : L.Nodup) : (srtL L).length = L.length := by rw [← srt_merge h, List.length_mergeSort]
/-- What one more number makes of a row in order: k of it stand ahead. -/
theorem insL_at {v : Int} : ∀ {l : List Int} {k : Nat}, k ≤ l.length → (∀ j, j < k → l[j]?.getD 0 < v) → (∀ h : k < l.length, v < l[k]?.getD 0) → insL v l = l.take k ++ v :: l.drop k
  | [], k, hk, h1, h2 => by
    have : k = 0 := by simpa using hk
    subst this; rfl
  | h :: t, 0, hk, h1, h2 => by
    have := h2 (by simp)
    simp at this
    rw [insL, if_neg (by omega), if_neg (by omega)]
    rfl
  | h :: t, k + 1, hk, h1, h2 => by
    have h0 := h1 0 (by omega)
    simp at h0
    rw [insL, if_pos h0, insL_at (l := t) (k := k) (by simpa using hk) (fun j hj => by have := h1 (j + 1) (by omega); simpa using this) (fun hh => by have := h2 (by simpa using hh); simpa using this)]
    rfl
theorem insL_dup {v : Int} : ∀ {l : List Int} {k : Nat}, k < l.length → (∀ j, j < k → l[j]?.getD 0 < v) → l[k]?.getD 0 = v → insL v l = l
  | [], k, hk, h1, h2 => by simp at hk
  | h :: t, 0, hk, h1, h2 => by
    simp at h2
    rw [insL, if_neg (by omega), if_pos h2]
  | h :: t, k + 1, hk, h1, h2 => by
    have h0 := h1 0 (by omega)
    simp at h0
    rw [insL, if_pos h0, insL_dup (l := t) (k := k) (by simpa using hk) (fun j hj => by have := h1 (j + 1) (by omega); simpa using this) (by simpa using h2)]
theorem srt_take {L : List Int} {k : Nat} (h : k < L.length) : srtL (L.take (k + 1)) = insL (L[k]?.getD 0) (srtL (L.take k)) := by
  unfold srtL
  rw [List.take_succ_eq_append_getElem h, List.foldl_append, List.getElem?_eq_getElem h]
  rfl
theorem insL_len (v : Int) : ∀ l : List Int, (insL v l).length ≤ l.length + 1
  | [] => by simp [insL]
  | h :: t => by
    rw [insL]
    split
    · have := insL_len v t; simp; omega
    · split <;> simp
theorem srt_len_le (L : List Int) : ∀ k, k ≤ L.length → (srtL (L.take k)).length ≤ k
  | 0, h => by simp [srtL]
  | k + 1, h => by
    rw [srt_take (by omega)]
    have h1 := insL_len (L[k]?.getD 0) (srtL (L.take k))
    have h2 := srt_len_le L k (by omega)
    omega
end Go.Proofs.YtdepgkpfibmbgaaGreatDoor

/-
  Contracts: the elements below an element, the kids of a name (the program's).
-/
namespace Go.Proofs.YtdepgkpfibmbgaaGreatDoor
open Go.RowKit
set_option linter.unusedVariables false
set_option linter.unusedSimpArgs false
/-- A row of numbers in memory of one's own. -/
def IntR (B : Nat) (w : World) (ad : Option Addr) (c : Nat) (L : List Int) : Prop := w.ownsRow B 2 1 (.slice ad L.length c) L.length (L.map (Value.int .i64))
theorem intR_nil (B : Nat) (w : World) : IntR B w none 0 [] := ⟨rfl, .inl ⟨rfl, rfl⟩⟩
theorem intR_put {B : Nat} {w2 : World} {ad : Option Addr} {c : Nat} {L : List Int} {z : Int} (h : w2.ownsRow B 2 1 (.slice ad (L.length + 1) c) (L.length + 1) (L.map (Value.int .i64) ++ [.int .i64 z])) : IntR B w2 ad c (L ++ [z]) := by
  unfold IntR
  rw [List.length_append, List.length_singleton, List.map_append]
  exact h
set_option maxRecDepth 100000 in
set_option maxHeartbeats 2000000 in
theorem i_elementsFrom (D : Dc) (n b off cap : Nat) (w : World) (x : Nat) (hD : D.n = n) (hn : n ≤ 200) (hx : x < n) (hbs : b < w.heap.size) (hr : DcRow w b off D w.heap.size) (hg : Good D n) :
    Calls Tryz.prog 57 #[.slice (some ⟨b, off, none⟩) n cap, .int .i64 x] w fun e w' => ∃ ad c, e = .returned (.slice ad ((x : Int) :: el D x n).length c) ∧ IntR w.heap.size w' ad c ((x : Int) :: el D x n) ∧ Below w.heap.size w w' := by
  obtain ⟨i0, hi, hz0, hz1, hz2⟩ := info_parts info64
  have HD := hide hD
  have HR := hide hr
  have HG := hide hg
  have hxn : (x : Int) < (n : Int) := by omega
  clear hr hD hg
  go_enter Tryz.func57, Tryz.ntmps57
  go_wp2
  go_loopw [5, 6] (fun v iv wr => ∃ (i : Nat) (ad : Option Addr) (c : Nat), x + 1 ≤ i ∧ i ≤ n ∧ iv = .int .i64 i ∧ v = .slice ad ((x : Int) :: el D x i).length c ∧ IntR w.heap.size wr ad c ((x : Int) :: el D x i) ∧ Below w.heap.size w wr ∧ Hid (∀ j, x < j → j < i → (x : Int) ≤ D.U j)) (fun _ iv _ => n - (intOf iv).toNat)
  case atStart =>
    have e : el D x (x + 1) = [] := el_start (x + 1) (Nat.le_refl _)
    refine ⟨x + 1, some ⟨w.heap.size, 0, none⟩, 1, Nat.le_refl _, by omega, by go_num, by rw [e]; rfl, ?_, (Below.refl _ _).alloc (Nat.le_refl _) _, hide (fun j h1 h2 => by omega)⟩
    rw [e]
    exact ⟨rfl, .inr ⟨w.heap.size, 1, #[.int .i64 (x : Int)], rfl, Nat.le_refl _, heap_alloc_new w _, Nat.le_refl _, by unfold maxLen; omega, rfl, rfl⟩⟩
  case round =>
    obtain ⟨i, ad, c, hi1, hi2, rfl, rfl, ho, hb, HU⟩ := hrel
    have HO := hide ho
    have HB := hide hb
    have hkl := el_len D x i
    have hsz : w.heap.size ≤ wr.heap.size := hb.size
    by_cases hlt : i < n
    · obtain ⟨ad9, cp9, hc9, -⟩ := HR.out i (by rw [HD.out]; omega)
      obtain ⟨c0, c1, c2, c3⟩ := dcCells_go hc9 hbs hb
      have hin : (i : Int) < (n : Int) := by omega
      have hi00 : (0 : Int) ≤ (i : Int) := by omega
      clear hc9 ho hb
      by_cases hge : (x : Int) ≤ D.U i
      · have HU2 : Hid (∀ j, x < j → j < i + 1 → (x : Int) ≤ D.U j) := hide (fun j h1 h2 => by
          by_cases e : j = i
          · subst e; exact hge
          · exact HU.out j h1 (by omega))
        have HRC := hide (in_below HG.out (i + 1) i (by omega) (by omega) hlt (fun j h1 h2 => HU2.out j h1 (by omega)))
        cases hE : (D.NM i).toList.isEmpty
        · have HE := hide (el_yes (D := D) ⟨(by omega : x < i), HRC.out, hE⟩)
          obtain ⟨L, hL⟩ : ∃ L, el D x i = L := ⟨_, rfl⟩
          rw [hL] at HE HO hkl ⊢
          clear hL
          obtain ⟨M, hM⟩ : ∃ M, (x : Int) :: L = M := ⟨_, rfl⟩
          have hMl : M.length ≤ 201 := by rw [← hM, List.length_cons]; omega
          rw [hM] at HO ⊢
          have HM := hide hM
          clear hM
          go_wp2_with (at_builtin; refine wpList_append_own _ rfl (.tmp 32) (.tmp 34) 33 rfl w.heap.size 2 i0 (.int .i64 0) 1 8 Tryz.underlying33 hi hz0 hz1 hz2 rfl (by decide) _ _ _ rfl (HO.out.alloc _) ⟨wr.heap.size, 0, none⟩ 1 1 [.int .i64 (i : Int)] rfl rfl (fun j u hj => gOne_new wr _ _ j u hj) (gOne_list _ _) (by unfold maxLen; omega) (by omega) (by simp; omega) ?_; intro v2 w2 hown2 hgrow2 _; obtain ⟨ad2, c2', hv2⟩ := gOwn_shape hown2; rw [hv2] at hown2 ⊢; clear hv2; have HB3 := hide (gBelow_one HB.out HO.out hgrow2); have HO2 := hide hown2; clear hown2 hgrow2)
          go_roundw
          case rel =>
            have e : (x : Int) :: el D x (i + 1) = M ++ [(i : Int)] := by rw [HE.out, ← HM.out]; rfl
            refine ⟨i + 1, ad2, c2', by omega, by omega, by go_num, ?_, ?_, HB3.out, HU2⟩
            · rw [e, List.length_append, List.length_singleton]
            · rw [e]; exact intR_put HO2.out
          case measure => simp [intOf]; omega
        · have HE := hide (el_no (D := D) (x := x) (m := i) (by rw [hE]; simp))
          go_wp2
          go_roundw
          case rel => exact ⟨i + 1, ad, c, by omega, by omega, by go_num, by rw [HE.out], by rw [HE.out]; exact HO.out, HB.out, HU2⟩
          case measure => simp [intOf]; omega
      · have e : el D x n = el D x i := by
          have := el_rest HG.out (show x < i by omega) (by omega) (n - i) (by omega)
          rw [show i + (n - i) = n by omega] at this
          exact this
        have HE := hide e
        have hlo : D.U i < (x : Int) := by omega
        clear e hge
        go_wp2
        go_ret
        exact ⟨ad, c, by rw [HE.out]; rfl, by rw [HE.out]; exact HO.out, HB.out⟩
    · have hin : i = n := by omega
      subst hin
      go_wp2
      go_ret
      exact ⟨ad, c, rfl, ho, hb⟩
theorem kn_take (D : Dc) (L : List Int) (nm : List UInt8) (j : Nat) (h : j < L.length) : ((L.take (j + 1)).filter fun i => (D.NM i.toNat).data.toList == nm) = ((L.take j).filter fun i => (D.NM i.toNat).data.toList == nm) ++ (if ((D.NM (L[j]?.getD 0).toNat).data.toList == nm) = true then [L[j]?.getD 0] else []) := by
  rw [List.take_succ_eq_append_getElem h, List.filter_append, List.getElem?_eq_getElem h]
  congr 1
  rw [List.filter_cons]
  simp only [Option.getD_some, List.filter_nil]
set_option maxRecDepth 100000 in
set_option maxHeartbeats 2000000 in
theorem i_kidsNamed (D : Dc) (n b off cap : Nat) (w : World) (x : Nat) (nm : ByteArray) (hD : D.n = n) (hn : n ≤ 200) (hx : x < n) (hbs : b < w.heap.size) (hr : DcRow w b off D w.heap.size) (hg : Good D n) :
    Calls Tryz.prog 58 #[.slice (some ⟨b, off, none⟩) n cap, .int .i64 x, .string nm] w fun e w' => ∃ ad c, e = .returned (.slice ad (kn D x nm.data.toList).length c) ∧ IntR w.heap.size w' ad c (kn D x nm.data.toList) ∧ Below w.heap.size w w' := by
  obtain ⟨i0, hi, hz0, hz1, hz2⟩ := info_parts info64
  have HR := hide hr
  have CK := hide (i_kidsBelow D n b off cap w x hD hn hx hbs hr hg)
  have hmem := kd_mem (D := D) (x := (x : Int)) n
  have hlen := kd_len D x n
  have hkn : kn D x nm.data.toList = (kd D x n).filter fun i => (D.NM i.toNat).data.toList == nm.data.toList := by unfold kn; rw [hD]
  rw [hkn]
  have HD := hide hD
  obtain ⟨L, hL⟩ : ∃ L, kd D x n = L := ⟨_, rfl⟩
  rw [hL] at CK hmem hlen ⊢
  have HM := hide hmem
  clear hr hD hg hkn hmem hL
  go_enter Tryz.func58, Tryz.ntmps58
  go_wp2_with fail
  refine CK.out.mono ?_
  rintro e w1 ⟨ad, c, rfl, ho, hb⟩
  have HRA := hide (own_rowAt' rfl ho)
  have HB1 := hide hb
  clear ho hb CK
  go_wp2
  go_loopw [7, 14] (fun v iv wr => ∃ (j : Nat) (ad2 : Option Addr) (c2 : Nat), j ≤ L.length ∧ iv = .int .i64 j ∧ v = .slice ad2 ((L.take j).filter fun i => (D.NM i.toNat).data.toList == nm.data.toList).length c2 ∧ IntR w1.heap.size wr ad2 c2 ((L.take j).filter fun i => (D.NM i.toNat).data.toList == nm.data.toList) ∧ Below w1.heap.size w1 wr) (fun _ iv _ => L.length - (intOf iv).toNat)
  case atStart => exact ⟨0, none, 0, Nat.zero_le _, rfl, rfl, intR_nil _ _, Below.refl _ _⟩
  case round =>
    obtain ⟨j, ad2, c2, hj, rfl, rfl, ho, hb⟩ := hrel
    have HO := hide ho
    have HB := hide hb
    have hsz : w1.heap.size ≤ wr.heap.size := hb.size
    by_cases hlt : j < L.length
    · obtain ⟨b9, off9, rfl, hb9, hc9⟩ := HRA.out (fun h => by rw [h] at hlt; exact absurd hlt (Nat.not_lt_zero _))
      have k0 := (hb.cell (p := ⟨b9, off9 + j, none⟩) hb9).trans (hc9 j hlt)
      have HKT := hide (kn_take D L nm.data.toList j hlt)
      obtain ⟨v, hv⟩ : ∃ v, L[j]?.getD 0 = v := ⟨_, rfl⟩
      have hvm := HM.out v (by rw [← hv, List.getElem?_eq_getElem hlt]; exact List.getElem_mem hlt)
      rw [hv] at k0 HKT
      have hwb : Below w.heap.size w wr := HB1.out.trans (hb.mono HB1.out.size)
      obtain ⟨ad8, cp8, hc8, -⟩ := HR.out v.toNat (by rw [HD.out]; omega)
      obtain ⟨c0, c1, c2', c3⟩ := dcCells_go hc8 hbs hwb
      have hjl : (j : Int) < (L.length : Int) := by omega
      have hvn : v < (n : Int) := by omega
      have hv0 : 0 ≤ v := by omega
      obtain ⟨F, hF⟩ : ∃ F, ((L.take j).filter fun i => (D.NM i.toNat).data.toList == nm.data.toList) = F := ⟨_, rfl⟩
      have hFl : F.length ≤ j := by rw [← hF]; exact Nat.le_trans (List.length_filter_le _ _) (by rw [List.length_take]; omega)
      rw [hF] at HO HKT ⊢
      obtain ⟨NV, hNV⟩ : ∃ NV, D.NM v.toNat = NV := ⟨_, rfl⟩
      rw [hNV] at HKT c1
      clear hc9 hv hc8 hF hNV ho hb hwb
      cases hq : (NV.toList == nm.toList)
      · have HE : Hid (((L.take (j + 1)).filter fun i => (D.NM i.toNat).data.toList == nm.data.toList) = F) := hide (by
          rw [HKT.out, if_neg (by rw [ByteArray.toList_eq, ByteArray.toList_eq] at hq; rw [hq]; decide), List.append_nil])
        go_wp2
        go_roundw
        case rel => exact ⟨j + 1, ad2, c2, by omega, by go_num, by rw [HE.out], by rw [HE.out]; exact HO.out, HB.out⟩
        case measure => simp [intOf]; omega
      · have HE : Hid (((L.take (j + 1)).filter fun i => (D.NM i.toNat).data.toList == nm.data.toList) = F ++ [v]) := hide (by
          rw [HKT.out, if_pos (by rw [ByteArray.toList_eq, ByteArray.toList_eq] at hq; exact hq)])
        go_wp2_with (at_builtin; refine wpList_append_own _ rfl (.tmp 25) (.tmp 27) 33 rfl w1.heap.size 2 i0 (.int .i64 0) 1 8 Tryz.underlying33 hi hz0 hz1 hz2 rfl (by decide) _ _ _ rfl (HO.out.alloc _) ⟨wr.heap.size, 0, none⟩ 1 1 [.int .i64 v] rfl rfl (fun j u hj => gOne_new wr _ _ j u hj) (gOne_list _ _) (by unfold maxLen; omega) (by omega) (by simp; omega) ?_; intro v2 w2 hown2 hgrow2 _; obtain ⟨ad3, c3', hv2⟩ := gOwn_shape hown2; rw [hv2] at hown2 ⊢; clear hv2; have HB3 := hide (gBelow_one HB.out HO.out hgrow2); have HO2 := hide hown2; clear hown2 hgrow2)
        go_roundw
        case rel =>
          refine ⟨j + 1, ad3, c3', by omega, by go_num, ?_, ?_, HB3.out⟩
          · rw [HE.out, List.length_append, List.length_singleton]
          · rw [HE.out]; exact intR_put HO2.out
        case measure => simp [intOf]; omega
    · have hjn : j = L.length := by omega
      subst hjn
      rw [List.take_length] at ho ⊢
      have HO2 := hide ho
      clear ho
      go_wp2
      go_ret
      exact ⟨ad2, c2, rfl, gOwn_lower HO2.out HB1.out.size, HB1.out.trans (HB.out.mono HB1.out.size)⟩
end Go.Proofs.YtdepgkpfibmbgaaGreatDoor
