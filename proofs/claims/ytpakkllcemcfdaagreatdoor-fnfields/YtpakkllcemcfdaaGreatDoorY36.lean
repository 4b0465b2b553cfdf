/-
  Texts put together: WwM, FfM.
-/
import Derived.Test.YtpakkllcemcfdaaGreatDoorY30
import Derived.Test.YtpakkllcemcfdaaGreatDoorY35
/-
  Plain facts: what joined words look like; words of joined words; blanks made one kind twice.
-/
namespace Go.Proofs.YtpakkllcemcfdaaGreatDoor
set_option linter.unusedVariables false
set_option linter.unusedSimpArgs false
def WOk (W : List (List UInt8)) : Prop := ∀ x ∈ W, x ≠ [] ∧ ∀ c ∈ x, blB c = false
theorem wd_ok : ∀ (l cur : List UInt8), (∀ c ∈ cur, blB c = false) → WOk (wdB cur l)
  | [], cur, h => by
    unfold wdB
    by_cases e : cur = []
    · rw [if_pos e]; intro x hx; cases hx
    · rw [if_neg e]; intro x hx; rw [List.mem_singleton] at hx; subst hx; exact ⟨e, h⟩
  | c :: l, cur, h => by
    rw [wdB]
    by_cases hb : blB c = true
    · rw [if_pos hb]
      have ih := wd_ok l [] (fun c hc => by cases hc)
      by_cases e : cur = []
      · rw [if_pos e]; exact ih
      · rw [if_neg e]
        intro x hx
        rcases List.mem_cons.1 hx with rfl | hx
        · exact ⟨e, h⟩
        · exact ih x hx
    · rw [if_neg hb]
      exact wd_ok l (cur ++ [c]) (fun d hd => by
        rcases List.mem_append.1 hd with hd | hd
        · exact h d hd
        · rw [List.mem_singleton] at hd; subst hd; simpa using hb)
theorem join_cons2 (x y : List UInt8) (r : List (List UInt8)) : Lib.join (x :: y :: r) [32] = x ++ 32 :: Lib.join (y :: r) [32] := by
  rw [Lib.join_cons, Lib.join_cons]
  simp [Lib.joinTail]
theorem wd_join : ∀ (W : List (List UInt8)), WOk W → wdB [] (Lib.join W [32]) = W
  | [], _ => rfl
  | [x], h => by
    rw [Lib.join_one]
    obtain ⟨h1, h2⟩ := h x (List.mem_cons_self ..)
    have := wd_run x [] [] h2
    rw [List.append_nil, List.nil_append] at this
    rw [this, wdB, if_neg h1]
  | x :: y :: r, h => by
    obtain ⟨h1, h2⟩ := h x (List.mem_cons_self ..)
    have ih := wd_join (y :: r) (fun z hz => h z (List.mem_cons_of_mem _ hz))
    rw [join_cons2, wd_run x [] _ h2, List.nil_append, wdB, if_pos (by decide), if_neg h1, ih]
theorem wd_re : ∀ (l cur : List UInt8), wdB cur (reB l) = wdB cur l
  | [], cur => rfl
  | c :: l, cur => by
    have e : reB (c :: l) = (if blB c = true then 32 else c) :: reB l := rfl
    rw [e, wdB, wdB]
    by_cases hb : blB c = true
    · rw [if_pos hb, if_pos (by decide), if_pos hb, wd_re l []]
    · rw [if_neg hb, if_neg hb, if_neg hb, wd_re l (cur ++ [c])]
theorem re_re (l : List UInt8) : reB (reB l) = reB l := by
  unfold reB
  rw [List.map_map]
  apply List.map_congr_left
  intro c _
  by_cases hb : blB c = true
  · simp only [Function.comp, if_pos hb]; rfl
  · simp only [Function.comp, if_neg hb]
/-- A text whose blanks are single, and inside. -/
def GoodT (t : List UInt8) : Prop := ∀ (i : Nat) (c : UInt8), t[i]? = some c → blB c = true → c = 32 ∧ 0 < i ∧ i + 1 < t.length ∧ ∀ d, t[i - 1]? = some d → blB d = false
theorem good_join : ∀ (W : List (List UInt8)), WOk W → GoodT (Lib.join W [32]) ∧ (W ≠ [] → 0 < (Lib.join W [32]).length)
  | [], _ => ⟨fun i c h => by simp [Lib.join_nil] at h, fun h => absurd rfl h⟩
  | [x], h => by
    rw [Lib.join_one]
    obtain ⟨h1, h2⟩ := h x (List.mem_cons_self ..)
    refine ⟨fun i c hc hb => ?_, fun _ => List.length_pos_iff.2 h1⟩
    have := h2 c (List.mem_of_getElem? hc)
    rw [this] at hb
    cases hb
  | x :: y :: r, h => by
    obtain ⟨h1, h2⟩ := h x (List.mem_cons_self ..)
    obtain ⟨ih, ih2⟩ := good_join (y :: r) (fun z hz => h z (List.mem_cons_of_mem _ hz))
    have hl := ih2 (by simp)
    rw [join_cons2]
    obtain ⟨t, ht⟩ : ∃ t, Lib.join (y :: r) [32] = t := ⟨_, rfl⟩
    rw [ht] at ih hl ⊢
    have hx := List.length_pos_iff.2 h1
    refine ⟨fun i c hc hb => ?_, fun _ => by simp; omega⟩
    by_cases e : i < x.length
    · rw [List.getElem?_append_left e] at hc
      have := h2 c (List.mem_of_getElem? hc)
      rw [this] at hb
      cases hb
    · rw [List.getElem?_append_right (by omega)] at hc
      by_cases e2 : i = x.length
      · subst e2
        simp at hc
        refine ⟨hc.symm, hx, by simp; omega, fun d hd => ?_⟩
        rw [List.getElem?_append_left (by omega)] at hd
        exact h2 d (List.mem_of_getElem? hd)
      · obtain ⟨j, hj⟩ : ∃ j, i - x.length = j + 1 := ⟨i - x.length - 1, by omega⟩
        rw [hj, List.getElem?_cons_succ] at hc
        obtain ⟨g1, g2, g3, g4⟩ := ih j c hc hb
        refine ⟨g1, by omega, by simp; omega, fun d hd => ?_⟩
        rw [List.getElem?_append_right (by omega)] at hd
        obtain ⟨m, hm⟩ : ∃ m, j = m + 1 := ⟨j - 1, by omega⟩
        have e3 : i - 1 - x.length = m + 1 := by omega
        rw [e3, List.getElem?_cons_succ] at hd
        exact g4 d (by rw [hm]; exact hd)
theorem jn_good (s : ByteArray) : GoodT (jnB s).data.toList := (good_join _ (wd_ok s.data.toList [] (fun c hc => by cases hc))).1
theorem wh_idem (s : ByteArray) (i : Int) : whB (whB s i) i = whB s i := by
  by_cases h1 : i = 1
  · subst h1
    show (⟨(reB (reB s.data.toList)).toArray⟩ : ByteArray) = ⟨(reB s.data.toList).toArray⟩
    rw [re_re]
  · by_cases h2 : i = 2
    · subst h2
      show (⟨(Lib.join (wdB [] (Lib.join (wdB [] s.data.toList) [32])) [32]).toArray⟩ : ByteArray) = ⟨(Lib.join (wdB [] s.data.toList) [32]).toArray⟩
      rw [wd_join _ (wd_ok s.data.toList [] (fun c hc => by cases hc))]
    · unfold whB
      simp only [if_neg h1, if_neg h2]
theorem wh_both (s : ByteArray) : whB (whB s 1) 2 = jnB s := by
  show (⟨(Lib.join (wdB [] (reB s.data.toList)) [32]).toArray⟩ : ByteArray) = _
  rw [wd_re]
  rfl
theorem wh_len (s : ByteArray) : (whB s 1).size = s.size := by
  show (reB s.data.toList).toArray.size = s.data.size
  simp [reB]
theorem wh_size (s : ByteArray) (i : Int) (h : s.size ≤ 14) : (whB s i).size ≤ 100 := by
  by_cases h1 : i = 1
  · subst h1
    rw [wh_len]
    omega
  · by_cases h2 : i = 2
    · subst h2
      show (Lib.join (wdB [] s.data.toList) [32]).toArray.size ≤ 100
      rw [List.size_toArray]
      have h3 := join_totW [32] rfl (wdB [] s.data.toList)
      have h4 := tot_wd s.data.toList []
      have h5 : s.data.toList.length = s.size := by simp
      simp only [List.length_nil] at h4
      omega
    · unfold whB
      rw [if_neg h1, if_neg h2]
      omega
end Go.Proofs.YtpakkllcemcfdaaGreatDoor

/-
  What a field says of an element, looked at from the law's side. No step of the program in this text.
-/
namespace Go.Proofs.YtpakkllcemcfdaaGreatDoor
open Go.RowKit
set_option linter.unusedVariables false
set_option linter.unusedSimpArgs false
theorem foA_2 (l : List ByteArray) : (foA l).2 = (l.length : Int) := by
  unfold foA
  split
  · rename_i h; rw [h]; rfl
  · rfl
theorem foA_many {l : List ByteArray} (h : (foA l).2 ≠ 1) : (foA l).1 = ⟨#[]⟩ := by
  unfold foA at h ⊢
  split
  · rename_i h2; rw [if_pos h2] at h; exact absurd rfl h
  · rfl
theorem fo_many {D : Dc} {x : Int} {s : ByteArray} (h : (foV D x s).2 ≠ 1) : (foV D x s).1 = ⟨#[]⟩ := by
  unfold foV at h ⊢
  split
  · rfl
  · rename_i q hq
    rw [hq] at h
    dsimp only at h
    split
    · rename_i ht
      rw [if_pos ht] at h
      exact foA_many h
    · rfl
theorem wh_none : whB ⟨#[]⟩ 2 = ⟨#[]⟩ := rfl
theorem foA_white (l : List ByteArray) : whB (foA l).1 2 = (foA l).1 := by
  unfold foA
  split
  · rename_i h
    show whB (lstW l) 2 = lstW l
    unfold lstW
    split
    · exact wh_none
    · exact wh_idem _ 2
  · exact wh_none
theorem fo_white (D : Dc) (x : Int) (s : ByteArray) : whB (foV D x s).1 2 = (foV D x s).1 := by
  unfold foV
  split
  · exact wh_none
  · split
    · exact foA_white _
    · exact wh_none
theorem fo_ok {D : Dc} {x : Int} {s : ByteArray} (h : ¬ (foV D x s).2 < 0) : txOk D x = true := by
  cases ht : txOk D x
  · rw [fo_out ht] at h
    exact absurd (by decide : (-1 : Int) < 0) h
  · rfl
theorem fo_dot {D : Dc} {x : Int} {s : ByteArray} (h : ¬ (foV D x s).2 < 0) (hs : s.data.toList = [46]) : foV D x s = (whB (txV D x) 2, 1) := by
  have ht := fo_ok h
  obtain ⟨-, -, -, hx0, hx1⟩ := tx_factsF ht
  rw [fo_some (q := ([], [])) (by rw [hs]; rfl) ht]
  dsimp only
  rw [st_no, sel_nil, srt_one]
  have e : vlL D ⟨#[]⟩ [((x.toNat : Nat) : Int)] = [txF D x D.n] := by
    unfold vlL vlA
    simp only [List.flatMap_cons, List.flatMap_nil, List.append_nil]
    rw [if_pos (by rw [ByteArray.toList_eq]; rfl), Int.toNat_natCast, Int.toNat_of_nonneg hx0]
  show foA (vlL D ⟨#[]⟩ [((x.toNat : Nat) : Int)]) = _
  rw [e]
  unfold foA txV
  rw [if_pos (show [txF D x D.n].length = 1 from rfl), if_pos ht, lst_one]
theorem fo_at {D : Dc} {x : Int} {s : ByteArray} {r : List UInt8} (h : ¬ (foV D x s).2 < 0) (hs : s.data.toList = 64 :: r) : foV D x s = foA (mtA D x.toNat ⟨r.toArray⟩ (D.AC x.toNat)) := by
  have ht := fo_ok h
  obtain ⟨-, -, -, hx0, hx1⟩ := tx_factsF ht
  have hc : ct1 64 (64 :: r) = ([], r, true) := by rw [ct1, if_pos rfl]
  have h0 : (64 :: r : List UInt8) ≠ [46] := fun e => by simp at e
  cases hn : nameL r
  · have hf : fld s.data.toList = none := by rw [hs]; unfold fld; rw [if_neg h0, hc]; simp only [if_true]; rw [if_neg (by rw [hn]; decide)]
    rw [fo_none hf] at h
    exact absurd (by decide : (-1 : Int) < 0) h
  · have hf : fld s.data.toList = some ([], r) := by rw [hs]; unfold fld; rw [if_neg h0, hc]; simp only [if_true]; rw [if_pos hn]
    have hr : r ≠ [] := fun e => by subst e; exact absurd hn (by decide)
    rw [fo_some hf ht]
    dsimp only
    rw [st_no, sel_nil, srt_one]
    congr 1
    unfold vlL vlA
    simp only [List.flatMap_cons, List.flatMap_nil, List.append_nil]
    rw [Int.toNat_natCast, if_neg]
    intro he
    apply hr
    have h9 : (⟨r.toArray⟩ : ByteArray).toList = r := by
      rw [ByteArray.toList_eq]
    rw [h9] at he
    simpa using he
theorem ff_hit {D : Dc} {p i : Nat} {A : ByteArray} (h : docokB D = true) (hp : p < D.n) (hi : i < D.AC p) (he : ((D.AN p i).toList == A.toList) = true) : mtA D p A (D.AC p) = [D.AV p i] := by
  refine mt_one h hp hi he (fun j hj => ?_)
  have h3 := (att_facts h hp).2 i hi j hj
  cases hx : ((D.AN p j).toList == A.toList)
  · rfl
  · rw [beq_iff_eq] at hx he
    rw [hx, ← he] at h3
    simp at h3
theorem val_2500 {D : Dc} (h : docokB D = true) {A v : ByteArray} {p : Nat} (hp : p < D.n) (hv : v ∈ vlA D A p) : v.size ≤ 2500 := by
  have h1 := (docok_facts h).2.2
  unfold vlA at hv
  split at hv
  · simp at hv
    rw [hv]
    have := txF_size D p D.n
    omega
  · obtain ⟨j, hj, rfl⟩ := mt_mem _ hv
    have h2 := sumN_at (szD D) hp
    have h3 := sumN_at (atSz (D.AN p) (D.AV p)) hj
    have h4 : szD D p = (D.NM p).size + (D.TX p).size + sumN (atSz (D.AN p) (D.AV p)) (D.AC p) := rfl
    have h5 : atSz (D.AN p) (D.AV p) j = (D.AN p j).size + (D.AV p j).size := rfl
    omega
theorem jn_size (s : ByteArray) : (whB s 2).size ≤ s.size + 1 := by
  show (Lib.join (wdB [] s.data.toList) [32]).toArray.size ≤ s.size + 1
  rw [List.size_toArray]
  have h3 := join_totW [32] rfl (wdB [] s.data.toList)
  have h4 := tot_wd s.data.toList []
  have h5 : s.data.toList.length = s.size := by simp
  simp only [List.length_nil] at h4
  omega
theorem lst_size {l : List ByteArray} (h : ∀ v ∈ l, v.size ≤ 2500) : (lstW l).size ≤ 2501 := by
  unfold lstW
  split
  · show 0 ≤ 2501; omega
  · rename_i v hv
    have h1 := h v (List.mem_of_getLast? hv)
    have h2 := jn_size v
    omega
theorem foA_size {l : List ByteArray} (h : ∀ v ∈ l, v.size ≤ 2500) : (foA l).1.size ≤ 2501 := by
  unfold foA
  split
  · exact lst_size h
  · show 0 ≤ 2501; omega
theorem fo_size (D : Dc) (x : Int) (s : ByteArray) : (foV D x s).1.size ≤ 2501 := by
  unfold foV
  split
  · show 0 ≤ 2501; omega
  · rename_i q hq
    split
    · rename_i ht
      obtain ⟨hdk, hn, -, hx0, hx1⟩ := tx_factsF ht
      refine foA_size (fun v hv => ?_)
      unfold vlL at hv
      obtain ⟨p, hp, hv2⟩ := List.mem_flatMap.1 hv
      have hr := (pl_facts (D := D) (x := x.toNat) (n := D.n) rfl hn (by omega) q.1).2 p hp
      exact val_2500 hdk (by omega) hv2
    · show 0 ≤ 2501; omega
end Go.Proofs.YtpakkllcemcfdaaGreatDoor
