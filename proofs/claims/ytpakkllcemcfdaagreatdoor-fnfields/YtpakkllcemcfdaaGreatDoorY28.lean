/-
  Texts put together: WhU, FoM.
-/
import Derived.Test.YtpakkllcemcfdaaGreatDoorY27
import Derived.Test.YtpakkllcemcfdaaGreatDoorY21
import Derived.Test.YtpakkllcemcfdaaGreatDoorY12
import Derived.Test.YtpakkllcemcfdaaGreatDoorY22
import Derived.Test.YtpakkllcemcfdaaGreatDoorY13
/-
  spec.White, whole.
-/
namespace Go.Proofs.YtpakkllcemcfdaaGreatDoor
open Go.RowKit
set_option linter.unusedVariables false
set_option linter.unusedSimpArgs false
/-- The words with one blank between them. -/
def jnB (s : ByteArray) : ByteArray := ⟨(Lib.join (wdB [] s.data.toList) [32]).toArray⟩
/-- What White answers. -/
def whB (s : ByteArray) (i : Int) : ByteArray := if i = 1 then ⟨(reB s.data.toList).toArray⟩ else if i = 2 then jnB s else s
theorem ws_cells {B : Nat} {w : World} {ad : Option Addr} {c : Nat} {W : List (List UInt8)} (h : w.ownsRow B 9 1 (.slice ad W.length c) W.length (wsV W)) (h0 : W ≠ []) : ∃ g, ad = some ⟨g, 0, none⟩ ∧ g < w.heap.size ∧ W.length ≤ c ∧ ∀ (j : Nat) (hj : j < W.length), w.cell? ⟨g, 0 + j, none⟩ = some (.string ⟨W[j].toArray⟩) := by
  have h9 := h
  obtain ⟨hl, h⟩ := h
  rcases h with ⟨-, hz⟩ | ⟨g, cap, cur, hv, hB, hh, hcap, -⟩
  · exact absurd (List.length_eq_zero_iff.1 hz) h0
  · simp only [Value.slice.injEq] at hv
    obtain ⟨rfl, -, rfl⟩ := hv
    refine ⟨g, rfl, (Array.getElem?_eq_some_iff.1 hh).1, by omega, fun j hj => ?_⟩
    rw [Nat.zero_add]
    have h8 := h9.cellAt j (by simpa using hj)
    rw [h8]
    simp [wsV, hj]
set_option maxRecDepth 100000 in
set_option maxHeartbeats 8000000 in
theorem s_join (B : Nat) (W : List (List UInt8)) (ad : Option Addr) (c : Nat) (w : World) (hW : totW W ≤ 1048578) (ho : w.ownsRow B 9 1 (.slice ad W.length c) W.length (wsV W)) :
    Calls Tryz.prog 95 #[.slice ad W.length c] w fun e w' => e = .returned (.string ⟨(Lib.join W [32]).toArray⟩) ∧ w' = w := by
  have HO := hide ho
  have HT := hide hW
  obtain ⟨n, hn⟩ : ∃ n, W.length = n := ⟨_, rfl⟩
  have HN := hide hn
  have hnl : n ≤ 1048578 := by
    have : ∀ l : List (List UInt8), l.length ≤ totW l := fun l => by
      induction l with
      | nil => simp
      | cons t l ih => simp only [totW, List.length_cons]; omega
    have := this W
    omega
  rw [hn]
  clear hn ho hW
  go_enter Tryz.func95, Tryz.ntmps95
  go_wp2
  go_loopw [3, 4] (fun tv iv wr => ∃ (m : Nat) (T : ByteArray), m ≤ n ∧ iv = .int .i64 m ∧ tv = .string T ∧ Hid (T.data.toList = Lib.join (W.take m) [32]) ∧ wr = w) (fun _ iv _ => n - (intOf iv).toNat)
  case atStart => exact ⟨0, ⟨#[]⟩, Nat.zero_le _, rfl, rfl, hide rfl, rfl⟩
  case round =>
    obtain ⟨m, T, hm, rfl, rfl, HJ, hw⟩ := hrel
    subst hw
    have hTs : T.size ≤ 1048578 := by
      have h1 := join_totW [32] rfl (W.take m)
      have h2 := tot_takeW W m
      have h3 := HT.out
      rw [← HJ.out] at h1
      have h4 : T.data.toList.length = T.size := by simp
      omega
    by_cases hlt : m < n
    · have hlti : (m : Int) < (n : Int) := by omega
      have hm0 : (0 : Int) ≤ (m : Int) := by omega
      have hmW : m < W.length := by rw [HN.out]; exact hlt
      have hW0 : W ≠ [] := fun e => by rw [e] at hmW; simp at hmW
      obtain ⟨g, rfl, hg, hcl, hcell⟩ := ws_cells HO.out hW0
      have hx := hcell m hmW
      rw [Nat.zero_add] at hx
      rw [HN.out] at hcl
      have HK := hide (join_takeW [32] W m hmW)
      obtain ⟨X, hX⟩ : ∃ X : ByteArray, X = ⟨W[m].toArray⟩ := ⟨_, rfl⟩
      have HX : Hid (X.data.toList = W[m]) := hide (by rw [hX])
      rw [← hX] at hx
      have hXs : T.size + 1 + X.size ≤ 2097158 := by
        have h1 := join_totW [32] rfl (W.take (m + 1))
        have h2 := tot_takeW W (m + 1)
        have h3 := HT.out
        rw [HK.out, ← HX.out] at h1
        have h4 : X.data.toList.length = X.size := by simp
        rw [List.length_append] at h1
        omega
      clear hX hcell hW0
      by_cases h0 : m = 0
      · subst h0
        have HT2 : Hid ((T ++ X).data.toList = Lib.join (W.take (0 + 1)) [32]) := hide (by
          rw [HK.out, ByteArray.data_append, Array.toList_append, HJ.out, HX.out]
          rfl)
        go_wp2
        go_roundw
        case rel => exact ⟨0 + 1, _, by omega, by go_num, rfl, HT2, by first | rfl | trivial⟩
        case measure => simp [intOf]; omega
      · have h0i : (0 : Int) < (m : Int) := by omega
        have HT2 : Hid (((T ++ ⟨#[32]⟩) ++ X).data.toList = Lib.join (W.take (m + 1)) [32]) := hide (by
          rw [HK.out, if_neg h0, ByteArray.data_append, Array.toList_append, ByteArray.data_append, Array.toList_append, HJ.out, HX.out])
        go_wp2
        go_roundw
        case rel => exact ⟨m + 1, _, by omega, by go_num, rfl, HT2, by first | rfl | trivial⟩
        case measure => simp [intOf]; omega
    · have e : m = n := by omega
      subst e
      have hlti : ¬ (m : Int) < (m : Int) := by omega
      have HE : Hid (T = ⟨(Lib.join W [32]).toArray⟩) := hide (by
        have h := HJ.out
        rw [List.take_of_length_le (by rw [HN.out]; exact Nat.le_refl _)] at h
        rw [← h])
      go_wp2
      go_ret
      refine ⟨?_, rfl⟩
      rw [← HE.out]
      rfl
set_option maxRecDepth 100000 in
set_option maxHeartbeats 8000000 in
theorem s_white (s : ByteArray) (i : Int) (w : World) (hs : s.size ≤ 1048576) :
    Calls Tryz.prog 70 #[.string s, .int .i64 i] w fun e w' => e = .returned (.string (whB s i)) ∧ Below w.heap.size w w' := by
  by_cases h1 : i = 1
  · subst h1
    refine (s_white1 s w hs).mono ?_
    rintro e w' ⟨rfl, hb⟩
    exact ⟨rfl, hb⟩
  · have e1 : (i == 1) = false := by simpa using h1
    by_cases h2 : i = 2
    · subst h2
      have CW := hide (s_words s w hs)
      have hbd := tot_wd s.data.toList []
      have HQ : Hid (totW (wdB [] s.data.toList) ≤ 1048578) := hide (by
        have : s.data.toList.length = s.size := by simp
        rw [this] at hbd
        simp at hbd
        omega)
      have HE : Hid (whB s 2 = jnB s) := hide rfl
      clear hbd
      go_enter Tryz.func70, Tryz.ntmps70
      go_wp2_with (first | (go_at_call 96; refine CW.out.mono ?_; rintro e w1 ⟨ad, c, rfl, ho, hb⟩; have CJ := hide (s_join w.heap.size _ ad c w1 HQ.out ho); have HB := hide hb; clear ho hb) | (go_at_call 95; refine CJ.out.mono ?_; rintro e w9 ⟨rfl, h9⟩; rw [h9]; clear h9 w9))
      go_ret
      refine ⟨?_, HB.out⟩
      rw [HE.out]
      rfl
    · have e2 : (i == 2) = false := by simpa using h2
      have HE : Hid (whB s i = s) := hide (by unfold whB; rw [if_neg h1, if_neg h2])
      go_enter Tryz.func70, Tryz.ntmps70
      go_wp2
      go_ret
      refine ⟨?_, Below.refl _ _⟩
      rw [HE.out]
      rfl
end Go.Proofs.YtpakkllcemcfdaaGreatDoor

/-
  What a field says of an element. No step of the program in this text.
-/
namespace Go.Proofs.YtpakkllcemcfdaaGreatDoor
open Go.RowKit
set_option linter.unusedVariables false
set_option linter.unusedSimpArgs false
/-- The values of the attributes of that name, among the first k. -/
def mtA (D : Dc) (p : Nat) (A : ByteArray) : Nat → List ByteArray
  | 0 => []
  | k + 1 => mtA D p A k ++ (if ((D.AN p k).toList == A.toList) = true then [D.AV p k] else [])
theorem mt_len (D : Dc) (p : Nat) (A : ByteArray) : ∀ k, (mtA D p A k).length ≤ k
  | 0 => Nat.le_refl _
  | k + 1 => by
    have := mt_len D p A k
    rw [mtA, List.length_append]
    split <;> simp <;> omega
theorem mt_yes {D : Dc} {p k : Nat} {A : ByteArray} (h : ((D.AN p k).toList == A.toList) = true) : mtA D p A (k + 1) = mtA D p A k ++ [D.AV p k] := by rw [mtA, if_pos h]
theorem mt_no {D : Dc} {p k : Nat} {A : ByteArray} (h : ((D.AN p k).toList == A.toList) = false) : mtA D p A (k + 1) = mtA D p A k := by rw [mtA, if_neg (by rw [h]; decide)]; simp
/-- What an element says: its text, or an attribute. -/
def vlA (D : Dc) (A : ByteArray) (p : Nat) : List ByteArray := if A.toList.isEmpty = true then [txF D p D.n] else mtA D p A (D.AC p)
def vlL (D : Dc) (A : ByteArray) (L : List Int) : List ByteArray := L.flatMap fun p => vlA D A p.toNat
theorem vl_take {D : Dc} {A : ByteArray} {L : List Int} {j : Nat} (h : j < L.length) : vlL D A (L.take (j + 1)) = vlL D A (L.take j) ++ vlA D A (L[j]?.getD 0).toNat := by
  unfold vlL
  rw [List.take_succ_eq_append_getElem h, List.flatMap_append, List.getElem?_eq_getElem h]
  simp
theorem vl_len {D : Dc} {A : ByteArray} (hac : ∀ p, p < D.n → D.AC p ≤ 10) : ∀ (L : List Int), (∀ j ∈ L, 0 ≤ j ∧ j < (D.n : Int)) → (vlL D A L).length ≤ 10 * L.length
  | [], _ => Nat.le_refl _
  | x :: L, h => by
    have ih := vl_len (A := A) hac L (fun j hj => h j (List.mem_cons_of_mem _ hj))
    have hx := h x (List.mem_cons_self ..)
    have h1 : (vlA D A x.toNat).length ≤ 10 := by
      unfold vlA
      split
      · simp
      · have := mt_len D x.toNat A (D.AC x.toNat)
        have := hac x.toNat (by omega)
        omega
    unfold vlL at ih ⊢
    rw [List.flatMap_cons, List.length_append, List.length_cons]
    omega
/-- The last of them, its blanks brought together. -/
def lstW (l : List ByteArray) : ByteArray := match l.getLast? with | none => ⟨#[]⟩ | some v => whB v 2
theorem lst_app (l : List ByteArray) (v : ByteArray) : lstW (l ++ [v]) = whB v 2 := by unfold lstW; simp
theorem lst_one (v : ByteArray) : lstW [v] = whB v 2 := rfl
/-- The answer. -/
def foA (l : List ByteArray) : ByteArray × Int := if l.length = 1 then (lstW l, 1) else (⟨#[]⟩, l.length)
def foV (D : Dc) (x : Int) (s : ByteArray) : ByteArray × Int := match fld s.data.toList with
  | none => (⟨#[]⟩, -1)
  | some q => if txOk D x = true then foA (vlL D ⟨q.2.toArray⟩ (srtL (sel D (st D x.toNat D.n false) q.1))) else (⟨#[]⟩, -1)
theorem fo_none {D : Dc} {x : Int} {s : ByteArray} (h : fld s.data.toList = none) : foV D x s = (⟨#[]⟩, -1) := by unfold foV; rw [h]
theorem fo_out {D : Dc} {x : Int} {s : ByteArray} (h : txOk D x = false) : foV D x s = (⟨#[]⟩, -1) := by
  unfold foV
  split
  · rfl
  · rw [if_neg (by rw [h]; decide)]
theorem fo_some {D : Dc} {x : Int} {s : ByteArray} {q : List (List UInt8) × List UInt8} (h : fld s.data.toList = some q) (h2 : txOk D x = true) : foV D x s = foA (vlL D ⟨q.2.toArray⟩ (srtL (sel D (st D x.toNat D.n false) q.1))) := by
  unfold foV
  rw [h]
  dsimp only
  rw [if_pos h2]
/-- The attributes of a right document. -/
theorem att_facts {D : Dc} (h : docokB D = true) {p : Nat} (hp : p < D.n) : D.AC p ≤ 10 ∧ (∀ j, j < D.AC p → ∀ i, i < j → ((D.AN p i).toList == (D.AN p j).toList) = false) := by
  have hi := (docok_facts h).2.1 p hp
  unfold itB pB partB at hi
  rw [Bool.and_eq_true] at hi
  have h2 := hi.2
  split at h2
  · simp only [Bool.and_eq_true, beq_iff_eq] at h2
    have : D.AC p = 0 := by omega
    rw [this]
    exact ⟨by omega, fun j hj => by omega⟩
  · simp only [Bool.and_eq_true] at h2
    have h3 := h2.2.2
    unfold attrsB at h3
    rw [Bool.and_eq_true, decide_eq_true_iff, List.all_eq_true] at h3
    refine ⟨h3.1, fun j hj i hij => ?_⟩
    have h4 := h3.2 j (by simpa using hj)
    unfold atB at h4
    simp only [Bool.and_eq_true, Bool.not_eq_true'] at h4
    have h5 := h4.2.2
    unfold anyS at h5
    rw [List.any_eq_false] at h5
    have h6 := h5 i (by simpa using hij)
    unfold sameS at h6
    cases hx : ((D.AN p i).toList == (D.AN p j).toList)
    · rfl
    · exact absurd hx h6
theorem mt_none {D : Dc} {p : Nat} {A : ByteArray} : ∀ k, (∀ j, j < k → ((D.AN p j).toList == A.toList) = false) → mtA D p A k = []
  | 0, _ => rfl
  | k + 1, h => by rw [mt_no (h k (by omega)), mt_none k (fun j hj => h j (by omega))]
theorem mt_stay {D : Dc} {p i : Nat} {A : ByteArray} : ∀ k, i ≤ k → (∀ j, i ≤ j → j < k → ((D.AN p j).toList == A.toList) = false) → mtA D p A k = mtA D p A i
  | 0, h, _ => by rw [show i = 0 by omega]
  | k + 1, h, h2 => by
    by_cases e : i = k + 1
    · rw [e]
    · rw [mt_no (h2 k (by omega) (by omega)), mt_stay k (by omega) (fun j h3 h4 => h2 j h3 (by omega))]
theorem mt_one {D : Dc} {p i : Nat} {A : ByteArray} (h : docokB D = true) (hp : p < D.n) (hi : i < D.AC p) (he : ((D.AN p i).toList == A.toList) = true) (hn : ∀ j, j < i → ((D.AN p j).toList == A.toList) = false) : mtA D p A (D.AC p) = [D.AV p i] := by
  have hu := (att_facts h hp).2
  rw [mt_stay (i := i + 1) (D.AC p) (by omega) (fun j h1 h2 => by
    have h3 := hu j h2 i (by omega)
    cases hx : ((D.AN p j).toList == A.toList)
    · rfl
    · rw [beq_iff_eq] at hx he
      rw [he, ← hx] at h3
      simp at h3), mt_yes he, mt_none i hn]
  rfl
theorem srt_one (x : Int) : srtL [x] = [x] := rfl
theorem sel_nil (D : Dc) (L : List Int) : sel D L [] = L := rfl
theorem st_no (D : Dc) (x n : Nat) : st D x n false = [(x : Int)] := rfl
/-- The places: they are the document's, and few. -/
theorem pl_facts {D : Dc} {x n : Nat} (hD : D.n = n) (hn : n ≤ 200) (hx : x < n) (ns : List (List UInt8)) : (srtL (sel D (st D x n false) ns)).length ≤ 200 ∧ ∀ j ∈ srtL (sel D (st D x n false) ns), 0 ≤ j ∧ j < (D.n : Int) := by
  have hs := st_ok (D := D) (x := x) (n := n) false hD hx
  have hs2 := sel_ok ns _ hs.1 hs.2
  refine ⟨?_, fun j hj => ?_⟩
  · rw [srt_len hs2.1]
    have := nodup_len hs2.1 hs2.2
    omega
  · exact hs2.2 j ((srt_mem _ _).1 hj)
end Go.Proofs.YtpakkllcemcfdaaGreatDoor
