/-
  spec.White, whole.
-/
import Derived.Test.YtpfhjgddocglaaaWhT
namespace Go.Proofs.Ytpfhjgddocglaaa
open Go.RowKit
set_option linter.unusedVariables false
set_option linter.unusedSimpArgs false
/-- The words with one blank between them. -/
def jnB (s : ByteArray) : ByteArray := ⟨(Lib.join (wdB [] s.data.toList) [32]).toArray⟩
/-- What White answers. -/
def whB (s : ByteArray) (i : Int) : ByteArray := if i = 1 then ⟨(reB s.data.toList).toArray⟩ else if i = 2 then jnB s else s
theorem ws_cells {B : Nat} {w : World} {ad : Option Addr} {c : Nat} {W : List (List UInt8)} (h : w.ownsRow B 9 1 (.slice ad W.length c) W.length (wsV W)) (h0 : W ≠ []) : ∃ g, ad = some ⟨g, 0, none⟩ ∧ g < w.heap.size ∧ W.length ≤ c ∧ ∀ (j : Nat) (hj : j < W.length), w.cell? ⟨g, 0 + j, none⟩ = some (.string ⟨W[j].toArray⟩) := by
  have h9 := h
  obtain ⟨hl, h⟩ := h
  rcases h with ⟨-, hz⟩ | ⟨g, cap, cur, hv, hB, hh, hcap, -⟩
  · exact absurd (List.length_eq_zero_iff.1 hz) h0
  · simp only [Value.slice.injEq] at hv
    obtain ⟨rfl, -, rfl⟩ := hv
    refine ⟨g, rfl, (Array.getElem?_eq_some_iff.1 hh).1, by omega, fun j hj => ?_⟩
    rw [Nat.zero_add]
    have h8 := h9.cellAt j (by simpa using hj)
    rw [h8]
    simp [wsV, hj]
set_option maxRecDepth 100000 in
set_option maxHeartbeats 8000000 in
theorem s_join (B : Nat) (W : List (List UInt8)) (ad : Option Addr) (c : Nat) (w : World) (hW : totW W ≤ 1048578) (ho : w.ownsRow B 9 1 (.slice ad W.length c) W.length (wsV W)) :
    Calls Try.prog 17 #[.slice ad W.length c] w fun e w' => e = .returned (.string ⟨(Lib.join W [32]).toArray⟩) ∧ w' = w := by
  have HO := hide ho
  have HT := hide hW
  obtain ⟨n, hn⟩ : ∃ n, W.length = n := ⟨_, rfl⟩
  have HN := hide hn
  have hnl : n ≤ 1048578 := by
    have : ∀ l : List (List UInt8), l.length ≤ totW l := fun l => by
      induction l with
      | nil => simp
      | cons t l ih => simp only [totW, List.length_cons]; omega
    have := this W
    omega
  rw [hn]
  clear hn ho hW
  go_enter Try.func17, Try.ntmps17
  go_wp2
  go_loopw [3, 4] (fun tv iv wr => ∃ (m : Nat) (T : ByteArray), m ≤ n ∧ iv = .int .i64 m ∧ tv = .string T ∧ Hid (T.data.toList = Lib.join (W.take m) [32]) ∧ wr = w) (fun _ iv _ => n - (intOf iv).toNat)
  case atStart => exact ⟨0, ⟨#[]⟩, Nat.zero_le _, rfl, rfl, hide rfl, rfl⟩
  case round =>
    obtain ⟨m, T, hm, rfl, rfl, HJ, hw⟩ := hrel
    subst hw
    have hTs : T.size ≤ 1048578 := by
      have h1 := join_totW [32] rfl (W.take m)
      have h2 := tot_takeW W m
      have h3 := HT.out
      rw [← HJ.out] at h1
      have h4 : T.data.toList.length = T.size := by simp
      omega
    by_cases hlt : m < n
    · have hlti : (m : Int) < (n : Int) := by omega
      have hm0 : (0 : Int) ≤ (m : Int) := by omega
      have hmW : m < W.length := by rw [HN.out]; exact hlt
      have hW0 : W ≠ [] := fun e => by rw [e] at hmW; simp at hmW
      obtain ⟨g, rfl, hg, hcl, hcell⟩ := ws_cells HO.out hW0
      have hx := hcell m hmW
      rw [Nat.zero_add] at hx
      rw [HN.out] at hcl
      have HK := hide (join_takeW [32] W m hmW)
      obtain ⟨X, hX⟩ : ∃ X : ByteArray, X = ⟨W[m].toArray⟩ := ⟨_, rfl⟩
      have HX : Hid (X.data.toList = W[m]) := hide (by rw [hX])
      rw [← hX] at hx
      have hXs : T.size + 1 + X.size ≤ 2097158 := by
        have h1 := join_totW [32] rfl (W.take (m + 1))
        have h2 := tot_takeW W (m + 1)
        have h3 := HT.out
        rw [HK.out, ← HX.out] at h1
        have h4 : X.data.toList.length = X.size := by simp
        rw [List.length_append] at h1
        omega
      clear hX hcell hW0
      by_cases h0 : m = 0
      · subst h0
        have HT2 : Hid ((T ++ X).data.toList = Lib.join (W.take (0 + 1)) [32]) := hide (by
          rw [HK.out, ByteArray.data_append, Array.toList_append, HJ.out, HX.out]
          rfl)
        go_wp2
        go_roundw
        case rel => exact ⟨0 + 1, _, by omega, by go_num, rfl, HT2, by first | rfl | trivial⟩
        case measure => simp [intOf]; omega
      · have h0i : (0 : Int) < (m : Int) := by omega
        have HT2 : Hid (((T ++ ⟨#[32]⟩) ++ X).data.toList = Lib.join (W.take (m + 1)) [32]) := hide (by
          rw [HK.out, if_neg h0, ByteArray.data_append, Array.toList_append, ByteArray.data_append, Array.toList_append, HJ.out, HX.out])
        go_wp2
        go_roundw
        case rel => exact ⟨m + 1, _, by omega, by go_num, rfl, HT2, by first | rfl | trivial⟩
        case measure => simp [intOf]; omega
    · have e : m = n := by omega
      subst e
      have hlti : ¬ (m : Int) < (m : Int) := by omega
      have HE : Hid (T = ⟨(Lib.join W [32]).toArray⟩) := hide (by
        have h := HJ.out
        rw [List.take_of_length_le (by rw [HN.out]; exact Nat.le_refl _)] at h
        rw [← h])
      go_wp2
      go_ret
      refine ⟨?_, rfl⟩
      rw [← HE.out]
      rfl
set_option maxRecDepth 100000 in
set_option maxHeartbeats 8000000 in
theorem s_white (s : ByteArray) (i : Int) (w : World) (hs : s.size ≤ 1048576) :
    Calls Try.prog 8 #[.string s, .int .i64 i] w fun e w' => e = .returned (.string (whB s i)) ∧ Below w.heap.size w w' := by
  by_cases h1 : i = 1
  · subst h1
    refine (s_white1 s w hs).mono ?_
    rintro e w' ⟨rfl, hb⟩
    exact ⟨rfl, hb⟩
  · have e1 : (i == 1) = false := by simpa using h1
    by_cases h2 : i = 2
    · subst h2
      have CW := hide (s_words s w hs)
      have hbd := tot_wd s.data.toList []
      have HQ : Hid (totW (wdB [] s.data.toList) ≤ 1048578) := hide (by
        have : s.data.toList.length = s.size := by simp
        rw [this] at hbd
        simp at hbd
        omega)
      have HE : Hid (whB s 2 = jnB s) := hide rfl
      clear hbd
      go_enter Try.func8, Try.ntmps8
      go_wp2_with (first | (go_at_call 18; refine CW.out.mono ?_; rintro e w1 ⟨ad, c, rfl, ho, hb⟩; have CJ := hide (s_join w.heap.size _ ad c w1 HQ.out ho); have HB := hide hb; clear ho hb) | (go_at_call 17; refine CJ.out.mono ?_; rintro e w9 ⟨rfl, h9⟩; rw [h9]; clear h9 w9))
      go_ret
      refine ⟨?_, HB.out⟩
      rw [HE.out]
      rfl
    · have e2 : (i == 2) = false := by simpa using h2
      have HE : Hid (whB s i = s) := hide (by unfold whB; rw [if_neg h1, if_neg h2])
      go_enter Try.func8, Try.ntmps8
      go_wp2
      go_ret
      refine ⟨?_, Below.refl _ _⟩
      rw [HE.out]
      rfl
end Go.Proofs.Ytpfhjgddocglaaa
