/-
  The walk of FnAround.
-/
import Derived.Test.YthcggdjkfebemaaGreatDoorB31
namespace Go.Proofs.YthcggdjkfebemaaGreatDoor
open Go.RowKit Go.Joins
set_option linter.unusedVariables false
set_option linter.unusedSimpArgs false
section
variable {w : World} {D : Dc} {s l z z' : List UInt8}
set_option maxRecDepth 100000 in
set_option maxHeartbeats 8000000 in
theorem i_parsedocN (hT : Tabs w) (hM : MaxP w) (hdk : docokB D = true) (hs : linesB s = l) (ha : ArP l (docP D ++ z)) (hz : ArP z z') (hne : z' ≠ []) (hl0 : s.length ≤ 900000) (hl : l.length ≤ 900000) (hl2 : (docP D ++ z).length ≤ 900000) :
    Calls Tryz.prog 11 #[.string ⟨s.toArray⟩] w fun e w' => e = .returned (.tuple #[.slice none 0 0, .bool false]) ∧ Below w.heap.size w w' := by
  have hsz : (⟨s.toArray⟩ : ByteArray).size ≤ 1048576 := by rw [show (⟨s.toArray⟩ : ByteArray).size = s.length from List.size_toArray]; omega
  have CP := hide (i_plain ⟨s.toArray⟩ w hsz hT)
  have HT := hide hT
  have HM := hide hM
  have HS := hide hs
  have HA := hide ha
  have HZ := hide hz
  have HNE := hide hne
  have HSZ := hide hsz
  clear hT hM hs ha hz hsz hne
  cases hpl : plainB ⟨s.toArray⟩
  · rw [hpl] at CP
    clear hpl
    go_enter Tryz.func11, Tryz.ntmps11
    go_wp2_with fail
    refine CP.out.mono ?_
    rintro e w1 ⟨rfl, hb1⟩
    have HB1 := hide hb1
    clear hb1
    go_wp2
    refine bodyPost_ret (v := .tuple #[.slice none 0 0, .bool false]) (by simp [results, Tryz.results11, go_sem]) rfl ?_
    exact ⟨rfl, HB1.out⟩
  · rw [hpl] at CP
    clear hpl
    go_enter Tryz.func11, Tryz.ntmps11
    go_wp2_with fail
    refine CP.out.mono ?_
    rintro e w1 ⟨rfl, hb1⟩
    have HB1 := hide hb1
    have hm1 := maxP_go HM.out hb1 (Nat.le_refl _)
    have CL : Hid (Calls Tryz.prog 29 #[.string ⟨s.toArray⟩] w1 fun e w' => e = .returned (.string ⟨l.toArray⟩) ∧ Below w1.heap.size w1 w') := hide (by
      obtain ⟨m, hm⟩ := hm1
      have h9 := i_lines ⟨s.toArray⟩ m w1 HSZ.out (maxP_lt ⟨m, hm⟩) hm
      rw [show linesB (⟨s.toArray⟩ : ByteArray).data.toList = l from HS.out] at h9
      exact h9)
    have HM1 := hide hm1
    clear hb1 hm1
    go_wp2_with fail
    refine CL.out.mono ?_
    rintro e w2 ⟨rfl, hb2⟩
    have HB2 : Hid (Below w.heap.size w w2) := hide (HB1.out.trans (hb2.mono HB1.out.size))
    have HM2 := hide (maxP_go HM1.out hb2 (Nat.le_refl _))
    clear hb2
    go_wp2_with fail
    refine (i_readDocN (tabs_below HT.out HB2.out) HM2.out hdk HA.out HZ.out HNE.out hl hl2).mono ?_
    rintro e w3 ⟨rfl, hb3⟩
    have HB3 : Hid (Below w.heap.size w w3) := hide (HB2.out.trans (hb3.mono HB2.out.size))
    clear hb3
    go_wp2
    refine bodyPost_ret (v := .tuple #[.slice none 0 0, .bool false]) (by simp [results, Tryz.results11, go_sem]) rfl ?_
    exact ⟨rfl, HB3.out⟩
end
def arA : List UInt8 := [13, 10, 32, 60, 33, 45, 45, 32, 97, 32, 60, 98, 47, 62, 32, 45, 32, 45, 45, 62]
def arB : List UInt8 := [60, 33, 45, 45, 45, 45, 62, 9, 10]
theorem lines_arA (t : List UInt8) (h : ∀ b ∈ t, b ≠ 13) : linesB (arA ++ t) = arA.drop 1 ++ t := by
  have e : arA ++ t = 13 :: (arA.drop 1 ++ t) := rfl
  rw [e, linesB, if_pos rfl, if_pos (by rfl), lines_id]
  intro b hb
  rcases List.mem_append.1 hb with h1 | h1
  · exact (show ∀ b ∈ arA.drop 1, b ≠ 13 by decide) b h1
  · exact h b h1
theorem ar_tail : ArP arB [] := by
  refine .step (m := [45, 45, 62, 9, 10]) (a := []) (b := [9, 10]) (by rfl) (by rfl) (by rfl) (.done (by rfl) (by rfl))
theorem cut_arA (t : List UInt8) : Lib.cut ([32, 97, 32, 60, 98, 47, 62, 32, 45, 32, 45, 45, 62] ++ t) [45, 45, 62] = ([32, 97, 32, 60, 98, 47, 62, 32, 45, 32], t, true) := by
  have e : Lib.index ([32, 97, 32, 60, 98, 47, 62, 32, 45, 32, 45, 45, 62] ++ t) [45, 45, 62] = 10 := by
    simp [Lib.index, Lib.hasPrefix, List.isPrefixOf]
  unfold Lib.cut
  rw [e]
  rfl
theorem ar_head {t t' : List UInt8} (h : ArP t t') : ArP (arA.drop 1 ++ t) t' := by
  refine .step (m := [32, 97, 32, 60, 98, 47, 62, 32, 45, 32, 45, 45, 62] ++ t) (a := [32, 97, 32, 60, 98, 47, 62, 32, 45, 32]) (b := t) (by rfl) (cut_arA t) (by rfl) h
theorem pl_back {l : List UInt8} (h : ∃ ys : List Int, (∀ y ∈ ys, docB y = true) ∧ l = bytesOf (encA ys)) (hl : l.length ≤ 20000) : plainB ⟨l.toArray⟩ = true := by
  obtain ⟨ys, h7, h8⟩ := h
  have h9 := runes_enc ys (fun y hy => doc_chr (h7 y hy))
  have e : rns ⟨l.toArray⟩ = some ys := by
    unfold rns
    rw [if_pos (by show l.toArray.size ≤ 20000; simpa using hl)]
    show runesL l.toArray.toList = some ys
    rw [List.toList_toArray, h8]
    exact h9
  unfold plainB
  rw [e, Bool.and_eq_true]
  exact ⟨rfl, List.all_eq_true.2 h7⟩
theorem pl_app {a b : List UInt8} (h : ∃ ys : List Int, (∀ y ∈ ys, docB y = true) ∧ a = bytesOf (encA ys)) (k : ∃ ys : List Int, (∀ y ∈ ys, docB y = true) ∧ b = bytesOf (encA ys)) : ∃ ys : List Int, (∀ y ∈ ys, docB y = true) ∧ a ++ b = bytesOf (encA ys) := by
  obtain ⟨ys, h1, h2⟩ := h
  obtain ⟨zs, k1, k2⟩ := k
  refine ⟨ys ++ zs, fun y hy => ?_, by rw [h2, k2, encA_app, bytesOf_app]⟩
  rcases List.mem_append.1 hy with e | e
  · exact h1 y e
  · exact k1 y e
theorem pl_arA : ∃ ys : List Int, (∀ y ∈ ys, docB y = true) ∧ arA = bytesOf (encA ys) := asc_list arA (by unfold arA AscB; decide)
theorem i_aroundDoc {D : Dc} {w : World} (hT : Tabs w) (hM : MaxP w) (hdk : docokB D = true) (htz : dcTot D ≤ 1048576) (hn : D.n ≤ 40) :
    Calls Tryz.prog 11 #[.string ⟨(arA ++ (docP D ++ arB)).toArray⟩] w fun e w' => ∃ ad c, e = .returned (.tuple #[.slice ad D.n c, .bool true]) ∧ DcAt w' ad D w'.heap.size ∧ Below w.heap.size w w' := by
  have hs := doc_short hdk
  have hp := px_app (px_doc hdk) (show PX arB from px_lit (by decide))
  have h1 : arA.length = 20 := rfl
  have h2 : arB.length = 9 := rfl
  have h3 : (arA.drop 1).length = 19 := rfl
  exact i_parsedoc (z := arB) hT hM hdk htz (pl_back (pl_app pl_arA hp.1) (by simp only [List.length_append]; omega)) (lines_arA _ hp.2) (ar_head (ar_doc hdk arB)) ar_tail (by simp only [List.length_append]; omega) (by simp only [List.length_append]; omega) (by simp only [List.length_append]; omega)
theorem i_twice {D : Dc} {w : World} (hT : Tabs w) (hM : MaxP w) (hdk : docokB D = true) (hn : D.n ≤ 40) :
    Calls Tryz.prog 11 #[.string ⟨(docP D ++ docP D).toArray⟩] w fun e w' => e = .returned (.tuple #[.slice none 0 0, .bool false]) ∧ Below w.heap.size w w' := by
  have hs := doc_short hdk
  have hp := px_app (px_doc hdk) (px_doc hdk)
  have hl : (docP D ++ docP D).length ≤ 900000 := by rw [List.length_append]; omega
  have h9 := ar_doc hdk []
  rw [List.append_nil] at h9
  exact i_parsedocN (z := docP D) hT hM hdk (lines_id _ hp.2) (ar_doc hdk (docP D)) h9 (fun e => by obtain ⟨x, t, e2, -⟩ := doc_head hdk; rw [e] at e2; cases e2) hl hl hl
set_option maxHeartbeats 8000000 in
set_option maxRecDepth 100000 in
theorem ar_walk (a : Option Addr) (n cap : Nat) (zs : List Int) (w : World) (hl : zs.length = n) (hz : ∀ x ∈ zs, 0 ≤ x ∧ x ≤ 255) (hn : n ≤ 1048576) (hs : SrcAt w a zs w.heap.size) (hT : Tabs w) (hM : MaxP w) :
    Calls Tryz.prog 5 #[.slice a n cap] w fun e w' => e = .returned (.bool true) ∧ Below w.heap.size w w' := by
  have hn' : ¬ (1048576 : Int) < (n : Int) := by omega
  have HT := hide hT
  have HM := hide hM
  have CD := hide (d_print a n cap zs w (fun G => grow_at G a n cap zs) hl hz hn hs)
  clear hs hl hz hT hM
  go_enter Tryz.func5, Tryz.ntmps5
  go_wp2_with (go_at_call 6; go_in)
  refine CD.out.mono ?_
  rintro e w1 ⟨ad, m, c, D, rfl, hD, ⟨hm1, hm2⟩, htot, hdc, hb1⟩
  have B1 := hide hb1
  have HT1 := hide (tabs_below HT.out hb1)
  have HM1 := hide (maxP_go HM.out hb1 (Nat.le_refl _))
  have HD := hide hD
  have HTO := hide htot
  have HDC := hide hdc
  clear hb1 hD htot hdc CD
  have hdc9 : Hid (∀ w9, Below w1.heap.size w1 w9 → DcAt w9 ad D w9.heap.size) := hide (fun w9 hb => dcAt_up (dcAt_go HDC.out hb) hb.size)
  have PI : Hid (∀ w9, Below w1.heap.size w1 w9 → Calls Tryz.prog 8 #[.slice ad m c] w9 fun e w' => e = .returned (.tuple #[.string (docV D), .bool (docokB D)]) ∧ Below w9.heap.size w9 w') := hide (fun w9 hb => i_printdoc D m ad c w9 HD.out HTO.out (hdc9.out w9 hb) (tabs_below HT1.out hb))
  have PS' : Hid (∀ w9, Below w1.heap.size w1 w9 → Calls Tryz.prog 9 #[.slice ad m c] w9 fun e w' => e = .returned (.tuple #[.string (docV D), .bool (docokB D)]) ∧ Below w9.heap.size w9 w') := hide (fun w9 hb => s_printdoc D m ad c w9 HD.out HTO.out (hdc9.out w9 hb))
  cases hbb : docokB D
  · rw [hbb] at PI PS'
    go_wp2_with fail
    refine (PI.out w1 (Below.refl _ _)).mono ?_
    rintro e w2 ⟨rfl, hb2⟩
    have B2 := hide hb2
    clear hb2
    go_wp2_with fail
    refine (PS'.out w2 B2.out).mono ?_
    rintro e w3 ⟨rfl, hb3⟩
    have B3 : Hid (Below w1.heap.size w1 w3) := hide (B2.out.trans (hb3.mono B2.out.size))
    clear hb3 hbb
    go_wp2
    go_ret
    exact ⟨rfl, B1.out.trans (B3.out.mono B1.out.size)⟩
  · have hdl := doc_short hbb
    have hV := docV_yes hbb
    have HK := hide hbb
    obtain ⟨V, hV2⟩ : ∃ V, docV D = V := ⟨_, rfl⟩
    have hvs : V.size ≤ 17000 := by
      rw [← hV2, hV, show (⟨(docP D).toArray⟩ : ByteArray).size = (docP D).length from List.size_toArray]
      have := HD.out
      omega
    obtain ⟨x9, hx9⟩ : ∃ x9 : ByteArray, (⟨#[13, 10, 32, 60, 33, 45, 45, 32, 97, 32, 60, 98, 47, 62, 32, 45, 32, 45, 45, 62]⟩ : ByteArray) ++ V = x9 := ⟨_, rfl⟩
    obtain ⟨y9, hy9⟩ : ∃ y9 : ByteArray, x9 ++ (⟨#[60, 33, 45, 45, 45, 45, 62, 9, 10]⟩ : ByteArray) = y9 := ⟨_, rfl⟩
    obtain ⟨v9, hv9⟩ : ∃ v9 : ByteArray, V ++ V = v9 := ⟨_, rfl⟩
    have ey : y9 = ⟨(arA ++ (docP D ++ arB)).toArray⟩ := by
      rw [← hy9, ← hx9, ← hV2, hV]
      refine ByteArray.ext ?_
      rw [ByteArray.data_append, ByteArray.data_append]
      show (arA.toArray ++ (docP D).toArray) ++ arB.toArray = (arA ++ (docP D ++ arB)).toArray
      simp
    have ev : v9 = ⟨(docP D ++ docP D).toArray⟩ := by
      rw [← hv9, ← hV2, hV]
      refine ByteArray.ext ?_
      rw [ByteArray.data_append]
      simp
    have PA : Hid (∀ w9, Below w1.heap.size w1 w9 → Calls Tryz.prog 11 #[.string y9] w9 fun e w' => ∃ ad' c', e = .returned (.tuple #[.slice ad' m c', .bool true]) ∧ DcAt w' ad' D w'.heap.size ∧ Below w9.heap.size w9 w') := hide (fun w9 hb => by
      have h9 := i_aroundDoc (tabs_below HT1.out hb) (maxP_go HM1.out hb (Nat.le_refl _)) HK.out HTO.out (by rw [HD.out]; exact hm2)
      rw [HD.out] at h9
      rw [ey]
      exact h9)
    have PT : Hid (∀ w9, Below w1.heap.size w1 w9 → Calls Tryz.prog 11 #[.string v9] w9 fun e w' => e = .returned (.tuple #[.slice none 0 0, .bool false]) ∧ Below w9.heap.size w9 w') := hide (fun w9 hb => by
      rw [ev]
      exact i_twice (tabs_below HT1.out hb) (maxP_go HM1.out hb (Nat.le_refl _)) HK.out (by rw [HD.out]; exact hm2))
    have HAC : Hid (∀ j, j < m → D.AC j ≤ 1048576) := hide (fun j hj => by have := doc_ac HK.out (show j < D.n by rw [HD.out]; exact hj); omega)
    have hxs : x9.size = 20 + V.size := by rw [← hx9, ByteArray.size_append]; rfl
    have HX9 := hide hx9
    have HY9 := hide hy9
    have HV9 := hide hv9
    rw [hbb, hV2] at PI PS'
    clear hbb hV ey ev hV2 hdl
    have sz1 : (⟨#[13, 10, 32, 60, 33, 45, 45, 32, 97, 32, 60, 98, 47, 62, 32, 45, 32, 45, 45, 62]⟩ : ByteArray).size = 20 := rfl
    have sz2 : (⟨#[60, 33, 45, 45, 45, 45, 62, 9, 10]⟩ : ByteArray).size = 9 := rfl
    have t1 : ¬ 9223372036854775807 < 20 + V.size := by omega
    have t2 : ¬ 9223372036854775807 < x9.size + 9 := by omega
    have t3 : ¬ 9223372036854775807 < V.size + V.size := by omega
    have t4 : ¬ 9223372036854775807 < 20 + V.size + 9 := by omega
    go_wp2_with fail
    refine (PI.out w1 (Below.refl _ _)).mono ?_
    rintro e w2 ⟨rfl, hb2⟩
    have B2 := hide hb2
    clear hb2
    go_wp2_with fail
    refine (PS'.out w2 B2.out).mono ?_
    rintro e w3 ⟨rfl, hb3⟩
    have B3 : Hid (Below w1.heap.size w1 w3) := hide (B2.out.trans (hb3.mono B2.out.size))
    clear hb3
    go_wp2_with fail
    try rw [HX9.out, HY9.out]
    refine (PA.out w3 B3.out).mono ?_
    rintro e w4 ⟨ad', c', rfl, hd4, hb4⟩
    have B4 : Hid (Below w1.heap.size w1 w4) := hide (B3.out.trans (hb4.mono B3.out.size))
    have HD4 := hide hd4
    clear hd4 hb4
    go_wp2_with fail
    try rw [HV9.out]
    refine (PT.out w4 B4.out).mono ?_
    rintro e w5 ⟨rfl, hb5⟩
    have B5 : Hid (Below w1.heap.size w1 w5) := hide (B4.out.trans (hb5.mono B4.out.size))
    have HD5 : Hid (DcAt w5 ad' D w5.heap.size) := hide (dcAt_up (dcAt_go HD4.out hb5) hb5.size)
    clear hb5
    go_wp2_with fail
    refine (l_sameItems D m ad' ad c' c w5 HD.out (by omega) HAC.out HD5.out (hdc9.out w5 B5.out)).mono ?_
    rintro e w6 ⟨rfl, hb6⟩
    have B6 : Hid (Below w1.heap.size w1 w6) := hide (B5.out.trans (hb6.mono B5.out.size))
    clear hb6
    go_wp2
    go_ret
    exact ⟨rfl, B1.out.trans (B6.out.mono B1.out.size)⟩
end Go.Proofs.YthcggdjkfebemaaGreatDoor
