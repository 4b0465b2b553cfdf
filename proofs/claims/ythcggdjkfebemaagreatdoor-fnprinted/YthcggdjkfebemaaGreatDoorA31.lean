/-
  The walk of FnPrinted.
-/
import Derived.Test.YthcggdjkfebemaaGreatDoorA29
import Derived.Test.YthcggdjkfebemaaGreatDoorA30
import Derived.BigQuiet
namespace Go.Proofs.YthcggdjkfebemaaGreatDoor
open Go.RowKit Go.Joins
set_option linter.unusedVariables false
set_option linter.unusedSimpArgs false
theorem grow_at (G : Nat) (a : Option Addr) (n cap : Nat) (zs : List Int) : GrowAt G a n cap zs := by
  have h0 : ∀ (w : World) (ad0 : Option Addr) (m0 c0 : Nat) (D0 : Dc) (up : Int), 1 ≤ m0 → m0 ≤ 900 → RdAt w G a n cap zs → DrIt (G + 1) w ad0 m0 c0 D0 → Calls Tryz.prog 37 #[.pointer (some ⟨G, 0, none⟩), .slice ad0 m0 c0, .int .i64 up, .int .i64 ((0 : Nat) : Int)] w (GrowAns G a n cap zs w m0 0) :=
    fun w ad0 m0 c0 D0 up h1 h2 h3 h4 => grow_step G a n cap zs 0 0 w ad0 m0 c0 D0 up (by omega) rfl 900 (by omega) h1 h2 h3 h4 (.inl rfl)
  have h1 : ∀ (w : World) (ad0 : Option Addr) (m0 c0 : Nat) (D0 : Dc) (up : Int), 1 ≤ m0 → m0 ≤ 850 → RdAt w G a n cap zs → DrIt (G + 1) w ad0 m0 c0 D0 → Calls Tryz.prog 37 #[.pointer (some ⟨G, 0, none⟩), .slice ad0 m0 c0, .int .i64 up, .int .i64 ((1 : Nat) : Int)] w (GrowAns G a n cap zs w m0 1) :=
    fun w ad0 m0 c0 D0 up h1 h2 h3 h4 => grow_step G a n cap zs 1 3 w ad0 m0 c0 D0 up (by omega) rfl 850 (by omega) h1 h2 h3 h4 (.inr (fun w ad0 m0 c0 D0 up k1 k2 k3 k4 => h0 w ad0 m0 c0 D0 up k1 (by omega) k3 k4))
  intro w ad0 m0 c0 D0 up k1 k2 k3 k4
  exact grow_step G a n cap zs 2 12 w ad0 m0 c0 D0 up (by omega) rfl 800 (by omega) k1 k2 k3 k4 (.inr (fun w ad0 m0 c0 D0 up k1 k2 k3 k4 => h1 w ad0 m0 c0 D0 up k1 (by omega) k3 k4))
theorem doc_head {D : Dc} (hdk : docokB D = true) : ∃ x t, docP D = 60 :: x :: t ∧ x ≠ 33 := by
  have hn := (docok_facts hdk).1
  have hz0 := place_zero (doc_good9 hdk 0 (by omega))
  obtain ⟨-, hq, -⟩ := elem_part hdk (show 0 < D.n by omega) hz0.2
  obtain ⟨h6, h7⟩ := qual_q hq
  cases e : (D.NM 0).data.toList with
  | nil => exact absurd e h6
  | cons x t9 =>
    refine ⟨x, t9 ++ (atsP (D.AN 0) (D.AV 0) (D.AC 0) ++ tlE (decide (0 + 1 < D.n ∧ D.U (0 + 1) = (0 : Nat)))) ++ Rm D 1 (opE D 1), ?_, qC_33 (h7 x (by rw [e]; exact List.mem_cons_self ..))⟩
    rw [doc_rm hdk, pc_elem hz0.2, e]
    simp
theorem ar_doc {D : Dc} (hdk : docokB D = true) (z : List UInt8) : ArP (docP D ++ z) (docP D ++ z) := by
  obtain ⟨x, t, e, hx⟩ := doc_head hdk
  rw [e]
  exact .done (tb_none ⟨by decide, by decide, by decide⟩) (hp_two hx)
theorem ar_nil : ArP [] [] := .done rfl (by rfl)
/-- What ParseDoc does at the text of a right document that is short. -/
theorem i_parsed {D : Dc} {w : World} (hT : Tabs w) (hM : MaxP w) (hdk : docokB D = true) (htz : dcTot D ≤ 1048576) (hn : D.n ≤ 40) :
    Calls Tryz.prog 11 #[.string ⟨(docP D).toArray⟩] w fun e w' => ∃ ad c, e = .returned (.tuple #[.slice ad D.n c, .bool true]) ∧ DcAt w' ad D w'.heap.size ∧ Below w.heap.size w w' := by
  have hs := doc_short hdk
  exact i_parsedoc (z := []) hT hM hdk htz (px_back (px_doc hdk) (by omega)) (lines_id _ (px_doc hdk).2) (by have := ar_doc hdk []; rw [List.append_nil] at this ⊢; exact this) ar_nil (by omega) (by omega) (by rw [List.append_nil]; omega)
set_option maxHeartbeats 8000000 in
set_option maxRecDepth 100000 in
theorem pr_walk (a : Option Addr) (n cap : Nat) (zs : List Int) (w : World) (hl : zs.length = n) (hz : ∀ x ∈ zs, 0 ≤ x ∧ x ≤ 255) (hn : n ≤ 1048576) (hs : SrcAt w a zs w.heap.size) (hT : Tabs w) (hM : MaxP w) :
    Calls Tryz.prog 3 #[.slice a n cap] w fun e w' => e = .returned (.bool true) ∧ Below w.heap.size w w' := by
  have hn' : ¬ (1048576 : Int) < (n : Int) := by omega
  have HT := hide hT
  have HM := hide hM
  have CD := hide (d_print a n cap zs w (fun G => grow_at G a n cap zs) hl hz hn hs)
  clear hs hl hz hT hM
  go_enter Tryz.func3, Tryz.ntmps3
  go_wp2_with (go_at_call 6; go_in)
  refine CD.out.mono ?_
  rintro e w1 ⟨ad, m, c, D, rfl, hD, ⟨hm1, hm2⟩, htot, hdc, hb1⟩
  have B1 := hide hb1
  have HT1 := hide (tabs_below HT.out hb1)
  have HM1 := hide (maxP_go HM.out hb1 (Nat.le_refl _))
  have HD := hide hD
  have HTO := hide htot
  have HDC := hide hdc
  clear hb1 hD htot hdc CD
  have hdc9 : Hid (∀ w9, Below w1.heap.size w1 w9 → DcAt w9 ad D w9.heap.size) := hide (fun w9 hb => dcAt_up (dcAt_go HDC.out hb) hb.size)
  have PI : Hid (∀ w9, Below w1.heap.size w1 w9 → Calls Tryz.prog 8 #[.slice ad m c] w9 fun e w' => e = .returned (.tuple #[.string (docV D), .bool (docokB D)]) ∧ Below w9.heap.size w9 w') := hide (fun w9 hb => i_printdoc D m ad c w9 HD.out HTO.out (hdc9.out w9 hb) (tabs_below HT1.out hb))
  have PS' : Hid (∀ w9, Below w1.heap.size w1 w9 → Calls Tryz.prog 9 #[.slice ad m c] w9 fun e w' => e = .returned (.tuple #[.string (docV D), .bool (docokB D)]) ∧ Below w9.heap.size w9 w') := hide (fun w9 hb => s_printdoc D m ad c w9 HD.out HTO.out (hdc9.out w9 hb))
  have OI : Hid (∀ w9, Below w1.heap.size w1 w9 → Calls Tryz.prog 10 #[.slice ad m c] w9 fun e w' => e = .returned (.bool (docokB D)) ∧ Below w9.heap.size w9 w') := hide (fun w9 hb => i_docok D m ad c w9 HD.out HTO.out (hdc9.out w9 hb) (tabs_below HT1.out hb))
  have PP : Hid (docokB D = true → ∀ w9, Below w1.heap.size w1 w9 → Calls Tryz.prog 11 #[.string (docV D)] w9 fun e w' => ∃ ad' c', e = .returned (.tuple #[.slice ad' m c', .bool true]) ∧ DcAt w' ad' D w'.heap.size ∧ Below w9.heap.size w9 w') := hide (fun hk w9 hb => by
    have h9 := i_parsed (tabs_below HT1.out hb) (maxP_go HM1.out hb (Nat.le_refl _)) hk HTO.out (by rw [HD.out]; exact hm2)
    rw [HD.out] at h9
    rw [docV_yes hk]
    exact h9)
  have HAC : Hid (docokB D = true → ∀ j, j < m → D.AC j ≤ 1048576) := hide (fun hk j hj => by have := doc_ac hk (show j < D.n by rw [HD.out]; exact hj); omega)
  obtain ⟨V, hV⟩ : ∃ V, docV D = V := ⟨_, rfl⟩
  obtain ⟨bb, hbb⟩ : ∃ bb, docokB D = bb := ⟨_, rfl⟩
  rw [hV, hbb] at PI PS'
  rw [hbb] at OI HAC
  rw [hV, hbb] at PP
  clear hV hbb
  have mV : (V.toList != V.toList) = false := by simp
  have mb : (bb != bb) = false := by simp
  go_wp2_with fail
  refine (PI.out w1 (Below.refl _ _)).mono ?_
  rintro e w2 ⟨rfl, hb2⟩
  have B2 := hide hb2
  clear hb2
  go_wp2_with fail
  refine (PS'.out w2 B2.out).mono ?_
  rintro e w3 ⟨rfl, hb3⟩
  have B3 : Hid (Below w1.heap.size w1 w3) := hide (B2.out.trans (hb3.mono B2.out.size))
  clear hb3
  go_wp2_with fail
  refine (OI.out w3 B3.out).mono ?_
  rintro e w4 ⟨rfl, hb4⟩
  have B4 : Hid (Below w1.heap.size w1 w4) := hide (B3.out.trans (hb4.mono B3.out.size))
  clear hb4
  cases bb
  · go_wp2
    go_ret
    exact ⟨rfl, B1.out.trans (B4.out.mono B1.out.size)⟩
  · go_wp2_with fail
    refine (PP.out trivial w4 B4.out).mono ?_
    rintro e w5 ⟨ad', c', rfl, hd5, hb5⟩
    have B5 : Hid (Below w1.heap.size w1 w5) := hide (B4.out.trans (hb5.mono B4.out.size))
    have HD5 := hide hd5
    clear hd5 hb5
    go_wp2_with fail
    refine (l_sameItems D m ad' ad c' c w5 HD.out (by omega) (HAC.out trivial) HD5.out (hdc9.out w5 B5.out)).mono ?_
    rintro e w6 ⟨rfl, hb6⟩
    have B6 : Hid (Below w1.heap.size w1 w6) := hide (B5.out.trans (hb6.mono B5.out.size))
    clear hb6
    go_wp2
    go_ret
    exact ⟨rfl, B1.out.trans (B6.out.mono B1.out.size)⟩
end Go.Proofs.YthcggdjkfebemaaGreatDoor
