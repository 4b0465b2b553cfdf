/-
  Texts put together: PaU, PaV.
-/
import Derived.Test.YthcggdjkfebemaaGreatDoorB29
import Derived.Test.YthcggdjkfebemaaGreatDoorB30
import Derived.BigQuiet
import Derived.Test.YthcggdjkfebemaaGreatDoorB28
/-
  The walk of FnPrinted.
-/
namespace Go.Proofs.YthcggdjkfebemaaGreatDoor
open Go.RowKit Go.Joins
set_option linter.unusedVariables false
set_option linter.unusedSimpArgs false
theorem grow_at (G : Nat) (a : Option Addr) (n cap : Nat) (zs : List Int) : GrowAt G a n cap zs := by
  have h0 : ∀ (w : World) (ad0 : Option Addr) (m0 c0 : Nat) (D0 : Dc) (up : Int), 1 ≤ m0 → m0 ≤ 900 → RdAt w G a n cap zs → DrIt (G + 1) w ad0 m0 c0 D0 → Calls Tryz.prog 37 #[.pointer (some ⟨G, 0, none⟩), .slice ad0 m0 c0, .int .i64 up, .int .i64 ((0 : Nat) : Int)] w (GrowAns G a n cap zs w m0 0) :=
    fun w ad0 m0 c0 D0 up h1 h2 h3 h4 => grow_step G a n cap zs 0 0 w ad0 m0 c0 D0 up (by omega) rfl 900 (by omega) h1 h2 h3 h4 (.inl rfl)
  have h1 : ∀ (w : World) (ad0 : Option Addr) (m0 c0 : Nat) (D0 : Dc) (up : Int), 1 ≤ m0 → m0 ≤ 850 → RdAt w G a n cap zs → DrIt (G + 1) w ad0 m0 c0 D0 → Calls Tryz.prog 37 #[.pointer (some ⟨G, 0, none⟩), .slice ad0 m0 c0, .int .i64 up, .int .i64 ((1 : Nat) : Int)] w (GrowAns G a n cap zs w m0 1) :=
    fun w ad0 m0 c0 D0 up h1 h2 h3 h4 => grow_step G a n cap zs 1 3 w ad0 m0 c0 D0 up (by omega) rfl 850 (by omega) h1 h2 h3 h4 (.inr (fun w ad0 m0 c0 D0 up k1 k2 k3 k4 => h0 w ad0 m0 c0 D0 up k1 (by omega) k3 k4))
  intro w ad0 m0 c0 D0 up k1 k2 k3 k4
  exact grow_step G a n cap zs 2 12 w ad0 m0 c0 D0 up (by omega) rfl 800 (by omega) k1 k2 k3 k4 (.inr (fun w ad0 m0 c0 D0 up k1 k2 k3 k4 => h1 w ad0 m0 c0 D0 up k1 (by omega) k3 k4))
theorem doc_head {D : Dc} (hdk : docokB D = true) : ∃ x t, docP D = 60 :: x :: t ∧ x ≠ 33 := by
  have hn := (docok_facts hdk).1
  have hz0 := place_zero (doc_good9 hdk 0 (by omega))
  obtain ⟨-, hq, -⟩ := elem_part hdk (show 0 < D.n by omega) hz0.2
  obtain ⟨h6, h7⟩ := qual_q hq
  cases e : (D.NM 0).data.toList with
  | nil => exact absurd e h6
  | cons x t9 =>
    refine ⟨x, t9 ++ (atsP (D.AN 0) (D.AV 0) (D.AC 0) ++ tlE (decide (0 + 1 < D.n ∧ D.U (0 + 1) = (0 : Nat)))) ++ Rm D 1 (opE D 1), ?_, qC_33 (h7 x (by rw [e]; exact List.mem_cons_self ..))⟩
    rw [doc_rm hdk, pc_elem hz0.2, e]
    simp
theorem ar_doc {D : Dc} (hdk : docokB D = true) (z : List UInt8) : ArP (docP D ++ z) (docP D ++ z) := by
  obtain ⟨x, t, e, hx⟩ := doc_head hdk
  rw [e]
  exact .done (tb_none ⟨by decide, by decide, by decide⟩) (hp_two hx)
theorem ar_nil : ArP [] [] := .done rfl (by rfl)
/-- What ParseDoc does at the text of a right document that is short. -/
theorem i_parsed {D : Dc} {w : World} (hT : Tabs w) (hM : MaxP w) (hdk : docokB D = true) (htz : dcTot D ≤ 1048576) (hn : D.n ≤ 40) :
    Calls Tryz.prog 11 #[.string ⟨(docP D).toArray⟩] w fun e w' => ∃ ad c, e = .returned (.tuple #[.slice ad D.n c, .bool true]) ∧ DcAt w' ad D w'.heap.size ∧ Below w.heap.size w w' := by
  have hs := doc_short hdk
  exact i_parsedoc (z := []) hT hM hdk htz (px_back (px_doc hdk) (by omega)) (lines_id _ (px_doc hdk).2) (by have := ar_doc hdk []; rw [List.append_nil] at this ⊢; exact this) ar_nil (by omega) (by omega) (by rw [List.append_nil]; omega)
set_option maxHeartbeats 8000000 in
set_option maxRecDepth 100000 in
theorem pr_walk (a : Option Addr) (n cap : Nat) (zs : List Int) (w : World) (hl : zs.length = n) (hz : ∀ x ∈ zs, 0 ≤ x ∧ x ≤ 255) (hn : n ≤ 1048576) (hs : SrcAt w a zs w.heap.size) (hT : Tabs w) (hM : MaxP w) :
    Calls Tryz.prog 3 #[.slice a n cap] w fun e w' => e = .returned (.bool true) ∧ Below w.heap.size w w' := by
  have hn' : ¬ (1048576 : Int) < (n : Int) := by omega
  have HT := hide hT
  have HM := hide hM
  have CD := hide (d_print a n cap zs w (fun G => grow_at G a n cap zs) hl hz hn hs)
  clear hs hl hz hT hM
  go_enter Tryz.func3, Tryz.ntmps3
  go_wp2_with (go_at_call 6; go_in)
  refine CD.out.mono ?_
  rintro e w1 ⟨ad, m, c, D, rfl, hD, ⟨hm1, hm2⟩, htot, hdc, hb1⟩
  have B1 := hide hb1
  have HT1 := hide (tabs_below HT.out hb1)
  have HM1 := hide (maxP_go HM.out hb1 (Nat.le_refl _))
  have HD := hide hD
  have HTO := hide htot
  have HDC := hide hdc
  clear hb1 hD htot hdc CD
  have hdc9 : Hid (∀ w9, Below w1.heap.size w1 w9 → DcAt w9 ad D w9.heap.size) := hide (fun w9 hb => dcAt_up (dcAt_go HDC.out hb) hb.size)
  have PI : Hid (∀ w9, Below w1.heap.size w1 w9 → Calls Tryz.prog 8 #[.slice ad m c] w9 fun e w' => e = .returned (.tuple #[.string (docV D), .bool (docokB D)]) ∧ Below w9.heap.size w9 w') := hide (fun w9 hb => i_printdoc D m ad c w9 HD.out HTO.out (hdc9.out w9 hb) (tabs_below HT1.out hb))
  have PS' : Hid (∀ w9, Below w1.heap.size w1 w9 → Calls Tryz.prog 9 #[.slice ad m c] w9 fun e w' => e = .returned (.tuple #[.string (docV D), .bool (docokB D)]) ∧ Below w9.heap.size w9 w') := hide (fun w9 hb => s_printdoc D m ad c w9 HD.out HTO.out (hdc9.out w9 hb))
  have OI : Hid (∀ w9, Below w1.heap.size w1 w9 → Calls Tryz.prog 10 #[.slice ad m c] w9 fun e w' => e = .returned (.bool (docokB D)) ∧ Below w9.heap.size w9 w') := hide (fun w9 hb => i_docok D m ad c w9 HD.out HTO.out (hdc9.out w9 hb) (tabs_below HT1.out hb))
  have PP : Hid (docokB D = true → ∀ w9, Below w1.heap.size w1 w9 → Calls Tryz.prog 11 #[.string (docV D)] w9 fun e w' => ∃ ad' c', e = .returned (.tuple #[.slice ad' m c', .bool true]) ∧ DcAt w' ad' D w'.heap.size ∧ Below w9.heap.size w9 w') := hide (fun hk w9 hb => by
    have h9 := i_parsed (tabs_below HT1.out hb) (maxP_go HM1.out hb (Nat.le_refl _)) hk HTO.out (by rw [HD.out]; exact hm2)
    rw [HD.out] at h9
    rw [docV_yes hk]
    exact h9)
  have HAC : Hid (docokB D = true → ∀ j, j < m → D.AC j ≤ 1048576) := hide (fun hk j hj => by have := doc_ac hk (show j < D.n by rw [HD.out]; exact hj); omega)
  obtain ⟨V, hV⟩ : ∃ V, docV D = V := ⟨_, rfl⟩
  obtain ⟨bb, hbb⟩ : ∃ bb, docokB D = bb := ⟨_, rfl⟩
  rw [hV, hbb] at PI PS'
  rw [hbb] at OI HAC
  rw [hV, hbb] at PP
  clear hV hbb
  have mV : (V.toList != V.toList) = false := by simp
  have mb : (bb != bb) = false := by simp
  go_wp2_with fail
  refine (PI.out w1 (Below.refl _ _)).mono ?_
  rintro e w2 ⟨rfl, hb2⟩
  have B2 := hide hb2
  clear hb2
  go_wp2_with fail
  refine (PS'.out w2 B2.out).mono ?_
  rintro e w3 ⟨rfl, hb3⟩
  have B3 : Hid (Below w1.heap.size w1 w3) := hide (B2.out.trans (hb3.mono B2.out.size))
  clear hb3
  go_wp2_with fail
  refine (OI.out w3 B3.out).mono ?_
  rintro e w4 ⟨rfl, hb4⟩
  have B4 : Hid (Below w1.heap.size w1 w4) := hide (B3.out.trans (hb4.mono B3.out.size))
  clear hb4
  cases bb
  · go_wp2
    go_ret
    exact ⟨rfl, B1.out.trans (B4.out.mono B1.out.size)⟩
  · go_wp2_with fail
    refine (PP.out trivial w4 B4.out).mono ?_
    rintro e w5 ⟨ad', c', rfl, hd5, hb5⟩
    have B5 : Hid (Below w1.heap.size w1 w5) := hide (B4.out.trans (hb5.mono B4.out.size))
    have HD5 := hide hd5
    clear hd5 hb5
    go_wp2_with fail
    refine (l_sameItems D m ad' ad c' c w5 HD.out (by omega) (HAC.out trivial) HD5.out (hdc9.out w5 B5.out)).mono ?_
    rintro e w6 ⟨rfl, hb6⟩
    have B6 : Hid (Below w1.heap.size w1 w6) := hide (B5.out.trans (hb6.mono B5.out.size))
    clear hb6
    go_wp2
    go_ret
    exact ⟨rfl, B1.out.trans (B6.out.mono B1.out.size)⟩
end Go.Proofs.YthcggdjkfebemaaGreatDoor

/-
  Contract of the program's reader of documents: what stands behind a document and is neither blank nor remark.
-/
namespace Go.Proofs.YthcggdjkfebemaaGreatDoor
open Go.RowKit Go.Joins
set_option linter.unusedVariables false
set_option linter.unusedSimpArgs false
theorem i_wantN (p : Value) (w : World) : Calls Tryz.prog 59 #[p, .bool false] w fun e w' => (∃ t pv, e = .panicked [{ v := .iface t pv, recovered := false }]) ∧ w' = w := by
  go_enter Tryz.func59, Tryz.ntmps59
  go_wp2
  exact ⟨rfl, ⟨_, _, rfl⟩, rfl⟩
theorem catchD_panic (p q : Addr) (x y : Value) (t : TypeId) (pv : Value) (older : List PanicEntry) (w : World) (hc : w.cell? p = some x) (hz : w.frozen? p = false) (hd : (w.setCell p (.slice none 0 0)).cell? q = some y) (hy : (w.setCell p (.slice none 0 0)).frozen? q = false) :
    CallsD Tryz.prog 54 #[.pointer (some p), .pointer (some q)] (.panicking ({ v := .iface t pv, recovered := false } :: older)) w fun e u' w' =>
      e = .returned (.tuple #[]) ∧ u' = .panicking ({ v := .iface t pv, recovered := true } :: older) ∧ w' = (w.setCell p (.slice none 0 0)).setCell q (.bool false) := by
  refine callsD_of_wpS Tryz.func54 rfl fun c₀ cs hu => ?_
  apply wpS_seq
  apply wpS_region
  simp [wpOpsS, go_sem, recoverD, hu, Tryz.ntmps54, Exit.thenS]
  refine wpS_cond (t := true) (by simp [Act.eval, Array.replicate]) ?_
  simp only [if_true]
  apply wpS_region
  simp [wpOpsS, go_sem, hc, hz, hd, hy, bodyPostS, results, Tryz.results54]
section
variable {w : World} {D : Dc} {l z z' : List UInt8}
set_option maxRecDepth 100000 in
set_option maxHeartbeats 8000000 in
theorem i_readDocN (hT : Tabs w) (hM : MaxP w) (hdk : docokB D = true) (ha : ArP l (docP D ++ z)) (hz : ArP z z') (hne : z' ≠ []) (hl : l.length ≤ 900000) (hl2 : (docP D ++ z).length ≤ 900000) :
    Calls Tryz.prog 28 #[.string ⟨l.toArray⟩] w fun e w' => e = .returned (.tuple #[.slice none 0 0, .bool false]) ∧ Below w.heap.size w w' := by
  have hu9 : (⟨z'.toArray⟩ : ByteArray) ≠ ⟨#[]⟩ := fun e => hne (by have := congrArg (fun b : ByteArray => b.data.toList) e; simpa using this)
  obtain ⟨u9, hu⟩ : ∃ u9 : ByteArray, (⟨z'.toArray⟩ : ByteArray) = u9 := ⟨_, rfl⟩
  have HUE := hide hu
  rw [hu] at hu9
  have hemp := ne_empty hu9
  clear hu hne
  have hn := (docok_facts hdk).1
  have hz0 := place_zero (doc_good9 hdk 0 (by omega))
  have hdr := doc_rm hdk
  have hpc := pc_elem (D := D) (i := 0) hz0.2
  have hop := op_elem (D := D) (i := 0) hz0.2
  obtain ⟨b, hb⟩ : ∃ b, decide (0 + 1 < D.n ∧ D.U (0 + 1) = (0 : Nat)) = b := ⟨_, rfl⟩
  rw [hb] at hop hpc
  rw [hz0.1] at hop
  have hnx := po_next hdk (show 0 < D.n by omega)
  obtain ⟨r, hr⟩ : ∃ r, Rm D 1 (opE D 1) ++ z = r := ⟨_, rfl⟩
  have hdz : docP D ++ z = 60 :: ((D.NM 0).data.toList ++ (atsP (D.AN 0) (D.AV 0) (D.AC 0) ++ (tlE b ++ r))) := by
    rw [hdr, hpc, List.append_assoc, hr]; simp
  rw [hdz] at ha hl2
  have hll : ((D.NM 0).data.toList ++ (atsP (D.AN 0) (D.AV 0) (D.AC 0) ++ (tlE b ++ r))).length ≤ 900000 := by rw [List.length_cons] at hl2; omega
  have hrl : r.length ≤ 900000 := by simp only [List.length_append] at hll; omega
  have hmf : ∀ (fn : Fn) (first cap : Array Value) (w : World), (Instr.makeFunc fn first cap).run Tryz.prog w = .ok (.func fn first cap) w := fun _ _ _ _ => rfl
  have hwaD : ∃ wa, wa = (((w.alloc (.cells #[.slice none 0 0] 24)).alloc (.cells #[.bool false] 4)).alloc (.cells #[.string ⟨l.toArray⟩, .slice none 0 0, .int .i64 (-1), .string ⟨#[]⟩] 84)) := ⟨_, rfl⟩
  obtain ⟨wa, hwa⟩ := hwaD
  have hsz : wa.heap.size = w.heap.size + 3 := by rw [hwa]; simp
  have HA : Hid (RB wa (w.heap.size + 1 + 1) l (.slice none 0 0) (.int .i64 (-1)) (.string ⟨#[]⟩)) := hide (by
    rw [hwa]
    have := heap_alloc_new ((w.alloc (.cells #[.slice none 0 0] 24)).alloc (.cells #[.bool false] 4)) (.cells #[.string ⟨l.toArray⟩, .slice none 0 0, .int .i64 (-1), .string ⟨#[]⟩] 84)
    rw [show ((w.alloc (.cells #[.slice none 0 0] 24)).alloc (.cells #[.bool false] 4)).heap.size = w.heap.size + 1 + 1 by simp] at this
    exact this)
  have hb1 : Below (w.heap.size + 1) (w.alloc (.cells #[.slice none 0 0] 24)) wa := by
    rw [hwa]
    exact ((Below.refl _ _).alloc (by simp) _).alloc (by simp) _
  have hb2 : Below (w.heap.size + 1 + 1) ((w.alloc (.cells #[.slice none 0 0] 24)).alloc (.cells #[.bool false] 4)) wa := by
    rw [hwa]
    exact (Below.refl _ _).alloc (by simp) _
  have HBW : Hid (Below w.heap.size w wa) := hide (by
    rw [hwa]
    exact (((Below.refl _ _).alloc (Nat.le_refl _) _).alloc (by simp) _).alloc (by simp; omega) _)
  have HB1 : Hid (BX wa w.heap.size (.slice none 0 0) 24) := hide (bx_low (heap_alloc_new w _) hb1 (by omega))
  have HB2 : Hid (BX wa (w.heap.size + 1) (.bool false) 4) := hide (by
    have := heap_alloc_new (w.alloc (.cells #[.slice none 0 0] 24)) (.cells #[.bool false] 4)
    rw [show (w.alloc (.cells #[.slice none 0 0] 24)).heap.size = w.heap.size + 1 by simp] at this
    exact bx_low this hb2 (by omega))
  have HEA : Hid (EnvR (w.heap.size + 1 + 1) wa) := hide ⟨w, by omega, hT, hM, HBW.out⟩
  have HAR := hide ha
  have HZ := hide hz
  have HOP := hide hop
  have HNX := hide hnx
  have HR := hide hr
  have HZ0 := hide hz0
  clear hT hM ha hz hb1 hb2 hdr hpc hop hnx hr hdz hl2 hb hz0
  go_enter_defers Tryz.func28, Tryz.ntmps28
  go_wp2_with fail
  rw [← hwa]
  clear hwa
  refine (i_around HEA.out HA.out HAR.out (by omega)).mono ?_
  rintro e w1 ⟨rfl, h1⟩
  have H1 := hide h1
  clear h1
  go_wp2_with fail
  refine (i_mustY (p := [60]) (r := (D.NM 0).data.toList ++ (atsP (D.AN 0) (D.AV 0) (D.AC 0) ++ (tlE b ++ r))) H1.out.1).mono ?_
  rintro e w2 ⟨rfl, h2⟩
  have H2 := hide (show RdP (w.heap.size + 1 + 1) wa _ _ _ _ w2 from ⟨h2.1, rg_trans H1.out.2 h2.2⟩)
  clear h2
  have HF2 := hide (fr_rg HA.out H2.out.2)
  have HP2 : Hid (PS (w.heap.size + 1 + 1) w2 D 0 (-1) false ((D.NM 0).data.toList ++ (atsP (D.AN 0) (D.AV 0) (D.AC 0) ++ (tlE b ++ r)))) := hide ⟨none, 0, 0, ⟨#[]⟩, rfl, H2.out.1, ⟨[], ⟨rfl, .inl ⟨rfl, rfl⟩⟩, fun j hj => absurd hj (Nat.not_lt_zero _)⟩, fun _ => rfl, fun h => by cases h⟩
  go_wp2_with fail
  refine (i_rdElem false b (-1) (fr_env HF2.out HEA.out) hdk (by omega) (by omega) HZ0.out.2 HZ0.out.1 (by omega) HP2.out).mono ?_
  rintro e w3 ⟨rfl, hps3, hf3⟩
  have HP3 : Hid (PS (w.heap.size + 1 + 1) w3 D 1 (opE D 1) false (Rm D 1 (opE D 1) ++ z)) := hide (by rw [HR.out, HOP.out]; exact hps3)
  have HF3 := hide (fr_trans HF2.out hf3)
  clear hps3 hf3
  go_wp2_with fail
  go_loopw [] (fun wr => ∃ i o pend, RPos D i o ∧ (Rm D i o ++ z).length ≤ 900000 ∧ Hid (PS (w.heap.size + 1 + 1) wr D i o pend (Rm D i o ++ z)) ∧ Hid (Fr (w.heap.size + 1 + 1) wa wr)) (fun wr => rOf (w.heap.size + 1 + 1) wr)
  case atStart => exact ⟨1, opE D 1, false, HNX.out, by rw [HR.out]; exact hrl, HP3, HF3⟩
  case round =>
    clear HP3 HF3 HNX
    obtain ⟨i, o, pend, hpo, hlr, HP, HF⟩ := hrel
    obtain ⟨ad, c, k, tx, hk, hB, hI, hf, hf9⟩ := HP.out
    have c1 := (rb_cells hB).2.1
    have c2 := (rb_cells hB).2.2.1
    have HBB := hide hB
    have HM := hide (rOf_of hB)
    have HII := hide hI
    have HFF := hide hf
    have HKK := hide hk
    clear hB hI hf hf9 hk
    by_cases ho : o = -1
    · subst ho
      have hin := po_done hdk hpo
      subst hin
      have hpend := ps_end hdk HP.out
      subst hpend
      have htx := HFF.out rfl
      subst htx
      have HKN : Hid (k = D.n) := hide HKK.out
      have HBz : Hid (RB wr (w.heap.size + 1 + 1) z (.slice ad k c) (.int .i64 (-1)) (.string ⟨#[]⟩)) := hide (by
        have h9 := HBB.out
        rw [rm_end, List.nil_append] at h9
        exact h9)
      have hzl : z.length ≤ 900000 := by rw [List.length_append] at hlr; omega
      clear HBB HM HP HFF HKK c1
      go_wp2_with fail
      refine (i_around (fr_env HF.out HEA.out) HBz.out HZ.out (by omega)).mono ?_
      rintro e w5 ⟨rfl, h5⟩
      have H5 := hide h5
      have k0 : w5.cell? ⟨w.heap.size + 1 + 1, 0, none⟩ = some (.string u9) := by rw [← HUE.out]; exact (rb_cells h5.1).1
      clear h5 c2
      go_wp2_with fail
      refine (i_wantN _ _).mono ?_
      rintro e w6 ⟨⟨tv, v, rfl⟩, hw6⟩
      rw [hw6]
      clear hw6 w6
      have HF5 := hide (fr_trans HF.out (fr_rg HBz.out H5.out.2))
      have g1 := bx_low HB1.out HF5.out.1 (by omega)
      have g2 := bx_low HB2.out HF5.out.1 (by omega)
      have q4 := bx_far g2 (show w.heap.size ≠ w.heap.size + 1 by omega) (.slice none 0 0)
      have q1 := bx_far (bx_set g1 (.slice none 0 0)) (show w.heap.size + 1 ≠ w.heap.size by omega) (.bool false)
      have q2 := bx_set q4 (.bool false)
      have hbl : Below w.heap.size w ((w5.setCell ⟨w.heap.size, 0, none⟩ (.slice none 0 0)).setCell ⟨w.heap.size + 1, 0, none⟩ (.bool false)) := by
        have h8 : Below w.heap.size w w5 := HBW.out.trans (HF5.out.1.mono (by omega))
        refine (h8.grown (grown_set w5 ⟨w.heap.size, 0, none⟩ (.slice none 0 0)) (by have := h8.size; omega) (fun q hq => by cases hq; exact Nat.le_refl _)).grown (grown_set _ ⟨w.heap.size + 1, 0, none⟩ (.bool false)) (by have := h8.size; simp; omega) (fun q hq => by cases hq; show w.heap.size ≤ w.heap.size + 1; omega)
      have Q1 := hide q1
      have Q2 := hide q2
      have HBL := hide hbl
      have G1 := hide g1
      have G4 := hide q4
      clear q1 q2 hbl g1 g2 q4 k0
      go_wp2
      refine leaves_cons (f := 54) (args := #[.pointer (some ⟨w.heap.size, 0, none⟩), .pointer (some ⟨w.heap.size + 1, 0, none⟩)]) (by simp) (by simp [go_sem]) ?_
      refine (catchD_panic ⟨w.heap.size, 0, none⟩ ⟨w.heap.size + 1, 0, none⟩ _ _ tv v [] w5 (bx_cell G1.out) (bx_frozen G1.out) (bx_cell G4.out) (bx_frozen G4.out)).mono ?_
      rintro e u7 w9 ⟨rfl, rfl, hw9⟩
      have q1 := Q1.out
      have q2 := Q2.out
      have hbl := HBL.out
      rw [← hw9] at q1 q2 hbl
      clear hw9
      have d1 := bx_cell q1
      have d2 := bx_cell q2
      have HQ := hide hbl
      clear hbl
      simp [Leaves, settle, results, Tryz.results28, go_sem, d1, d2]
      exact HQ.out
    · have ho0 : 0 ≤ o := by have := hpo.2.2.1; omega
      clear HBB HII HFF HKK c1
      go_wp2_with fail
      refine (i_rdBelow pend z (fr_env HF.out HEA.out) hdk (by omega) hpo ho0 HP.out).mono ?_
      rintro e w5 ⟨rfl, i', o', pend', hpo', hps', hf', hlt'⟩
      have HP' := hide hps'
      have HF' := hide (fr_trans HF.out hf')
      clear hps' hf'
      go_wp2
      go_roundw
      case rel => exact ⟨i', o', pend', hpo', by omega, HP', HF'⟩
      case measure =>
        obtain ⟨ad', c', k', tx', -, hB', -⟩ := HP'.out
        rw [HM.out, rOf_of hB']
        exact hlt'
end
end Go.Proofs.YthcggdjkfebemaaGreatDoor
