/-
  Texts put together: PaR, PaS, DrDoc.
-/
import Derived.Test.YthcggdjkfebemaaGreatDoorB27
import Derived.Defers
import Derived.Recover
import Derived.Test.YthcggdjkfebemaaGreatDoorB15
import Derived.Test.YthcggdjkfebemaaGreatDoorB24
/-
  Contract of the program's reader of documents: the whole text, where a right document stands in it.
-/
namespace Go.Proofs.YthcggdjkfebemaaGreatDoor
open Go.RowKit Go.Joins
set_option linter.unusedVariables false
set_option linter.unusedSimpArgs false
/-- A box of one cell. -/
def BX (w : World) (L : Nat) (v : Value) (t : TypeId) : Prop := w.heap[L]? = some (.cells #[v] t (0, 0))
section
variable {w w' : World} {L : Nat} {v : Value} {t : TypeId}
theorem bx_cell (h : BX w L v t) : w.cell? ⟨L, 0, none⟩ = some v := by
  rw [cell_of_row w L 0 _ _ (0, 0) h]; rfl
theorem bx_frozen (h : BX w L v t) : w.frozen? ⟨L, 0, none⟩ = false := frozen_of_row w L 0 _ _ h
theorem bx_set (h : BX w L v t) (v' : Value) : BX (w.setCell ⟨L, 0, none⟩ v') L v' t := heap_setCell_same w L 0 _ _ v' h
theorem bx_low {R : Nat} (h : BX w L v t) (hb : Below R w w') (hR : L < R) : BX w' L v t := (hb.block L hR).trans h
theorem bx_far {M : Nat} (h : BX w L v t) (hne : M ≠ L) (v' : Value) : BX (w.setCell ⟨M, 0, none⟩ v') L v t := (heap_setCell_far w ⟨M, 0, none⟩ v' L hne).trans h
theorem bx_lt (h : BX w L v t) : L < w.heap.size := (Array.getElem?_eq_some_iff.1 h).1
end
theorem catchD_idle (p q : Addr) (w : World) :
    CallsD Tryz.prog 54 #[.pointer (some p), .pointer (some q)] .returning w fun e u' w' => e = .returned (.tuple #[]) ∧ u' = .returning ∧ w' = w := by
  refine callsD_of_wpS Tryz.func54 rfl fun c₀ cs hu => ?_
  apply wpS_seq
  apply wpS_region
  simp [wpOpsS, go_sem, recoverD, hu, Tryz.ntmps54, Exit.thenS]
  refine wpS_cond (t := false) (by simp [Act.eval, Array.replicate]) ?_
  simp only [Bool.false_eq_true, if_false]
  refine wpS_of_wp (wp_skip ?_)
  cases c₀
  simp_all [bodyPostS, results, Tryz.results54]
theorem ito_box {B : Nat} {w : World} {ad : Option Addr} {k c : Nat} {D : Dc} {L : Nat} {v : Value} {t : TypeId} (h : ItO B w ad k c D) (hx : BX w L v t) (hL : L < B) (ht : t ≠ AT) (v' : Value) : ItO B (w.setCell ⟨L, 0, none⟩ v') ad k c D :=
  ito_kept h (grown_set w ⟨L, 0, none⟩ v') (fun j hj e => by cases hj; have := (ito_lt h L e).1; omega) (keepA_step (keepA_refl w) (grown_set w ⟨L, 0, none⟩ v') (fun q hq => by cases hq; exact .inr ⟨_, _, _, hx, ht⟩))
theorem ps_end {R : Nat} {w : World} {D : Dc} {pend : Bool} {l : List UInt8} (hdk : docokB D = true) (h : PS R w D D.n (-1) pend l) : pend = false := by
  cases pend
  · rfl
  · obtain ⟨ad, c, k, tx, hk, hB, hI, -, hp⟩ := h
    obtain ⟨-, -, h3, h4, -⟩ := hp rfl
    have hkn : k + 1 = D.n := hk
    rcases Nat.eq_zero_or_pos k with e | e
    · subst e
      have hz := (place_zero (doc_good9 hdk 0 (by omega))).2
      rw [h3] at hz
      simp [isE, ByteArray.toList_eq] at hz
    · have := up_pos hdk e (show k < D.n by omega)
      omega
section
variable {w : World} {D : Dc} {l z : List UInt8}
set_option maxRecDepth 100000 in
set_option maxHeartbeats 8000000 in
theorem i_readDoc (hT : Tabs w) (hM : MaxP w) (hdk : docokB D = true) (ha : ArP l (docP D ++ z)) (hz : ArP z []) (hl : l.length ≤ 900000) (hl2 : (docP D ++ z).length ≤ 900000) :
    Calls Tryz.prog 28 #[.string ⟨l.toArray⟩] w fun e w' => ∃ ad c, e = .returned (.tuple #[.slice ad D.n c, .bool true]) ∧ DcAt w' ad D w'.heap.size ∧ Below w.heap.size w w' := by
  have hn := (docok_facts hdk).1
  have hz0 := place_zero (doc_good9 hdk 0 (by omega))
  have hdr := doc_rm hdk
  have hpc := pc_elem (D := D) (i := 0) hz0.2
  have hop := op_elem (D := D) (i := 0) hz0.2
  obtain ⟨b, hb⟩ : ∃ b, decide (0 + 1 < D.n ∧ D.U (0 + 1) = (0 : Nat)) = b := ⟨_, rfl⟩
  rw [hb] at hop hpc
  rw [hz0.1] at hop
  have hnx := po_next hdk (show 0 < D.n by omega)
  obtain ⟨r, hr⟩ : ∃ r, Rm D 1 (opE D 1) ++ z = r := ⟨_, rfl⟩
  have hdz : docP D ++ z = 60 :: ((D.NM 0).data.toList ++ (atsP (D.AN 0) (D.AV 0) (D.AC 0) ++ (tlE b ++ r))) := by
    rw [hdr, hpc, List.append_assoc, hr]; simp
  rw [hdz] at ha hl2
  have hll : ((D.NM 0).data.toList ++ (atsP (D.AN 0) (D.AV 0) (D.AC 0) ++ (tlE b ++ r))).length ≤ 900000 := by rw [List.length_cons] at hl2; omega
  have hrl : r.length ≤ 900000 := by simp only [List.length_append] at hll; omega
  have hmf : ∀ (fn : Fn) (first cap : Array Value) (w : World), (Instr.makeFunc fn first cap).run Tryz.prog w = .ok (.func fn first cap) w := fun _ _ _ _ => rfl
  have hwaD : ∃ wa, wa = (((w.alloc (.cells #[.slice none 0 0] 24)).alloc (.cells #[.bool false] 4)).alloc (.cells #[.string ⟨l.toArray⟩, .slice none 0 0, .int .i64 (-1), .string ⟨#[]⟩] 84)) := ⟨_, rfl⟩
  obtain ⟨wa, hwa⟩ := hwaD
  have hsz : wa.heap.size = w.heap.size + 3 := by rw [hwa]; simp
  have HA : Hid (RB wa (w.heap.size + 1 + 1) l (.slice none 0 0) (.int .i64 (-1)) (.string ⟨#[]⟩)) := hide (by
    rw [hwa]
    have := heap_alloc_new ((w.alloc (.cells #[.slice none 0 0] 24)).alloc (.cells #[.bool false] 4)) (.cells #[.string ⟨l.toArray⟩, .slice none 0 0, .int .i64 (-1), .string ⟨#[]⟩] 84)
    rw [show ((w.alloc (.cells #[.slice none 0 0] 24)).alloc (.cells #[.bool false] 4)).heap.size = w.heap.size + 1 + 1 by simp] at this
    exact this)
  have hb1 : Below (w.heap.size + 1) (w.alloc (.cells #[.slice none 0 0] 24)) wa := by
    rw [hwa]
    exact ((Below.refl _ _).alloc (by simp) _).alloc (by simp) _
  have hb2 : Below (w.heap.size + 1 + 1) ((w.alloc (.cells #[.slice none 0 0] 24)).alloc (.cells #[.bool false] 4)) wa := by
    rw [hwa]
    exact (Below.refl _ _).alloc (by simp) _
  have HBW : Hid (Below w.heap.size w wa) := hide (by
    rw [hwa]
    exact (((Below.refl _ _).alloc (Nat.le_refl _) _).alloc (by simp) _).alloc (by simp; omega) _)
  have HB1 : Hid (BX wa w.heap.size (.slice none 0 0) 24) := hide (bx_low (heap_alloc_new w _) hb1 (by omega))
  have HB2 : Hid (BX wa (w.heap.size + 1) (.bool false) 4) := hide (by
    have := heap_alloc_new (w.alloc (.cells #[.slice none 0 0] 24)) (.cells #[.bool false] 4)
    rw [show (w.alloc (.cells #[.slice none 0 0] 24)).heap.size = w.heap.size + 1 by simp] at this
    exact bx_low this hb2 (by omega))
  have HEA : Hid (EnvR (w.heap.size + 1 + 1) wa) := hide ⟨w, by omega, hT, hM, HBW.out⟩
  have HAR := hide ha
  have HZ := hide hz
  have HOP := hide hop
  have HNX := hide hnx
  have HR := hide hr
  have HZ0 := hide hz0
  clear hT hM ha hz hb1 hb2 hdr hpc hop hnx hr hdz hl2 hb hz0
  go_enter_defers Tryz.func28, Tryz.ntmps28
  go_wp2_with fail
  rw [← hwa]
  clear hwa
  refine (i_around HEA.out HA.out HAR.out (by omega)).mono ?_
  rintro e w1 ⟨rfl, h1⟩
  have H1 := hide h1
  clear h1
  go_wp2_with fail
  refine (i_mustY (p := [60]) (r := (D.NM 0).data.toList ++ (atsP (D.AN 0) (D.AV 0) (D.AC 0) ++ (tlE b ++ r))) H1.out.1).mono ?_
  rintro e w2 ⟨rfl, h2⟩
  have H2 := hide (show RdP (w.heap.size + 1 + 1) wa _ _ _ _ w2 from ⟨h2.1, rg_trans H1.out.2 h2.2⟩)
  clear h2
  have HF2 := hide (fr_rg HA.out H2.out.2)
  have HP2 : Hid (PS (w.heap.size + 1 + 1) w2 D 0 (-1) false ((D.NM 0).data.toList ++ (atsP (D.AN 0) (D.AV 0) (D.AC 0) ++ (tlE b ++ r)))) := hide ⟨none, 0, 0, ⟨#[]⟩, rfl, H2.out.1, ⟨[], ⟨rfl, .inl ⟨rfl, rfl⟩⟩, fun j hj => absurd hj (Nat.not_lt_zero _)⟩, fun _ => rfl, fun h => by cases h⟩
  go_wp2_with fail
  refine (i_rdElem false b (-1) (fr_env HF2.out HEA.out) hdk (by omega) (by omega) HZ0.out.2 HZ0.out.1 (by omega) HP2.out).mono ?_
  rintro e w3 ⟨rfl, hps3, hf3⟩
  have HP3 : Hid (PS (w.heap.size + 1 + 1) w3 D 1 (opE D 1) false (Rm D 1 (opE D 1) ++ z)) := hide (by rw [HR.out, HOP.out]; exact hps3)
  have HF3 := hide (fr_trans HF2.out hf3)
  clear hps3 hf3
  go_wp2_with fail
  go_loopw [] (fun wr => ∃ i o pend, RPos D i o ∧ (Rm D i o ++ z).length ≤ 900000 ∧ Hid (PS (w.heap.size + 1 + 1) wr D i o pend (Rm D i o ++ z)) ∧ Hid (Fr (w.heap.size + 1 + 1) wa wr)) (fun wr => rOf (w.heap.size + 1 + 1) wr)
  case atStart => exact ⟨1, opE D 1, false, HNX.out, by rw [HR.out]; exact hrl, HP3, HF3⟩
  case round =>
    clear HP3 HF3 HNX
    obtain ⟨i, o, pend, hpo, hlr, HP, HF⟩ := hrel
    obtain ⟨ad, c, k, tx, hk, hB, hI, hf, hf9⟩ := HP.out
    have c1 := (rb_cells hB).2.1
    have c2 := (rb_cells hB).2.2.1
    have HBB := hide hB
    have HM := hide (rOf_of hB)
    have HII := hide hI
    have HFF := hide hf
    have HKK := hide hk
    clear hB hI hf hf9 hk
    by_cases ho : o = -1
    · subst ho
      have hin := po_done hdk hpo
      subst hin
      have hpend := ps_end hdk HP.out
      subst hpend
      have htx := HFF.out rfl
      subst htx
      have HKN : Hid (k = D.n) := hide HKK.out
      have HBz : Hid (RB wr (w.heap.size + 1 + 1) z (.slice ad k c) (.int .i64 (-1)) (.string ⟨#[]⟩)) := hide (by
        have h9 := HBB.out
        rw [rm_end, List.nil_append] at h9
        exact h9)
      have hzl : z.length ≤ 900000 := by rw [List.length_append] at hlr; omega
      clear HBB HM HP HFF HKK c1
      go_wp2_with fail
      refine (i_around (fr_env HF.out HEA.out) HBz.out HZ.out (by omega)).mono ?_
      rintro e w5 ⟨rfl, h5⟩
      have H5 := hide h5
      have k0 := (rb_cells h5.1).1
      have k1 := (rb_cells h5.1).2.1
      clear h5 c2
      go_wp2_with fail
      refine (i_wantY _ _).mono ?_
      rintro e w6 ⟨rfl, hw6⟩
      rw [hw6]
      clear hw6 w6
      have HF5 := hide (fr_trans HF.out (fr_rg HBz.out H5.out.2))
      have b1 := bx_low HB1.out HF5.out.1 (by omega)
      have b2 := bx_low HB2.out HF5.out.1 (by omega)
      have c1 := bx_cell b1
      have c2 := bx_cell b2
      have f1 := bx_frozen b1
      have f2 := bx_frozen b2
      have BB1 := hide b1
      have BB2 := hide b2
      have q2' := bx_far b2 (show w.heap.size ≠ w.heap.size + 1 by omega) (.slice ad k c)
      have s1 := bx_cell q2'
      have s2 := bx_frozen q2'
      have Q2' := hide q2'
      clear b1 b2 q2'
      go_wp2
      have q1 := bx_far (bx_set BB1.out (.slice ad k c)) (show w.heap.size + 1 ≠ w.heap.size by omega) (.bool true)
      have q2 := bx_set Q2'.out (.bool true)
      have HI5 := hide (ito_rg HBz.out HII.out H5.out.2)
      have hi6 := ito_box HI5.out BB1.out (by omega) (by decide) (.slice ad k c)
      have hi7 := ito_box hi6 Q2'.out (by omega) (by decide) (.bool true)
      have hbl : Below w.heap.size w ((w5.setCell ⟨w.heap.size, 0, none⟩ (.slice ad k c)).setCell ⟨w.heap.size + 1, 0, none⟩ (.bool true)) := by
        have h8 : Below w.heap.size w w5 := HBW.out.trans (HF5.out.1.mono (by omega))
        refine (h8.grown (grown_set w5 ⟨w.heap.size, 0, none⟩ (.slice ad k c)) (by have := h8.size; omega) (fun q hq => by cases hq; exact Nat.le_refl _)).grown (grown_set _ ⟨w.heap.size + 1, 0, none⟩ (.bool true)) (by have := h8.size; simp; omega) (fun q hq => by cases hq; show w.heap.size ≤ w.heap.size + 1; omega)
      obtain ⟨wf, hwf⟩ : ∃ wf, (w5.setCell ⟨w.heap.size, 0, none⟩ (.slice ad k c)).setCell ⟨w.heap.size + 1, 0, none⟩ (.bool true) = wf := ⟨_, rfl⟩
      rw [hwf] at q1 q2 hi7 hbl
      rw [hwf]
      clear hwf
      have d1 := bx_cell q1
      have d2 := bx_cell q2
      refine leaves_cons (f := 54) (args := #[.pointer (some ⟨w.heap.size, 0, none⟩), .pointer (some ⟨w.heap.size + 1, 0, none⟩)]) (by simp) (by simp [go_sem]) ?_
      refine (catchD_idle ⟨w.heap.size, 0, none⟩ ⟨w.heap.size + 1, 0, none⟩ _).mono ?_
      rintro e u9 w9 ⟨rfl, rfl, rfl⟩
      simp [Leaves, settle, results, Tryz.results28, go_sem, d1, d2]
      exact ⟨ad, ⟨rfl, HKN.out⟩, ito_dc hi7 HKN.out, hbl⟩
    · have ho0 : 0 ≤ o := by have := hpo.2.2.1; omega
      clear HBB HII HFF HKK c1
      go_wp2_with fail
      refine (i_rdBelow pend z (fr_env HF.out HEA.out) hdk (by omega) hpo ho0 HP.out).mono ?_
      rintro e w5 ⟨rfl, i', o', pend', hpo', hps', hf', hlt'⟩
      have HP' := hide hps'
      have HF' := hide (fr_trans HF.out hf')
      clear hps' hf'
      go_wp2
      go_roundw
      case rel => exact ⟨i', o', pend', hpo', by omega, HP', HF'⟩
      case measure =>
        obtain ⟨ad', c', k', tx', -, hB', -⟩ := HP'.out
        rw [HM.out, rOf_of hB']
        exact hlt'
end
end Go.Proofs.YthcggdjkfebemaaGreatDoor

/-
  Contract of the program's reader of documents: at the text of a right document, blanks and remarks around.
-/
namespace Go.Proofs.YthcggdjkfebemaaGreatDoor
open Go.RowKit Go.Joins
set_option linter.unusedVariables false
set_option linter.unusedSimpArgs false
theorem maxP_lt {w : World} (h : MaxP w) : 2 < w.heap.size := by
  obtain ⟨m, hm⟩ := h
  exact World.block_lt_of_cell? w _ hm
section
variable {w : World} {D : Dc} {s l z : List UInt8}
set_option maxRecDepth 100000 in
set_option maxHeartbeats 8000000 in
theorem i_parsedoc (hT : Tabs w) (hM : MaxP w) (hdk : docokB D = true) (htz : dcTot D ≤ 1048576) (hpl : plainB ⟨s.toArray⟩ = true) (hs : linesB s = l) (ha : ArP l (docP D ++ z)) (hz : ArP z []) (hl0 : s.length ≤ 900000) (hl : l.length ≤ 900000) (hl2 : (docP D ++ z).length ≤ 900000) :
    Calls Tryz.prog 11 #[.string ⟨s.toArray⟩] w fun e w' => ∃ ad c, e = .returned (.tuple #[.slice ad D.n c, .bool true]) ∧ DcAt w' ad D w'.heap.size ∧ Below w.heap.size w w' := by
  have hsz : (⟨s.toArray⟩ : ByteArray).size ≤ 1048576 := by rw [show (⟨s.toArray⟩ : ByteArray).size = s.length from List.size_toArray]; omega
  have CP := hide (i_plain ⟨s.toArray⟩ w hsz hT)
  rw [hpl] at CP
  have HT := hide hT
  have HM := hide hM
  have HS := hide hs
  have HA := hide ha
  have HZ := hide hz
  have HTZ := hide htz
  have HSZ := hide hsz
  clear hT hM hs ha hz hsz hpl htz
  go_enter Tryz.func11, Tryz.ntmps11
  go_wp2_with fail
  refine CP.out.mono ?_
  rintro e w1 ⟨rfl, hb1⟩
  have HB1 := hide hb1
  have hm1 := maxP_go HM.out hb1 (Nat.le_refl _)
  have CL : Hid (Calls Tryz.prog 29 #[.string ⟨s.toArray⟩] w1 fun e w' => e = .returned (.string ⟨l.toArray⟩) ∧ Below w1.heap.size w1 w') := hide (by
    obtain ⟨m, hm⟩ := hm1
    have h9 := i_lines ⟨s.toArray⟩ m w1 HSZ.out (maxP_lt ⟨m, hm⟩) hm
    rw [show linesB (⟨s.toArray⟩ : ByteArray).data.toList = l from HS.out] at h9
    exact h9)
  have HM1 := hide hm1
  clear hb1 hm1
  go_wp2_with fail
  refine CL.out.mono ?_
  rintro e w2 ⟨rfl, hb2⟩
  have HB2 : Hid (Below w.heap.size w w2) := hide (HB1.out.trans (hb2.mono HB1.out.size))
  have HM2 := hide (maxP_go HM1.out hb2 (Nat.le_refl _))
  clear hb2
  go_wp2_with fail
  refine (i_readDoc (tabs_below HT.out HB2.out) HM2.out hdk HA.out HZ.out hl hl2).mono ?_
  rintro e w3 ⟨ad, c, rfl, hd3, hb3⟩
  have HB3 : Hid (Below w.heap.size w w3) := hide (HB2.out.trans (hb3.mono HB2.out.size))
  have HD3 := hide hd3
  have CD := hide (i_docok D D.n ad c w3 rfl HTZ.out hd3 (tabs_below HT.out HB3.out))
  rw [hdk] at CD
  clear hd3 hb3
  go_wp2_with fail
  refine CD.out.mono ?_
  rintro e w4 ⟨rfl, hb4⟩
  have HB4 : Hid (Below w.heap.size w w4) := hide (HB3.out.trans (hb4.mono HB3.out.size))
  have HD4 : Hid (DcAt w4 ad D w4.heap.size) := hide (dcAt_up (dcAt_go HD3.out hb4) hb4.size)
  clear hb4
  go_wp2
  refine bodyPost_ret (v := .tuple #[.slice ad D.n c, .bool true]) (by simp [results, Tryz.results11, go_sem]) rfl ?_
  exact ⟨ad, c, rfl, HD4.out, HB4.out⟩
end
end Go.Proofs.YthcggdjkfebemaaGreatDoor

/-
  Contracts: the drawn document: whatever the code is, a row of items of its own, with what is hurt in it.
-/
namespace Go.Proofs.YthcggdjkfebemaaGreatDoor
open Go.RowKit Go.Joins
set_option linter.unusedVariables false
set_option linter.unusedSimpArgs false
set_option maxHeartbeats 1000000 in
theorem d_belowG (G : Nat) (a : Option Addr) (n cap : Nat) (zs : List Int) (m : Int) (w : World) (hm : 1 ≤ m) (hm' : m ≤ 256) (h : RdAt w G a n cap zs) :
    Calls Tryz.prog 30 #[.pointer (some ⟨G, 0, none⟩), .int .i64 m] w fun e w' => ∃ x : Int, 0 ≤ x ∧ x < m ∧ e = .returned (.int .i64 x) ∧ Drew G a n cap zs w w' := by
  by_cases h2 : 2 ≤ m
  · exact d_below G a n cap zs m w h2 hm' h
  · have h1 : m ≤ 1 := by omega
    have HH := hide h
    clear h
    go_enter Tryz.func30, Tryz.ntmps30
    go_wp2
    go_ret
    exact ⟨0, by omega, by omega, rfl, drew_refl HH.out⟩
/-- What grow does, asked at one depth. -/
def GrowAt (G : Nat) (a : Option Addr) (n cap : Nat) (zs : List Int) : Prop := ∀ (w : World) (ad0 : Option Addr) (m0 c0 : Nat) (D0 : Dc) (up : Int), 1 ≤ m0 → m0 ≤ 800 → RdAt w G a n cap zs → DrIt (G + 1) w ad0 m0 c0 D0 →
    Calls Tryz.prog 37 #[.pointer (some ⟨G, 0, none⟩), .slice ad0 m0 c0, .int .i64 up, .int .i64 2] w (fun e w' => ∃ ad m c D, e = .returned (.slice ad m c) ∧ GS G a n cap zs w w' ad m c D ∧ m0 ≤ m ∧ m ≤ m0 + 39)
def D1 (u : Int) (nm : ByteArray) : Dc := ⟨1, fun _ => u, fun _ => nm, fun _ => ⟨#[]⟩, fun _ => 0, fun _ _ => ⟨#[]⟩, fun _ _ => ⟨#[]⟩⟩
theorem drIt_one (w : World) (G : Nat) (u : Int) (nm : ByteArray) (hG : G < w.heap.size) (hn : nm.size ≤ 8) : DrIt (G + 1) (w.alloc (.cells #[.int .i64 u, .string nm, .string ⟨#[]⟩, .slice none 0 0] IT)) (some ⟨w.heap.size, 0, none⟩) 1 1 (D1 u nm) := by
  refine ⟨[.int .i64 u, .string nm, .string ⟨#[]⟩, .slice none 0 0], ⟨rfl, .inr ⟨w.heap.size, 1, _, rfl, hG, heap_alloc_new w _, Nat.le_refl _, by unfold maxLen; omega, rfl, rfl⟩⟩, rfl, fun j hj => ?_⟩
  have : j = 0 := by omega
  subst this
  exact ⟨none, 0, ⟨rfl, rfl, rfl, rfl⟩, fun h => absurd h (Nat.lt_irrefl _), Nat.le_refl _, hn, (show (0 : Nat) ≤ 8 from by omega), (show (0 : Nat) ≤ 8 from by omega), fun k hk => absurd hk (Nat.not_lt_zero _)⟩
def updU (D : Dc) (k : Nat) (y : Int) : Dc := ⟨D.n, fun j => if j = k then y else D.U j, D.NM, D.TX, D.AC, D.AN, D.AV⟩
def updN (D : Dc) (k : Nat) (y : ByteArray) : Dc := ⟨D.n, D.U, fun j => if j = k then y else D.NM j, D.TX, D.AC, D.AN, D.AV⟩
def updT (D : Dc) (k : Nat) (y : ByteArray) : Dc := ⟨D.n, D.U, D.NM, fun j => if j = k then y else D.TX j, D.AC, D.AN, D.AV⟩
section
variable {G : Nat} {a : Option Addr} {n cap : Nat} {zs : List Int} {w0 w : World} {g m c k : Nat} {D D' : Dc} {xs : List Value}
theorem gs_cell (h : GS G a n cap zs w0 w (some ⟨g, 0, none⟩) m c D) (i : Nat) (hi : i < m * 4) : (∃ v, w.cell? ⟨g, i, none⟩ = some v) ∧ w.frozen? ⟨g, i, none⟩ = false := by
  obtain ⟨xs, h1, h2⟩ := h.2.1
  refine ⟨?_, h1.frozenAt i⟩
  rw [h1.cellAt i (by omega)]
  exact ⟨_, List.getElem?_eq_getElem (by rw [h1.1]; omega)⟩
theorem gs_store (h : GS G a n cap zs w0 w (some ⟨g, 0, none⟩) m c D) (i : Nat) (v : Value) (hI : ∀ (W : World) (xs : List Value), xs.length = m * 4 → Its W xs m D → Its W (xs.set i v) m D') : GS G a n cap zs w0 (w.setCell ⟨g, i, none⟩ v) (some ⟨g, 0, none⟩) m c D' := by
  obtain ⟨h1, ⟨xs, h2, h3⟩, h4, h5⟩ := h
  have hg := grown_set w ⟨g, i, none⟩ v
  have hlt := h2.lt g rfl
  have hrow : ∀ k, some g = some k → k = g := fun k hk => by cases hk; rfl
  have hk : KeepA w (w.setCell ⟨g, i, none⟩ v) := keepA_own (keepA_refl w) h2 hg
  refine ⟨rd_grown h1 hg (fun k hk => by have := hrow k hk; omega), ⟨_, (h2.stored i v).1, hI _ _ h2.1 (its_keep h3 hk)⟩, ?_, keepA_trans h5 hk⟩
  exact h4.grown hg (Nat.le_of_lt (rd_lt h1)) (fun k hk => by have := hrow k hk; omega)
theorem its_U (y : Int) (hk : k < m) (W : World) (xs : List Value) (hl : xs.length = m * 4) (h : Its W xs m D) : Its W (xs.set (k * 4) (.int .i64 y)) m (updU D k y) := by
  refine ⟨h.1, fun j hj => ?_⟩
  obtain ⟨ad, cp, ⟨c0, c1, c2, c3⟩, h2⟩ := h.2 j hj
  refine ⟨ad, cp, ⟨?_, ?_, ?_, ?_⟩, h2⟩
  · by_cases e : j = k
    · subst e; rw [List.getElem?_set_self (by omega)]; show _ = some (Value.int .i64 (if j = j then y else D.U j)); rw [if_pos rfl]
    · rw [List.getElem?_set_ne (by omega)]; show _ = some (Value.int .i64 (if j = k then y else D.U j)); rw [if_neg e]; exact c0
  · rw [List.getElem?_set_ne (by omega)]; exact c1
  · rw [List.getElem?_set_ne (by omega)]; exact c2
  · rw [List.getElem?_set_ne (by omega)]; exact c3
theorem its_N (y : ByteArray) (hy : y.size ≤ 8) (hk : k < m) (W : World) (xs : List Value) (hl : xs.length = m * 4) (h : Its W xs m D) : Its W (xs.set (k * 4 + 1) (.string y)) m (updN D k y) := by
  refine ⟨h.1, fun j hj => ?_⟩
  obtain ⟨ad, cp, ⟨c0, c1, c2, c3⟩, h2, h3, s1, s2, s3⟩ := h.2 j hj
  refine ⟨ad, cp, ⟨?_, ?_, ?_, ?_⟩, h2, h3, ?_, s2, s3⟩
  · rw [List.getElem?_set_ne (by omega)]; exact c0
  · by_cases e : j = k
    · subst e; rw [List.getElem?_set_self (by omega)]; show _ = some (Value.string (if j = j then y else D.NM j)); rw [if_pos rfl]
    · rw [List.getElem?_set_ne (by omega)]; show _ = some (Value.string (if j = k then y else D.NM j)); rw [if_neg e]; exact c1
  · rw [List.getElem?_set_ne (by omega)]; exact c2
  · rw [List.getElem?_set_ne (by omega)]; exact c3
  · show (if j = k then y else D.NM j).size ≤ 8
    split
    · exact hy
    · exact s1
theorem its_T (y : ByteArray) (hy : y.size ≤ 8) (hk : k < m) (W : World) (xs : List Value) (hl : xs.length = m * 4) (h : Its W xs m D) : Its W (xs.set (k * 4 + 2) (.string y)) m (updT D k y) := by
  refine ⟨h.1, fun j hj => ?_⟩
  obtain ⟨ad, cp, ⟨c0, c1, c2, c3⟩, h2, h3, s1, s2, s3⟩ := h.2 j hj
  refine ⟨ad, cp, ⟨?_, ?_, ?_, ?_⟩, h2, h3, s1, ?_, s3⟩
  · rw [List.getElem?_set_ne (by omega)]; exact c0
  · rw [List.getElem?_set_ne (by omega)]; exact c1
  · by_cases e : j = k
    · subst e; rw [List.getElem?_set_self (by omega)]; show _ = some (Value.string (if j = j then y else D.TX j)); rw [if_pos rfl]
    · rw [List.getElem?_set_ne (by omega)]; show _ = some (Value.string (if j = k then y else D.TX j)); rw [if_neg e]; exact c2
  · rw [List.getElem?_set_ne (by omega)]; exact c3
  · show (if j = k then y else D.TX j).size ≤ 8
    split
    · exact hy
    · exact s2
end
set_option maxRecDepth 100000 in
set_option maxHeartbeats 4000000 in
theorem d_doc (G : Nat) (a : Option Addr) (n cap : Nat) (zs : List Int) (w : World) (hgrow : GrowAt G a n cap zs) (h : RdAt w G a n cap zs) :
    Calls Tryz.prog 16 #[.pointer (some ⟨G, 0, none⟩)] w fun e w' => ∃ ad m c D, e = .returned (.slice ad m c) ∧ GS G a n cap zs w w' ad m c D ∧ 1 ≤ m ∧ m ≤ 40 := by
  have HH := hide h
  have HGR := hide hgrow
  clear h hgrow
  go_enter Tryz.func16, Tryz.ntmps16
  go_wp2_with fail
  refine (d_name G a n cap zs _ HH.out).mono ?_
  rintro e w1 ⟨nm, hn1, hn5, rfl, hd⟩
  have hk1 := keepA_drew (keepA_refl w) HH.out hd
  have hb1 := below_drew (Below.refl G w) hd (Nat.le_of_lt (rd_lt HH.out))
  have hlt1 := rd_lt hd.1
  have HGS : Hid (GS G a n cap zs w (w1.alloc (.cells #[.int .i64 (-1), .string nm, .string ⟨#[]⟩, .slice none 0 0] IT)) (some ⟨w1.heap.size, 0, none⟩) 1 1 (D1 (-1) nm)) := hide ⟨rd_alloc hd.1 _, drIt_one w1 G (-1) nm hlt1 (by omega), hb1.alloc (Nat.le_of_lt hlt1) _, keepA_below hk1 ((Below.refl _ _).alloc (Nat.le_refl _) _)⟩
  clear hd hk1 hb1
  go_wp2_with fail
  refine (HGR.out _ _ 1 1 _ 0 (by omega) (by omega) HGS.out.1 HGS.out.2.1).mono ?_
  rintro e w2 ⟨ad, m, c, D, rfl, hg2, hm1, hm2⟩
  replace HGS := hide (gs_trans HGS.out hg2)
  clear hg2
  go_wp2_with fail
  refine (d_once G a n cap zs 24 _ (by omega) (by omega) HGS.out.1).mono ?_
  rintro e w3 ⟨bo, rfl, hd⟩
  replace HGS := hide (gs_drew HGS.out hd)
  clear hd
  cases bo
  · go_wp2
    go_ret
    exact ⟨ad, m, c, D, rfl, HGS.out, hm1, by omega⟩
  · go_wp2_with fail
    refine (d_belowG G a n cap zs (m : Int) _ (by omega) (by omega) HGS.out.1).mono ?_
    rintro e w4 ⟨x, hx0, hx1, rfl, hd⟩
    replace HGS := hide (gs_drew HGS.out hd)
    clear hd
    obtain ⟨k, rfl⟩ : ∃ k : Nat, x = k := ⟨x.toNat, by omega⟩
    have hkm : k < m := by omega
    obtain ⟨g, hag, -⟩ := drIt_cells HGS.out.2.1 (by omega)
    subst hag
    go_wp2_with fail
    refine (d_below G a n cap zs 3 _ (by omega) (by omega) HGS.out.1).mono ?_
    rintro e w5 ⟨y, hy0, hy1, rfl, hd⟩
    replace HGS := hide (gs_drew HGS.out hd)
    clear hd
    rcases (show y = 0 ∨ y = 1 ∨ y = 2 by omega) with rfl | rfl | rfl
    · go_wp2_with fail
      refine (d_offG G a n cap zs (-1) (k : Int) _ (by omega) (by omega) (by omega) HGS.out.1).mono ?_
      rintro e w6 ⟨z, rfl, hd⟩
      replace HGS := hide (gs_drew HGS.out hd)
      clear hd
      obtain ⟨⟨v0, hv0⟩, hf0⟩ := gs_cell HGS.out (k * 4) (by omega)
      go_wp2
      go_ret
      exact ⟨some ⟨g, 0, none⟩, m, c, _, rfl, gs_store HGS.out (k * 4) (.int .i64 z) (fun W xs => its_U z hkm W xs), hm1, by omega⟩
    · go_wp2_with fail
      refine (d_text G a n cap zs _ HGS.out.1).mono ?_
      rintro e w6 ⟨z, hz, rfl, hd⟩
      replace HGS := hide (gs_drew HGS.out hd)
      clear hd
      obtain ⟨⟨v0, hv0⟩, hf0⟩ := gs_cell HGS.out (k * 4 + 2) (by omega)
      go_wp2
      go_ret
      exact ⟨some ⟨g, 0, none⟩, m, c, _, rfl, gs_store HGS.out (k * 4 + 2) (.string z) (fun W xs => its_T z (by omega) hkm W xs), hm1, by omega⟩
    · go_wp2_with fail
      refine (d_text G a n cap zs _ HGS.out.1).mono ?_
      rintro e w6 ⟨z, hz, rfl, hd⟩
      replace HGS := hide (gs_drew HGS.out hd)
      clear hd
      obtain ⟨⟨v0, hv0⟩, hf0⟩ := gs_cell HGS.out (k * 4 + 1) (by omega)
      go_wp2
      go_ret
      exact ⟨some ⟨g, 0, none⟩, m, c, _, rfl, gs_store HGS.out (k * 4 + 1) (.string z) (fun W xs => its_N z (by omega) hkm W xs), hm1, by omega⟩
end Go.Proofs.YthcggdjkfebemaaGreatDoor
