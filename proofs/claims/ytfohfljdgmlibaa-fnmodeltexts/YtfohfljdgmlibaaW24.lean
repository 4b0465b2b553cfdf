/-
  Contracts: the text of a model, by the program.
-/
import Derived.Test.YtfohfljdgmlibaaW19
import Derived.Test.YtfohfljdgmlibaaW22
import Derived.Test.YtfohfljdgmlibaaW23
namespace Go.Proofs.Ytfohfljdgmlibaa
open Go.RowKit Go.Joins
set_option linter.unusedVariables false
set_option linter.unusedSimpArgs false
theorem infoStr : (Try.prog.info? 9).map (fun i => (i.zero, i.size, i.bytes)) = some (some (.string ByteArray.empty), 1, 16) := by kernel_rfl
/-- A row of texts in memory of one's own. -/
def StrR (B : Nat) (w : World) (ad : Option Addr) (c : Nat) (L : List ByteArray) : Prop := w.ownsRow B 9 1 (.slice ad L.length c) L.length (L.map Value.string)
theorem strR_nil (B : Nat) (w : World) : StrR B w none 0 [] := ⟨rfl, .inl ⟨rfl, rfl⟩⟩
theorem strR_put {B : Nat} {w2 : World} {ad : Option Addr} {c : Nat} {L : List ByteArray} {z : ByteArray} (h : w2.ownsRow B 9 1 (.slice ad (L.length + 1) c) (L.length + 1) (L.map Value.string ++ [.string z])) : StrR B w2 ad c (L ++ [z]) := by
  unfold StrR
  rw [List.length_append, List.length_singleton, List.map_append]
  exact h
theorem strR_cells {B : Nat} {w : World} {ad : Option Addr} {c : Nat} {L : List ByteArray} (h : StrR B w ad c L) (h0 : L ≠ []) : ∃ g, ad = some ⟨g, 0, none⟩ ∧ g < w.heap.size ∧ L.length ≤ c ∧ ∀ (j : Nat) x, L[j]? = some x → w.cell? ⟨g, 0 + j, none⟩ = some (.string x) := by
  have h9 := h
  obtain ⟨hl, h⟩ := h
  rcases h with ⟨-, hz⟩ | ⟨g, cap, cur, hv, hB, hh, hcap, -⟩
  · exact absurd (List.length_eq_zero_iff.1 hz) h0
  · simp only [Value.slice.injEq] at hv
    obtain ⟨rfl, -, rfl⟩ := hv
    refine ⟨g, rfl, (Array.getElem?_eq_some_iff.1 hh).1, by omega, fun j x hx => ?_⟩
    have hj : j < L.length := by
      rcases Nat.lt_or_ge j L.length with h | h
      · exact h
      · rw [List.getElem?_eq_none h] at hx; cases hx
    rw [Nat.zero_add]
    unfold StrR at h9
    rw [h9.cellAt j (by omega), List.getElem?_map, hx]
    rfl
def mtB (D : Pn) (k : Int) : ByteArray := ⟨(mt D k.toNat).toArray⟩
theorem mtB_map (D : Pn) (L : List Int) : (L.map (mtB D)).map (·.data.toList) = L.map fun (k : Int) => mt D k.toNat := by
  rw [List.map_map]
  rfl
set_option maxRecDepth 100000 in
set_option maxHeartbeats 4000000 in
theorem i_kidsText (D : Pn) (n b0 off cap : Nat) (L : List Int) (len : Nat) (ad : Option Addr) (cp : Nat) (mark : ByteArray) (w : World) (hlen : L.length = len) (hll : len ≤ 1048576) (hmk : mark.size = 1) (htot : totL (L.map fun (k : Int) => mt D k.toNat) ≤ 2000) (hbs : b0 < w.heap.size) (hr : PnRow w b0 off D w.heap.size) (hat : RowAt .i64 w ad L w.heap.size)
    (hI : ∀ q ∈ L, ∀ W : World, b0 < W.heap.size → PnRow W b0 off D W.heap.size → Calls Try.prog 24 #[.slice (some ⟨b0, off, none⟩) n cap, .int .i64 q] W fun r w' => r = .returned (.string (mtB D q)) ∧ Below W.heap.size W w') :
    Calls Try.prog 47 #[.slice (some ⟨b0, off, none⟩) n cap, .slice ad len cp, .string mark] w fun r w' => r = .returned (.string ⟨(([40] : List UInt8) ++ Lib.join (L.map fun (k : Int) => mt D k.toNat) mark.data.toList ++ [41]).toArray⟩) ∧ Below w.heap.size w w' := by
  obtain ⟨i0, hi, hz0, hz1, hz2⟩ := info_parts infoStr
  have HR := hide hr
  have HAT := hide hat
  have HI := hide hI
  have HLN := hide hlen
  have HTOT := hide htot
  have HMK := hide hmk
  clear hr hat hI hlen htot hmk
  go_enter Try.func47, Try.ntmps47
  go_wp2
  go_loopw [7, 12] (fun sv mv wr => ∃ (m : Nat) (sa : Option Addr) (sc : Nat), m ≤ len ∧ mv = .int .i64 m ∧ sv = .slice sa m sc ∧ StrR w.heap.size wr sa sc ((L.take m).map (mtB D)) ∧ Below w.heap.size w wr) (fun _ mv _ => len - (intOf mv).toNat)
  case atStart => exact ⟨0, none, 0, Nat.zero_le _, rfl, rfl, strR_nil _ _, Below.refl _ _⟩
  case round =>
    obtain ⟨m, sa, sc, hm, rfl, rfl, ho, hb⟩ := hrel
    have hml : ((L.take m).map (mtB D)).length = m := by rw [List.length_map, List.length_take]; have := HLN.out; omega
    by_cases hlt : m < len
    · have hlt2 : m < L.length := by rw [HLN.out]; exact hlt
      obtain ⟨b9, off9, rfl, hb9, hc9⟩ := HAT.out (fun h => by rw [h] at hlt2; exact absurd hlt2 (Nat.not_lt_zero _))
      have k0 := (hb.cell (p := ⟨b9, off9 + m, none⟩) hb9).trans (hc9 m hlt2)
      have hmi : (m : Int) < (len : Int) := by omega
      have HTK : Hid ((L.take (m + 1)).map (mtB D) = (L.take m).map (mtB D) ++ [mtB D (L[m]?.getD 0)]) := hide (by rw [List.take_succ_eq_append_getElem hlt2, List.map_append, List.getElem?_eq_getElem hlt2]; rfl)
      have CI := hide (HI.out (L[m]?.getD 0) (by rw [List.getElem?_eq_getElem hlt2]; exact List.getElem_mem hlt2) wr (Nat.lt_of_lt_of_le hbs hb.size) (pnRow_up (pnRow_go HR.out hbs hb) hb.size))
      obtain ⟨v, hv⟩ : ∃ v, L[m]?.getD 0 = v := ⟨_, rfl⟩
      rw [hv] at k0 HTK CI
      obtain ⟨P, hP⟩ : ∃ P, mtB D v = P := ⟨_, rfl⟩
      rw [hP] at HTK CI
      obtain ⟨TS, hTS⟩ : ∃ TS, (L.take m).map (mtB D) = TS := ⟨_, rfl⟩
      rw [hTS] at HTK ho hml
      have HB := hide hb
      have HO := hide ho
      have HML := hide hml
      clear hc9 hv hP hTS hb ho hml hlt2
      go_wp2_with fail
      refine CI.out.mono ?_
      rintro e w2 ⟨rfl, hb2⟩
      have HO2 : Hid (w2.ownsRow w.heap.size 9 1 (.slice sa m sc) m (TS.map Value.string)) := hide (by have h := gOwn_after HO.out hb2; rw [HML.out] at h; exact h)
      have HB2 := hide (HB.out.trans (hb2.mono HB.out.size))
      have hs2 : w.heap.size ≤ w2.heap.size := HB2.out.size
      clear hb2
      go_wp2_with (first | (at_builtin; refine wpList_append_own _ rfl (.tmp 16) (.tmp 20) 55 rfl w.heap.size 9 i0 (.string ByteArray.empty) 1 16 Try.underlying55 hi hz0 hz1 hz2 rfl (by decide) _ _ _ rfl (HO2.out.alloc _) ⟨w2.heap.size, 0, none⟩ 1 1 [.string P] rfl rfl (fun j u hj => gOne_new w2 _ _ j u hj) (gStr_list _) (by unfold maxLen; omega) (by omega) (by simp; omega) ?_; intro v2 w6 hown2 hgrow2 _; obtain ⟨ad2, c2', hv2⟩ := gOwn_shape hown2; rw [hv2] at hown2 ⊢; clear hv2; have HB6 := hide (gBelow_one HB2.out HO2.out hgrow2); have HO6 := hide hown2; clear hown2 hgrow2))
      go_roundw
      case rel =>
        refine ⟨m + 1, ad2, c2', by omega, by go_num, rfl, ?_, HB6.out⟩
        rw [HTK.out]
        exact strR_put (by rw [HML.out]; exact HO6.out)
      case measure => simp [intOf]; omega
    · have hmn : m = len := by omega
      subst hmn
      rw [List.take_of_length_le (by rw [HLN.out]; exact Nat.le_refl _)] at ho hml
      have hjt := join_tot mark.data.toList (by rw [bl, HMK.out]) (L.map fun (k : Int) => mt D k.toNat)
      have htt := HTOT.out
      have HB := hide hb
      have CJ : Hid (Calls Try.prog 68 #[.slice sa m sc, .string mark] wr fun e w' => e = .returned (.string ⟨(Lib.join (L.map fun (k : Int) => mt D k.toNat) mark.data.toList).toArray⟩) ∧ Below wr.heap.size wr w') := hide (by
        by_cases h0 : L.map (mtB D) = []
        · rw [h0] at ho hml
          simp at hml
          subst hml
          have hL0 : L = [] := by simpa using h0
          refine (Try.strings_Join_none sa sc mark wr).mono ?_
          rintro e w' ⟨rfl, rfl⟩
          rw [hL0]
          exact ⟨rfl, Below.refl _ _⟩
        · obtain ⟨g, rfl, hg, hcap, hcell⟩ := strR_cells ho h0
          have := Try.strings_Join g 0 sc (L.map (mtB D)) mark wr hcell hg (by rw [hml]; omega) hcap (by rw [mtB_map]; omega)
          rw [mtB_map, hml] at this
          exact this)
      obtain ⟨J, hJ⟩ : ∃ J : ByteArray, (⟨(Lib.join (L.map fun (k : Int) => mt D k.toNat) mark.data.toList).toArray⟩ : ByteArray) = J := ⟨_, rfl⟩
      rw [hJ] at CJ
      have HJ : Hid (J.data.toList = Lib.join (L.map fun (k : Int) => mt D k.toNat) mark.data.toList) := hide (by rw [← hJ])
      have hjs : J.size ≤ 2000 := by rw [← bl, HJ.out]; omega
      have s1 : ¬ 9223372036854775807 < 1 + J.size := by omega
      have s2 : ¬ 9223372036854775807 < 1 + J.size + 1 := by omega
      clear hJ ho hml hb hjt htt
      go_wp2_with (first | (go_at_call 68; refine CJ.out.mono ?_; rintro e w2 ⟨rfl, hb2⟩; have HB2 := hide (HB.out.trans (hb2.mono HB.out.size)); clear hb2))
      go_ret
      refine ⟨ret_s9 (Go.WideShapes.bytes_inj ?_), HB2.out⟩
      rw [bl_app, bl_app, HJ.out]
      simp
theorem sg_cut (OC : Int) (h : 1 ≤ OC ∧ OC ≤ 3) : ((⟨#[63, 42, 43]⟩ : ByteArray).extract (OC - 1).toNat OC.toNat).data.toList = sgP OC := by
  obtain ⟨h1, h2⟩ := h
  have : OC = 1 ∨ OC = 2 ∨ OC = 3 := by omega
  rcases this with rfl | rfl | rfl <;> decide
theorem nd_oc {k : Int} {nm : ByteArray} {n : Nat} {oc : Int} (h : ndB k nm n oc = true) : 0 ≤ oc ∧ oc ≤ 3 := by
  unfold ndB at h
  simp only [Bool.and_eq_true, decide_eq_true_eq] at h
  exact h.1
set_option maxRecDepth 100000 in
set_option maxHeartbeats 8000000 in
theorem i_partTx (D : Pn) (n b0 off cap : Nat) (hRM : RM D n) : ∀ (k i : Nat), i < k → i < n → ∀ w : World, b0 < w.heap.size → PnRow w b0 off D w.heap.size →
    Calls Try.prog 24 #[.slice (some ⟨b0, off, none⟩) n cap, .int .i64 i] w fun r w' => r = .returned (.string ⟨(mt D i).toArray⟩) ∧ Below w.heap.size w w'
  | 0, i, hk, hi => by omega
  | k + 1, i, hk, hi => by
    intro w hbs hr
    have HST := hide (fun (o : Obj) => (Below.refl w.heap.size w).alloc (Nat.le_refl _) o)
    obtain ⟨ad, cp, hc, hat, hcp⟩ := hr i (by rw [hRM.1]; exact hi)
    obtain ⟨c0, c1, c2, c3⟩ := hc
    have hkid := hRM.2.2.2.1 i hi
    have htot := rm_kids hRM hi
    have hll := hRM.2.2.2.2.2 i hi
    have CK := hide (fun (mark : ByteArray) (W : World) (hm : mark.size = 1) (hW : Below w.heap.size w W) => i_kidsText D n b0 off cap (D.KL i) (D.KL i).length ad cp mark W rfl hll hm htot (Nat.lt_of_lt_of_le hbs hW.size) (pnRow_up (pnRow_go hr hbs hW) hW.size) (rwAt_up (rwAt_go hat hW) hW.size) (fun q hq X h1 h2 => by
      have h3 := hkid q hq
      obtain ⟨c, rfl⟩ : ∃ c : Nat, q = (c : Int) := ⟨q.toNat, by omega⟩
      exact i_partTx D n b0 off cap hRM k c (by omega) (by omega) X h1 h2))
    have hin : (i : Int) < (n : Int) := by omega
    have HEQ := hide (rm_eq hRM hi)
    have hnm := rm_name hRM hi
    have hoc := nd_oc (hRM.2.2.1 i hi)
    have hkinds := rm_kinds hRM hi
    have hjt : (Lib.join ((D.KL i).map fun (k : Int) => mt D k.toNat) (sepP (D.K i))).length ≤ 2000 := Nat.le_trans (join_tot _ (sep_len _) _) htot
    obtain ⟨K, hK⟩ : ∃ K, D.K i = K := ⟨_, rfl⟩
    obtain ⟨NM, hNM⟩ : ∃ NM, D.NM i = NM := ⟨_, rfl⟩
    obtain ⟨OC, hOC⟩ : ∃ OC, D.OC i = OC := ⟨_, rfl⟩
    obtain ⟨L, hL⟩ : ∃ L, D.KL i = L := ⟨_, rfl⟩
    rw [hK] at c0 HEQ hkinds hnm hjt
    rw [hNM] at c1 HEQ hnm
    rw [hL] at c2 HEQ CK hjt
    rw [hOC] at c3 HEQ hoc
    obtain ⟨o1, o2⟩ := hoc
    clear hr hat hK hNM hOC hL hRM hcp htot hkid hll
    rcases hkinds with rfl | rfl | rfl | rfl
    · have hn4 := hnm rfl
      have HB : Hid (bdP 1 NM (L.map fun k => mt D k.toNat) = NM.data.toList) := hide rfl
      clear hnm hjt
      by_cases h0 : OC = 0
      · subst h0
        go_enter Try.func24, Try.ntmps24
        go_wp2
        go_ret
        refine ⟨ret_s9 (Go.WideShapes.bytes_inj ?_), HST.out _⟩
        rw [HEQ.out, HB.out]
        simp [sgP]
      · have f0 : (OC == 0) = false := by simpa using h0
        have hoc3 : OC = 1 ∨ OC = 2 ∨ OC = 3 := by omega
        have s1 : ¬ 9223372036854775807 < NM.size + 1 := by omega
        clear h0 f0
        rcases hoc3 with rfl | rfl | rfl
        all_goals
          go_enter Try.func24, Try.ntmps24
          go_wp2
          go_ret
          refine ⟨ret_s9 (Go.WideShapes.bytes_inj ?_), HST.out _⟩
          rw [HEQ.out, HB.out, bl_app]
          first | rfl | (congr 1)
    · have HB : Hid (bdP 2 NM (L.map fun k => mt D k.toNat) = ([40] : List UInt8) ++ Lib.join (L.map fun (k : Int) => mt D k.toNat) (⟨#[44]⟩ : ByteArray).data.toList ++ [41]) := hide rfl
      have CK1 := hide (fun (W : World) (hW : Below w.heap.size w W) => CK.out ⟨#[44]⟩ W rfl hW)
      have hjt2 : (([40] : List UInt8) ++ Lib.join (L.map fun (k : Int) => mt D k.toNat) (⟨#[44]⟩ : ByteArray).data.toList ++ [41]).length ≤ 2002 := by
        simp only [List.length_append, List.length_cons, List.length_nil]
        have : (Lib.join (L.map fun (k : Int) => mt D k.toNat) [44]).length ≤ 2000 := hjt
        omega
      obtain ⟨TX, hTX⟩ : ∃ TX : ByteArray, (⟨(([40] : List UInt8) ++ Lib.join (L.map fun (k : Int) => mt D k.toNat) (⟨#[44]⟩ : ByteArray).data.toList ++ [41]).toArray⟩ : ByteArray) = TX := ⟨_, rfl⟩
      rw [hTX] at CK1
      have HTX : Hid (TX.data.toList = bdP 2 NM (L.map fun k => mt D k.toNat)) := hide (by rw [← hTX, HB.out])
      have htx : TX.size ≤ 2002 := by rw [← bl, HTX.out, HB.out]; exact hjt2
      clear hnm hjt hjt2 CK HB hTX
      by_cases h0 : OC = 0
      · subst h0
        go_enter Try.func24, Try.ntmps24
        go_wp2_with fail
        refine (CK1.out _ (HST.out _)).mono ?_
        rintro e w2 ⟨rfl, hb2⟩
        have HX2 := hide (box_node hb2)
        obtain ⟨a0, a1, a2, a3⟩ := ndAt_cells HX2.out.1
        clear hb2
        go_wp2
        go_ret
        refine ⟨ret_s9 (Go.WideShapes.bytes_inj ?_), HX2.out.2⟩
        rw [HEQ.out, HTX.out]
        simp [sgP]
      · have f0 : (OC == 0) = false := by simpa using h0
        have hoc3 : OC = 1 ∨ OC = 2 ∨ OC = 3 := by omega
        have s1 : ¬ 9223372036854775807 < TX.size + 1 := by omega
        clear h0 f0
        rcases hoc3 with rfl | rfl | rfl
        all_goals
          go_enter Try.func24, Try.ntmps24
          go_wp2_with fail
          refine (CK1.out _ (HST.out _)).mono ?_
          rintro e w2 ⟨rfl, hb2⟩
          have HX2 := hide (box_node hb2)
          obtain ⟨a0, a1, a2, a3⟩ := ndAt_cells HX2.out.1
          clear hb2
          go_wp2
          go_ret
          refine ⟨ret_s9 (Go.WideShapes.bytes_inj ?_), HX2.out.2⟩
          rw [HEQ.out, bl_app, HTX.out]
          first | rfl | (congr 1)
    · have HB : Hid (bdP 3 NM (L.map fun k => mt D k.toNat) = ([40] : List UInt8) ++ Lib.join (L.map fun (k : Int) => mt D k.toNat) (⟨#[124]⟩ : ByteArray).data.toList ++ [41]) := hide rfl
      have CK1 := hide (fun (W : World) (hW : Below w.heap.size w W) => CK.out ⟨#[124]⟩ W rfl hW)
      have hjt2 : (([40] : List UInt8) ++ Lib.join (L.map fun (k : Int) => mt D k.toNat) (⟨#[124]⟩ : ByteArray).data.toList ++ [41]).length ≤ 2002 := by
        simp only [List.length_append, List.length_cons, List.length_nil]
        have : (Lib.join (L.map fun (k : Int) => mt D k.toNat) [124]).length ≤ 2000 := hjt
        omega
      obtain ⟨TX, hTX⟩ : ∃ TX : ByteArray, (⟨(([40] : List UInt8) ++ Lib.join (L.map fun (k : Int) => mt D k.toNat) (⟨#[124]⟩ : ByteArray).data.toList ++ [41]).toArray⟩ : ByteArray) = TX := ⟨_, rfl⟩
      rw [hTX] at CK1
      have HTX : Hid (TX.data.toList = bdP 3 NM (L.map fun k => mt D k.toNat)) := hide (by rw [← hTX, HB.out])
      have htx : TX.size ≤ 2002 := by rw [← bl, HTX.out, HB.out]; exact hjt2
      clear hnm hjt hjt2 CK HB hTX
      by_cases h0 : OC = 0
      · subst h0
        go_enter Try.func24, Try.ntmps24
        go_wp2_with fail
        refine (CK1.out _ (HST.out _)).mono ?_
        rintro e w2 ⟨rfl, hb2⟩
        have HX2 := hide (box_node hb2)
        obtain ⟨a0, a1, a2, a3⟩ := ndAt_cells HX2.out.1
        clear hb2
        go_wp2
        go_ret
        refine ⟨ret_s9 (Go.WideShapes.bytes_inj ?_), HX2.out.2⟩
        rw [HEQ.out, HTX.out]
        simp [sgP]
      · have f0 : (OC == 0) = false := by simpa using h0
        have hoc3 : OC = 1 ∨ OC = 2 ∨ OC = 3 := by omega
        have s1 : ¬ 9223372036854775807 < TX.size + 1 := by omega
        clear h0 f0
        rcases hoc3 with rfl | rfl | rfl
        all_goals
          go_enter Try.func24, Try.ntmps24
          go_wp2_with fail
          refine (CK1.out _ (HST.out _)).mono ?_
          rintro e w2 ⟨rfl, hb2⟩
          have HX2 := hide (box_node hb2)
          obtain ⟨a0, a1, a2, a3⟩ := ndAt_cells HX2.out.1
          clear hb2
          go_wp2
          go_ret
          refine ⟨ret_s9 (Go.WideShapes.bytes_inj ?_), HX2.out.2⟩
          rw [HEQ.out, bl_app, HTX.out]
          first | rfl | (congr 1)
    · have HB : Hid (bdP 4 NM (L.map fun k => mt D k.toNat) = [35]) := hide rfl
      clear hnm hjt
      by_cases h0 : OC = 0
      · subst h0
        go_enter Try.func24, Try.ntmps24
        go_wp2
        go_ret
        refine ⟨ret_s9 (Go.WideShapes.bytes_inj ?_), HST.out _⟩
        rw [HEQ.out, HB.out]
        simp [sgP]
      · have f0 : (OC == 0) = false := by simpa using h0
        have hoc3 : OC = 1 ∨ OC = 2 ∨ OC = 3 := by omega
        have s1 : ¬ 9223372036854775807 < 1 + 1 := by omega
        clear h0 f0
        rcases hoc3 with rfl | rfl | rfl
        all_goals
          go_enter Try.func24, Try.ntmps24
          go_wp2
          go_ret
          refine ⟨ret_s9 (Go.WideShapes.bytes_inj ?_), HST.out _⟩
          rw [HEQ.out, HB.out, bl_app]
          first | rfl | (congr 1)
end Go.Proofs.Ytfohfljdgmlibaa
