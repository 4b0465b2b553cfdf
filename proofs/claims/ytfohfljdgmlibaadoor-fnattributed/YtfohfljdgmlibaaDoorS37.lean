/-
  Texts put together: ClI, AtI, NuL.
-/
import Derived.Test.YtfohfljdgmlibaaDoorS18
import Derived.Test.YtfohfljdgmlibaaDoorS36
import Derived.Deep.RegionHeld3
import Derived.Deep.MidRow
import Derived.Test.YtfohfljdgmlibaaDoorS19
import Derived.Test.YtfohfljdgmlibaaDoorS14
import Derived.Test.YtfohfljdgmlibaaDoorS12
import Derived.Test.YtfohfljdgmlibaaDoorS6
import Derived.Test.YtfohfljdgmlibaaDoorS32
/-
  Contracts: clear models (the program's).
-/
namespace Go.Proofs.YtfohfljdgmlibaaDoor
open Go.RowKit Go.Joins
set_option linter.unusedVariables false
set_option linter.unusedSimpArgs false
set_option maxRecDepth 100000 in
set_option maxHeartbeats 8000000 in
theorem i_clearIn (D : Pn) (n b0 off cap T : Nat) (F : Nat → Nat) (e : Nat) (ad : Option Addr) (m c : Nat) (L : List Int) (w : World) (hRN : RN D n) (hbs : b0 < w.heap.size) (hr : PnRow w b0 off D w.heap.size) (hC : CellsAt w T (tkC (.slice (some ⟨b0, off, none⟩) n cap) F e)) (hm : L.length = m) (hm2 : m ≤ 64) (hmc : m ≤ c) (hL : ∀ z ∈ L, 0 ≤ z ∧ z < (n : Int)) (hat : RowAt .i64 w ad L w.heap.size) :
    Calls Tryd.prog 77 #[.pointer (some ⟨T, 0, none⟩), .slice ad m c] w fun r w' => r = .returned (.bool (apB D L)) ∧ Below w.heap.size w w' := by
  have HR := hide hr
  have HRN := hide hRN
  have HM := hide hm
  have HL := hide hL
  have HAT := hide hat
  have hn40 := hRN.2.1
  have hTl := cellsAt_lt hC
  have HT0 := hide ((cellsAt_cell hC 0).trans (tkC_get _ _ _ 0 (by decide)))
  clear hr hRN hm hL hat hC
  go_enter Tryd.func77, Tryd.ntmps77
  go_wp2
  go_loopw [13] (fun mv wr => ∃ (i : Nat), i ≤ m ∧ mv = .int .i64 i ∧ Hid (Below w.heap.size w wr) ∧ Hid (∀ j, j < i → ∀ k, k < j → apP D (L[j]?.getD 0) (L[k]?.getD 0) = true)) (fun mv _ => m - (intOf mv).toNat)
  case atStart => exact ⟨0, Nat.zero_le _, rfl, hide (Below.refl _ _), hide (fun j hj => by omega)⟩
  case round =>
    obtain ⟨i, hi, rfl, HB, HA⟩ := hrel
    by_cases hlt : i < m
    · obtain ⟨b9, off9, rfl, hb9, hc9⟩ := rowAt_cell HAT.out i (by rw [HM.out]; exact hlt)
      have HC9 := hide hc9
      have hiL : i < L.length := by rw [HM.out]; exact hlt
      have x0 := (HB.out.cell (p := ⟨b9, off9 + i, none⟩) hb9).trans (hc9 i hiL)
      obtain ⟨p, ap, cp, hxp, hp, hpc⟩ := pn_two (HRN.out) HR.out (HL.out (L[i]?.getD 0) (by rw [List.getElem?_eq_getElem hiL]; exact List.getElem_mem hiL))
      have HPC := hide hpc
      have HXP := hide hxp
      rw [hxp] at x0
      have hii : (i : Int) < (m : Int) := by omega
      have hi0 : (0 : Int) ≤ (i : Int) := by omega
      have hic : (i : Int) ≤ (c : Int) := by omega
      clear hc9 hxp hpc
      go_wp2
      go_loopw [22] (fun mv wr => ∃ (k : Nat), k ≤ i ∧ mv = .int .i64 k ∧ Hid (Below w.heap.size w wr) ∧ Hid (∀ j, j < k → apP D (L[i]?.getD 0) (L[j]?.getD 0) = true)) (fun mv _ => i - (intOf mv).toNat)
      case atStart => exact ⟨0, Nat.zero_le _, rfl, HB, hide (fun j hj => by omega)⟩
      case round =>
        clear HB x0
        obtain ⟨k, hk, rfl, HB, HK⟩ := hrel
        by_cases hlk : k < i
        · have hkL : k < L.length := by rw [HM.out]; omega
          have y0 := (HB.out.cell (p := ⟨b9, off9 + k, none⟩) hb9).trans (HC9.out k hkL)
          obtain ⟨q, aq, cq, hxq, hq, hqc⟩ := pn_two (HRN.out) HR.out (HL.out (L[k]?.getD 0) (by rw [List.getElem?_eq_getElem hkL]; exact List.getElem_mem hkL))
          obtain ⟨p0, p1, p2, p3⟩ := pnCells_go HPC.out hbs HB.out
          obtain ⟨q0, q1, q2, q3⟩ := pnCells_go hqc hbs HB.out
          have t0 := (HB.out.cell (p := ⟨T, 0, none⟩) hTl).trans HT0.out
          have t1 : tkV (.slice (some ⟨b0, off, none⟩) n cap) F e 0 = .slice (some ⟨b0, off, none⟩) n cap := rfl
          rw [t1] at t0
          have HAP : Hid (apP D (L[i]?.getD 0) (L[k]?.getD 0) = (decide (D.K p ≠ 4) && (decide (D.K q ≠ 4) && !((D.NM p).toList == (D.NM q).toList)))) := hide (by rw [HXP.out, hxq]; rfl)
          rw [hxq] at y0
          have hbl : b0 < wr.heap.size := Nat.lt_of_lt_of_le hbs HB.out.size
          have hTl2 : T < wr.heap.size := Nat.lt_of_lt_of_le hTl HB.out.size
          have hpi : (p : Int) < (n : Int) := by omega
          have hp0 : (0 : Int) ≤ (p : Int) := by omega
          have hqi : (q : Int) < (n : Int) := by omega
          have hq0 : (0 : Int) ≤ (q : Int) := by omega
          have hki : (k : Int) < (i : Int) := by omega
          have hk0 : (0 : Int) ≤ (k : Int) := by omega
          have HB2 := hide (fun (o1 o2 : Obj) => ((HB.out.alloc HB.out.size o1).alloc (by have := HB.out.size; simp; omega) o2))
          obtain ⟨Kp, hKp⟩ : ∃ Kp, D.K p = Kp := ⟨_, rfl⟩
          obtain ⟨Kq, hKq⟩ : ∃ Kq, D.K q = Kq := ⟨_, rfl⟩
          obtain ⟨Np, hNp⟩ : ∃ Np, D.NM p = Np := ⟨_, rfl⟩
          obtain ⟨Nq, hNq⟩ : ∃ Nq, D.NM q = Nq := ⟨_, rfl⟩
          rw [hKp] at p0 HAP
          rw [hKq] at q0 HAP
          rw [hNp] at p1 HAP
          rw [hNq] at q1 HAP
          clear hKp hKq hNp hNq hqc hxq t1
          go_wp2
          go_region_held3 (fun w' => w'.cell? ⟨T, 0, none⟩ = some (.slice (some ⟨b0, off, none⟩) n cap) ∧ (w'.cell? ⟨b0, off + p * 4, none⟩ = some (.int .i64 Kp) ∧ w'.cell? ⟨b0, off + p * 4 + 1, none⟩ = some (.string Np) ∧ w'.cell? ⟨b0, off + p * 4 + 2, none⟩ = some (.slice ap (D.KL p).length cp) ∧ w'.cell? ⟨b0, off + p * 4 + 3, none⟩ = some (.int .i64 (D.OC p))) ∧ w'.cell? ⟨b0, off + q * 4, none⟩ = some (.int .i64 Kq) ∧ w'.cell? ⟨b0, off + q * 4 + 1, none⟩ = some (.string Nq) ∧ w'.cell? ⟨b0, off + q * 4 + 2, none⟩ = some (.slice aq (D.KL q).length cq) ∧ w'.cell? ⟨b0, off + q * 4 + 3, none⟩ = some (.int .i64 (D.OC q))) (first | assumption | (refine ⟨?_, ⟨?_, ?_, ?_, ?_⟩, ?_, ?_, ?_, ?_⟩ <;> go_simp)) (first | fail)
          all_goals
            by_cases hk1 : Kp = 4
            · have HF := hide (apB_no hiL hlk (by rw [HAP.out, hk1]; rfl))
              subst hk1
              go_wp2
              go_ret
              exact ⟨ret_bool HF.out.symm, (HB2.out _ _).drew⟩
            · have e1 : (Kp == 4) = false := by simpa using hk1
              by_cases hk2 : Kq = 4
              · have HF := hide (apB_no hiL hlk (by rw [HAP.out, hk2]; simp))
                subst hk2
                clear hk1
                go_wp2
                go_ret
                exact ⟨ret_bool HF.out.symm, (HB2.out _ _).drew⟩
              · have e2 : (Kq == 4) = false := by simpa using hk2
                cases hnn : (Np.toList == Nq.toList)
                · have HY : Hid (apP D (L[i]?.getD 0) (L[k]?.getD 0) = true) := hide (by rw [HAP.out, hnn]; simp [hk1, hk2])
                  have HK2 : Hid (∀ j, j < k + 1 → apP D (L[i]?.getD 0) (L[j]?.getD 0) = true) := hide (fun j hj => by
                    by_cases e : j = k
                    · subst e; exact HY.out
                    · exact HK.out j (by omega))
                  clear hk1 hk2
                  go_wp2
                  go_roundw
                  case rel => exact ⟨k + 1, by omega, by go_num, hide (HB2.out _ _).drew, HK2⟩
                  case measure => simp [intOf]; omega
                · have HF := hide (apB_no hiL hlk (by rw [HAP.out, hnn]; simp))
                  clear hk1 hk2
                  go_wp2
                  go_ret
                  exact ⟨ret_bool HF.out.symm, (HB2.out _ _).drew⟩
        · have HA2 : Hid (∀ j, j < i + 1 → ∀ k, k < j → apP D (L[j]?.getD 0) (L[k]?.getD 0) = true) := hide (fun j hj k2 hk2 => by
            by_cases e : j = i
            · subst e; exact HK.out k2 (by omega)
            · exact HA.out j (by omega) k2 hk2)
          go_wp2
          go_roundw
          case rel => exact ⟨i + 1, by omega, by go_num, HB, HA2⟩
          case measure => simp [intOf]; omega
    · have HF : Hid (apB D L = true) := hide (apB_yes (fun j hj k hk => HA.out j (by rw [HM.out] at hj; omega) k hk))
      go_wp2
      go_ret
      exact ⟨ret_bool HF.out.symm, HB.out⟩
/-- The row of sets that the ways hold. -/
def foRow (F : Nat → Nat) : List Value := (List.range 41).map fun p => Value.int .u64 (F p : Int)
theorem foRow_at {w : World} {T : Nat} {mv : Value} {F : Nat → Nat} {e : Nat} (h : CellsAt w T (tkC mv F e)) : w.rangeAt T 1 (foRow F) := by
  intro j v hv
  have hj : j < 41 := by
    have := (List.getElem?_eq_some_iff.1 hv).1
    simpa [foRow] using this
  rw [cellsAt_cell h (1 + j), tkC_at _ _ _ _ hj]
  unfold foRow at hv
  rw [List.getElem?_map, List.getElem?_range hj] at hv
  exact hv
set_option maxRecDepth 100000 in
theorem foRow_ix (F : Nat → Nat) (p : Nat) (hp : p < 41) (w : World) : (Instr.index 53 (.agg (foRow F).toArray) (.int .i64 p)).run Tryd.prog w = .ok (.int .u64 (F p : Int)) w := by
  have h2 : (foRow F)[p]? = some (.int .u64 (F p : Int)) := by
    unfold foRow
    rw [List.getElem?_map, List.getElem?_range hp]
    rfl
  simp [Instr.index, go_sem, h2, hp]
set_option maxRecDepth 100000 in
set_option maxHeartbeats 8000000 in
theorem i_clearAll (D : Pn) (n b0 off cap T : Nat) (F : Nat → Nat) (e : Nat) (w : World) (hD : D.n = n) (hpk : pkB D = true) (hRN : RN D n) (hT : TkOf D F e) (hTz : TzT w) (hbs : b0 < w.heap.size) (hr : PnRow w b0 off D w.heap.size) (hC : CellsAt w T (tkC (.slice (some ⟨b0, off, none⟩) n cap) F e)) :
    Calls Tryd.prog 45 #[.pointer (some ⟨T, 0, none⟩)] w fun r w' => r = .returned (.bool (clB D)) ∧ Below w.heap.size w w' := by
  have HTZ := hide hTz
  have HTK := hide hT
  have HPK := hide hpk
  have HD := hide hD
  have hRA := foRow_at hC
  have hrl : (Tryd.prog.info? 53).map (·.size) = some (foRow F).length := by unfold foRow; rw [List.length_map, List.length_range]; kernel_rfl
  have HIX := hide (foRow_ix F)
  have CC := hide (fun (ad : Option Addr) (m c : Nat) (L : List Int) (W : World) (hW : Below w.heap.size w W) => i_clearIn D n b0 off cap T F e ad m c L W hRN (Nat.lt_of_lt_of_le hbs hW.size) (pnRow_up (pnRow_go hr hbs hW) hW.size) (cellsAt_go hC hW (cellsAt_lt hC)))
  obtain ⟨R, hR⟩ : ∃ R, foRow F = R := ⟨_, rfl⟩
  rw [hR] at hRA hrl HIX
  clear hr hRN hC hT hTz hpk hD hR
  go_enter Tryd.func45, Tryd.ntmps45
  go_wp2_with (first | (refine wpList_load_mid rfl 53 _ rfl T 1 rfl R _ hRA Tryd.underlying53 rfl hrl ?_))
  obtain ⟨RA, hRR⟩ : ∃ RA, Value.agg R.toArray = RA := ⟨_, rfl⟩
  rw [hRR] at HIX ⊢
  clear hRR hRA hrl
  go_loopw [9] (fun mv wr => ∃ (p : Nat), p ≤ 41 ∧ mv = .int .i64 p ∧ Hid (Below w.heap.size w wr) ∧ Hid (∀ j, j < p → apB D (bts (F j)) = true)) (fun mv _ => 41 - (intOf mv).toNat)
  case atStart => exact ⟨0, Nat.zero_le _, rfl, hide (Below.refl _ _), hide (fun j hj => by omega)⟩
  case round =>
    obtain ⟨p, hp, rfl, HB, HA⟩ := hrel
    by_cases hlt : p < 41
    · have hix := HIX.out p hlt
      have hpi : (p : Int) < 41 := by omega
      have hts := tk_sets HPK.out HTK.out hlt
      have hbl := bts_len hts.1
      have HRG : Hid (∀ z ∈ bts (F p), 0 ≤ z ∧ z < (n : Int)) := hide (fun z hz => by
        rw [← HD.out]
        rcases hts.2 with ⟨-, h2⟩ | ⟨-, h2⟩ | h2
        · rw [h2] at hz; exact flV_range HPK.out z hz
        · rw [h2] at hz; exact foV_range HPK.out z hz
        · rw [h2] at hz; exact absurd hz (List.not_mem_nil))
      have CL := hide (i_list (F p) wr hts.1 (tzT_go HTZ.out HB.out (Nat.le_refl _)))
      have HNO := hide (fun h => cl_none HPK.out HTK.out hlt h)
      obtain ⟨V, hV⟩ : ∃ V, bts (F p) = V := ⟨_, rfl⟩
      have HV := hide hV
      rw [hV] at hbl HRG CL HNO
      clear hts hV
      cases hap : apB D V
      · have HE := hide (HNO.out hap)
        have HAP := hide hap
        clear hap
        go_wp2_with (first
          | (go_at_call 43; refine CL.out.mono ?_; rintro r w2 ⟨ad2, c2, rfl, ho2, hb2⟩; have HO2 := hide ho2; have HB2 := hide (HB.out.trans (hb2.mono HB.out.size)); clear ho2 hb2)
          | (go_at_call 77; refine (CC.out ad2 V.length c2 V _ HB2.out rfl hbl (intR_cap HO2.out) HRG.out (own_rowAt9 HO2.out)).mono ?_; rintro r w3 ⟨rfl, hb3⟩; rw [HAP.out]; have HB3 := hide (HB2.out.trans (hb3.mono HB2.out.size)); clear hb3))
        go_ret
        exact ⟨ret_bool HE.out.symm, HB3.out⟩
      · have HA2 : Hid (∀ j, j < p + 1 → apB D (bts (F j)) = true) := hide (fun j hj => by
          by_cases e : j = p
          · subst e; rw [HV.out]; exact hap
          · exact HA.out j (by omega))
        have HAP := hide hap
        clear hap
        go_wp2_with (first
          | (go_at_call 43; refine CL.out.mono ?_; rintro r w2 ⟨ad2, c2, rfl, ho2, hb2⟩; have HO2 := hide ho2; have HB2 := hide (HB.out.trans (hb2.mono HB.out.size)); clear ho2 hb2)
          | (go_at_call 77; refine (CC.out ad2 V.length c2 V _ HB2.out rfl hbl (intR_cap HO2.out) HRG.out (own_rowAt9 HO2.out)).mono ?_; rintro r w3 ⟨rfl, hb3⟩; rw [HAP.out]; have HB3 := hide (HB2.out.trans (hb3.mono HB2.out.size)); clear hb3))
        go_roundw
        case rel => exact ⟨p + 1, by omega, by go_num, HB3, HA2⟩
        case measure => simp [intOf]; omega
    · have HE := hide (cl_all HPK.out HTK.out (fun j hj => HA.out j (by omega)))
      go_wp2
      go_ret
      exact ⟨ret_bool HE.out.symm, HB.out⟩
set_option maxRecDepth 100000 in
set_option maxHeartbeats 4000000 in
theorem i_clear (D : Pn) (n : Nat) (a : Option Addr) (cap : Nat) (w : World) (hD : D.n = n) (hz : pnTot D ≤ 1048576) (hr : PnAt w a D w.heap.size) (hT : TzT w) :
    Calls Tryd.prog 22 #[.slice a n cap] w fun r w' => r = .returned (.bool (clB D)) ∧ Below w.heap.size w w' := by
  have hzz := tk_zero
  have hne := tkN_ne
  have CT := hide (i_tracks2 D n a cap w hD hz hr hT)
  have HT := hide hT
  cases hpk : pkB D
  · have HE := hide (clB_wrong hpk)
    rw [hpk] at CT
    clear hr hD hz hT hpk
    go_enter Tryd.func22, Tryd.ntmps22
    go_wp2_with (first
      | (go_at_call 34; refine CT.out.mono ?_; rintro r w1 ⟨b9, m9, c9, F, e, rfl, hA, hb1⟩; have HB1 := hide hb1; obtain ⟨hsz, hzs⟩ := tk_fit b9 m9 c9 F e; have hall := tkC_one b9 m9 c9 F e; obtain ⟨CS, hCS⟩ : ∃ CS, tkC (.slice b9 m9 c9) F e = CS := ⟨_, rfl⟩; rw [hCS] at hsz hzs hall ⊢; clear hA hb1 hCS)
      | (refine wpList_store_row rfl 55 _ _ rfl w1.heap.size CS rfl rfl 55 _ (heap_alloc_last w1 _) hsz hzs hall ?_; rw [World.setRow_alloc_new]))
    go_ret
    exact ⟨ret_bool HE.out.symm, HB1.out.alloc HB1.out.size _⟩
  · have hn1 : 1 ≤ n ∧ n ≤ 40 := by rw [← hD]; exact (pk_facts hpk).1
    have HRN := hide (rn_of hD hpk hz)
    have HD := hide hD
    have HPK := hide hpk
    obtain ⟨b0, off, rfl, hb0, hrow⟩ := hr (by rw [hD]; omega)
    have HROW := hide hrow
    rw [hpk] at CT
    clear hr hD hz hT hpk hrow
    go_enter Tryd.func22, Tryd.ntmps22
    go_wp2_with (first
      | (go_at_call 34; refine CT.out.mono ?_; rintro r w1 ⟨b9, m9, c9, F, e, rfl, hA, hb1⟩; obtain ⟨rfl, rfl, rfl, hTK⟩ := hA.1 HPK.out; have HTK := hide hTK; have HB1 := hide hb1; obtain ⟨hsz, hzs⟩ := tk_fit (some ⟨b0, off, none⟩) m9 c9 F e; have hall := tkC_one (some ⟨b0, off, none⟩) m9 c9 F e; have HC := hide (cellsAt_new w1 (tkC (.slice (some ⟨b0, off, none⟩) m9 c9) F e) 55); obtain ⟨CS, hCS⟩ : ∃ CS, tkC (.slice (some ⟨b0, off, none⟩) m9 c9) F e = CS := ⟨_, rfl⟩; have HCS := hide hCS; rw [hCS] at hsz hzs hall HC ⊢; have HB1a := hide (HB1.out.alloc HB1.out.size (.cells CS 55)); clear hA hb1 hCS hTK)
      | (refine wpList_store_row rfl 55 _ _ rfl w1.heap.size CS rfl rfl 55 _ (heap_alloc_last w1 _) hsz hzs hall ?_; rw [World.setRow_alloc_new])
      | (go_at_call 45; refine (i_clearAll D _ b0 off _ w1.heap.size F e _ HD.out HPK.out HRN.out HTK.out (tzT_go HT.out HB1a.out (Nat.le_refl _)) (Nat.lt_of_lt_of_le hb0 HB1a.out.size) (pnRow_up (pnRow_go HROW.out hb0 HB1a.out) HB1a.out.size) (by rw [HCS.out]; exact HC.out)).mono ?_; rintro r w2 ⟨rfl, hb2⟩; have HB2 := hide (HB1a.out.trans (hb2.mono HB1a.out.size)); clear hb2))
    go_ret
    exact ⟨rfl, HB2.out⟩
end Go.Proofs.YtfohfljdgmlibaaDoor

/-
  Contracts: which positions take the names, by the program.
-/
namespace Go.Proofs.YtfohfljdgmlibaaDoor
open Go.RowKit Go.Joins
set_option linter.unusedVariables false
set_option linter.unusedSimpArgs false
/-- What either answers. -/
def AtAns (D : Pn) (W : List ByteArray) (w : World) (r : Ending) (w' : World) : Prop := ∃ ad c, r = .returned (.tuple #[.slice ad ((arA D W).getD []).length c, .bool (arA D W).isSome]) ∧ IntR w.heap.size w' ad c ((arA D W).getD []) ∧ Below w.heap.size w w'
theorem at_none {D : Pn} {W : List ByteArray} {w w' : World} (h : arA D W = none) (hb : Below w.heap.size w w') : AtAns D W w (.returned (.tuple #[.slice none 0 0, .bool false])) w' := by
  unfold AtAns
  rw [h]
  exact ⟨none, 0, rfl, intR_nil _ _, hb⟩
theorem at_some {D : Pn} {W : List ByteArray} {w w' : World} {L : List Int} {ad : Option Addr} {c : Nat} (h : arA D W = some L) (ho : IntR w.heap.size w' ad c L) (hb : Below w.heap.size w w') : AtAns D W w (.returned (.tuple #[.slice ad L.length c, .bool true])) w' := by
  unfold AtAns
  rw [h]
  exact ⟨ad, c, rfl, ho, hb⟩
theorem ar_not {D : Pn} {W : List ByteArray} (h : clB D = false) : arA D W = none := by unfold arA; rw [if_neg (by rw [h]; simp)]
theorem ar_long {D : Pn} {W : List ByteArray} (h : 200 < W.length) : arA D W = none := by unfold arA; rw [if_neg (by omega)]
set_option maxRecDepth 100000 in
set_option maxHeartbeats 8000000 in
theorem i_attr (D : Pn) (n : Nat) (a : Option Addr) (cap : Nat) (W : List ByteArray) (m : Nat) (b : Option Addr) (cq : Nat) (w : World) (hD : D.n = n) (hz : pnTot D ≤ 1048576) (hr : PnAt w a D w.heap.size) (hW : W.length = m) (hm : m ≤ 1048576) (hq : TxAt w b W w.heap.size) (hT : TzT w) :
    Calls Tryd.prog 19 #[.slice a n cap, .slice b m cq] w (AtAns D W w) := by
  obtain ⟨i0, hi0, hz0, hz1, hz2⟩ := info_parts info64
  have hzz := tk_zero
  have hne := tkN_ne
  have CN := hide (fun (W : World) => i_only 40 W (by omega))
  have CT := hide (i_tracks2 D n a cap w hD hz hr hT)
  have HT := hide hT
  have HW := hide hW
  have HQ := hide hq
  cases hpk : pkB D
  · have HE := hide (ar_not (W := W) (clB_wrong hpk))
    rw [hpk] at CT
    clear hr hD hz hT hpk hW hq
    go_enter Tryd.func19, Tryd.ntmps19
    go_wp2_with (first
      | (go_at_call 34; refine CT.out.mono ?_; rintro r w1 ⟨b9, m9, c9, F, e, rfl, hA, hb1⟩; have HB1 := hide hb1; obtain ⟨hsz, hzs⟩ := tk_fit b9 m9 c9 F e; have hall := tkC_one b9 m9 c9 F e; obtain ⟨CS, hCS⟩ : ∃ CS, tkC (.slice b9 m9 c9) F e = CS := ⟨_, rfl⟩; rw [hCS] at hsz hzs hall ⊢; clear hA hb1 hCS)
      | (refine wpList_store_row rfl 55 _ _ rfl w1.heap.size CS rfl rfl 55 _ (heap_alloc_last w1 _) hsz hzs hall ?_; rw [World.setRow_alloc_new]))
    go_ret2
    exact at_none HE.out (HB1.out.alloc HB1.out.size _)
  have hn1 : 1 ≤ n ∧ n ≤ 40 := by rw [← hD]; exact (pk_facts hpk).1
  have HRN := hide (rn_of hD hpk hz)
  have HD := hide hD
  have HPK := hide hpk
  obtain ⟨b0, off, rfl, hb0, hrow⟩ := hr (by rw [hD]; omega)
  have HROW := hide hrow
  rw [hpk] at CT
  cases hcl : clB D
  · have HE := hide (ar_not (W := W) hcl)
    have HCL := hide hcl
    clear hr hD hz hT hpk hrow hW hq hcl
    go_enter Tryd.func19, Tryd.ntmps19
    go_wp2_with (first
      | (go_at_call 34; refine CT.out.mono ?_; rintro r w1 ⟨b9, m9, c9, F, e, rfl, hA, hb1⟩; obtain ⟨rfl, rfl, rfl, hTK⟩ := hA.1 HPK.out; have HTK := hide hTK; have HB1 := hide hb1; have HEL := hide (tk_null hA).2; obtain ⟨hsz, hzs⟩ := tk_fit (some ⟨b0, off, none⟩) m9 c9 F e; have hall := tkC_one (some ⟨b0, off, none⟩) m9 c9 F e; have HC := hide (cellsAt_new w1 (tkC (.slice (some ⟨b0, off, none⟩) m9 c9) F e) 55); obtain ⟨CS, hCS⟩ : ∃ CS, tkC (.slice (some ⟨b0, off, none⟩) m9 c9) F e = CS := ⟨_, rfl⟩; have HCS := hide hCS; rw [hCS] at hsz hzs hall HC ⊢; have HB1a := hide (HB1.out.alloc HB1.out.size (.cells CS 55)); clear hA hb1 hCS hTK)
      | (refine wpList_store_row rfl 55 _ _ rfl w1.heap.size CS rfl rfl 55 _ (heap_alloc_last w1 _) hsz hzs hall ?_; rw [World.setRow_alloc_new])
      | (go_at_call 45; refine (i_clearAll D _ b0 off _ w1.heap.size F e _ HD.out HPK.out HRN.out HTK.out (tzT_go HT.out HB1a.out (Nat.le_refl _)) (Nat.lt_of_lt_of_le hb0 HB1a.out.size) (pnRow_up (pnRow_go HROW.out hb0 HB1a.out) HB1a.out.size) (by rw [HCS.out]; exact HC.out)).mono ?_; rintro r w2 ⟨rfl, hb2⟩; rw [HCL.out]; have HC2 := hide (cellsAt_go HC.out hb2 (cellsAt_lt HC.out)); have HB2 := hide (HB1a.out.trans (hb2.mono HB1a.out.size)); clear hb2))
    go_ret2
    exact at_none HE.out HB2.out
  have HCL := hide hcl
  by_cases h200 : 200 < m
  · have HE := hide (ar_long (D := D) (W := W) (by omega))
    have h2i : (200 : Int) < (m : Int) := by omega
    clear hr hD hz hT hpk hrow hW hq hcl
    go_enter Tryd.func19, Tryd.ntmps19
    go_wp2_with (first
      | (go_at_call 34; refine CT.out.mono ?_; rintro r w1 ⟨b9, m9, c9, F, e, rfl, hA, hb1⟩; obtain ⟨rfl, rfl, rfl, hTK⟩ := hA.1 HPK.out; have HTK := hide hTK; have HB1 := hide hb1; have HEL := hide (tk_null hA).2; obtain ⟨hsz, hzs⟩ := tk_fit (some ⟨b0, off, none⟩) m9 c9 F e; have hall := tkC_one (some ⟨b0, off, none⟩) m9 c9 F e; have HC := hide (cellsAt_new w1 (tkC (.slice (some ⟨b0, off, none⟩) m9 c9) F e) 55); obtain ⟨CS, hCS⟩ : ∃ CS, tkC (.slice (some ⟨b0, off, none⟩) m9 c9) F e = CS := ⟨_, rfl⟩; have HCS := hide hCS; rw [hCS] at hsz hzs hall HC ⊢; have HB1a := hide (HB1.out.alloc HB1.out.size (.cells CS 55)); clear hA hb1 hCS hTK)
      | (refine wpList_store_row rfl 55 _ _ rfl w1.heap.size CS rfl rfl 55 _ (heap_alloc_last w1 _) hsz hzs hall ?_; rw [World.setRow_alloc_new])
      | (go_at_call 45; refine (i_clearAll D _ b0 off _ w1.heap.size F e _ HD.out HPK.out HRN.out HTK.out (tzT_go HT.out HB1a.out (Nat.le_refl _)) (Nat.lt_of_lt_of_le hb0 HB1a.out.size) (pnRow_up (pnRow_go HROW.out hb0 HB1a.out) HB1a.out.size) (by rw [HCS.out]; exact HC.out)).mono ?_; rintro r w2 ⟨rfl, hb2⟩; rw [HCL.out]; have HC2 := hide (cellsAt_go HC.out hb2 (cellsAt_lt HC.out)); have HB2 := hide (HB1a.out.trans (hb2.mono HB1a.out.size)); clear hb2))
    go_ret2
    exact at_none HE.out HB2.out
  have h2i : (m : Int) ≤ 200 := by omega
  have HN40 : Hid (D.n ≤ 40) := hide (by omega)
  clear hr hD hz hT hpk hrow hW hq hcl
  go_enter Tryd.func19, Tryd.ntmps19
  go_wp2_with (first
      | (go_at_call 34; refine CT.out.mono ?_; rintro r w1 ⟨b9, m9, c9, F, e, rfl, hA, hb1⟩; obtain ⟨rfl, rfl, rfl, hTK⟩ := hA.1 HPK.out; have HTK := hide hTK; have HB1 := hide hb1; have HEL := hide (tk_null hA).2; obtain ⟨hsz, hzs⟩ := tk_fit (some ⟨b0, off, none⟩) m9 c9 F e; have hall := tkC_one (some ⟨b0, off, none⟩) m9 c9 F e; have HC := hide (cellsAt_new w1 (tkC (.slice (some ⟨b0, off, none⟩) m9 c9) F e) 55); obtain ⟨CS, hCS⟩ : ∃ CS, tkC (.slice (some ⟨b0, off, none⟩) m9 c9) F e = CS := ⟨_, rfl⟩; have HCS := hide hCS; rw [hCS] at hsz hzs hall HC ⊢; have HB1a := hide (HB1.out.alloc HB1.out.size (.cells CS 55)); clear hA hb1 hCS hTK)
      | (refine wpList_store_row rfl 55 _ _ rfl w1.heap.size CS rfl rfl 55 _ (heap_alloc_last w1 _) hsz hzs hall ?_; rw [World.setRow_alloc_new])
      | (go_at_call 45; refine (i_clearAll D _ b0 off _ w1.heap.size F e _ HD.out HPK.out HRN.out HTK.out (tzT_go HT.out HB1a.out (Nat.le_refl _)) (Nat.lt_of_lt_of_le hb0 HB1a.out.size) (pnRow_up (pnRow_go HROW.out hb0 HB1a.out) HB1a.out.size) (by rw [HCS.out]; exact HC.out)).mono ?_; rintro r w2 ⟨rfl, hb2⟩; rw [HCL.out]; have HC2 := hide (cellsAt_go HC.out hb2 (cellsAt_lt HC.out)); have HB2 := hide (HB1a.out.trans (hb2.mono HB1a.out.size)); clear hb2)
      | (go_at_call 35; refine (CN.out _).mono ?_; rintro r9 w9 ⟨rfl, h9⟩; rw [h9]; clear h9 w9))
  rw [← HCS.out] at HC2
  clear hsz hall hzz hne hzs
  go_loopw [8, 9, 31] (fun lv hv mv wr => ∃ (t x : Nat) (L : List Int) (sa : Option Addr) (sc : Nat), t ≤ m ∧ mv = .int .i64 t ∧ hv = .int .u64 (x : Int) ∧ lv = .slice sa L.length sc ∧ Hid (IntR w2.heap.size wr sa sc L) ∧ Hid (InA D W t x L) ∧ Hid (Below w2.heap.size w2 wr)) (fun _ _ mv _ => m - (intOf mv).toNat)
  case atStart => exact ⟨0, 1099511627776, [], none, 0, Nat.zero_le _, rfl, rfl, rfl, hide (intR_nil _ _), hide (inA_zero D W), hide (Below.refl _ _)⟩
  case round =>
    obtain ⟨t, x, L, sa, sc, ht, rfl, rfl, rfl, HO, HH, HB⟩ := hrel
    have HBw := hide (HB2.out.trans (HB.out.mono HB2.out.size))
    have hx := inA_lt HN40.out HH.out
    have hLl := inA_len HH.out
    by_cases hlt : t < m
    · have htL : t < W.length := by rw [HW.out]; exact hlt
      obtain ⟨b9, off9, rfl, hb9, hc9⟩ := tx_cell (tx_go HQ.out HBw.out) t htL
      have k0 := hc9 t htL
      have hti : (t : Int) < (m : Int) := by omega
      have ht0 : (0 : Int) ≤ (t : Int) := by omega
      have CA := hide (i_after D _ b0 off _ w1.heap.size x F e (W[t]?.getD ⟨#[]⟩) wr HRN.out (Nat.lt_of_lt_of_le hb0 HBw.out.size) (pnRow_up (pnRow_go HROW.out hb0 HBw.out) HBw.out.size) (cellsAt_go HC2.out HB.out (cellsAt_lt HC2.out)) (tzT_go HT.out HBw.out (Nat.le_refl _)) hx (tkOf_lt HTK.out))
      have HNX := hide (fun y hb => inA_next HCL.out HTK.out HH.out (y := y) hb)
      obtain ⟨s, hs⟩ : ∃ s, W[t]?.getD ⟨#[]⟩ = s := ⟨_, rfl⟩
      rw [hs] at k0 CA HNX
      clear hc9 hs htL
      go_wp2_with (first
        | (go_at_call 36; refine CA.out.mono ?_; rintro r w3 ⟨y, rfl, hy, hyb, hb3⟩; have HN2 := hide (HNX.out y hyb); have HO3 := hide (gOwn_after HO.out hb3); have HB3 := hide (HB.out.trans (hb3.mono HB.out.size)); clear hyb hb3)
        | (go_at_call 43; refine (i_list y w3 (by omega) (tzT_go HT.out (HB2.out.trans (HB3.out.mono HB2.out.size)) (Nat.le_refl _))).mono ?_; rintro r w4 ⟨ad4, c4, rfl, ho4, hb4⟩; have hbl := bts_len (x := y) (by omega); obtain ⟨P, hP⟩ : ∃ P, bts y = P := ⟨_, rfl⟩; rw [hP] at HN2 hbl ho4 ⊢; have HP4 := hide ho4; have HO4 := hide (gOwn_after HO3.out hb4); have HB4 := hide (HB3.out.trans (hb4.mono HB3.out.size)); clear hP ho4 hb4)
        | (at_builtin; refine wpList_append_src (by rfl) (.tmp 38) (.tmp 40) 30 (by rfl) w2.heap.size 2 i0 (.int .i64 0) 1 8 Tryd.underlying30 hi0 hz0 hz1 hz2 rfl (by decide) (.slice sa L.length sc) L.length (L.map (Value.int .i64)) (by rfl) HO4.out ad4 P.length c4 (P.map (Value.int .i64)) (by rfl) (by rw [List.length_map, Nat.mul_one]) (fun hp => intR_src HP4.out hp) (ints_one _) (by unfold maxLen; omega) (by omega) HB4.out.size ?_; intro a5 c5 w5 hown5 hgr5; have HO5 := hide (intR_join hown5); have HB5 := hide (HB4.out.grown hgr5 HB4.out.size (fun k hk => (HO4.out.lt k hk).1)); clear hown5 hgr5))
      go_roundw
      case rel => exact ⟨t + 1, y, L ++ P, a5, c5, by omega, by go_num, rfl, by rw [List.length_append], HO5, HN2, HB5⟩
      case measure => simp [intOf]; omega
    · have htm : t = m := by omega
      subst htm
      have CM := hide (i_mayEnd w1.heap.size x _ F e wr (by omega) HEL.out (cellsAt_go HC2.out HB.out (cellsAt_lt HC2.out)))
      have HE := hide (inA_end (x := x) HCL.out (by rw [HW.out]; omega) HTK.out (by rw [HW.out]; exact HH.out))
      obtain ⟨V, hV⟩ : ∃ V, decide (x &&& e ≠ 0) = V := ⟨_, rfl⟩
      rw [hV] at CM HE
      clear hV
      cases V
      · go_wp2_with (first | (go_at_call 37; refine CM.out.mono ?_; rintro r9 w9 ⟨rfl, h9⟩; rw [h9]; clear h9 w9))
        go_ret2
        exact at_none (HE.out.2 (by first | trivial | rfl)) HBw.out
      · go_wp2_with (first | (go_at_call 37; refine CM.out.mono ?_; rintro r9 w9 ⟨rfl, h9⟩; rw [h9]; clear h9 w9))
        go_ret2
        exact at_some (HE.out.1 (by first | trivial | rfl)) (gOwn_lower HO.out HB2.out.size) HBw.out
end Go.Proofs.YtfohfljdgmlibaaDoor

/-
  The walk of FnExactNullable: at every row of nodes the two answers are the same, and the row is as it was.
-/
namespace Go.Proofs.YtfohfljdgmlibaaDoor
open Go.RowKit Go.Joins
set_option linter.unusedVariables false
set_option linter.unusedSimpArgs false
set_option maxRecDepth 100000 in
set_option maxHeartbeats 4000000 in
theorem s_nullable (D : Pn) (n : Nat) (a : Option Addr) (cap : Nat) (w : World) (hD : D.n = n) (hz : pnTot D ≤ 1048576) (hr : PnAt w a D w.heap.size) :
    Calls Tryd.prog 48 #[.slice a n cap] w fun e w' => e = .returned (.bool (pkB D && nl D (D.n - 1))) ∧ Below w.heap.size w w' := by
  have HP := hide (s_particle D n a cap w hD hz hr)
  cases hpk : pkB D
  · rw [hpk] at HP
    clear hD hz hr hpk
    go_enter Tryd.func48, Tryd.ntmps48
    go_wp2_with (first | (go_at_call 11; refine HP.out.mono ?_; rintro r w1 ⟨rfl, hb1⟩; have HB1 := hide hb1; clear hb1))
    go_ret
    exact ⟨rfl, HB1.out⟩
  · have hRN := rn_of hD hpk hz
    have hn1 : 1 ≤ n ∧ n ≤ 40 := by rw [← hD]; exact (pk_facts hpk).1
    obtain ⟨b0, off, rfl, hb0, hrow⟩ := hr (by rw [hD]; omega)
    have CN := hide (fun (W : World) (hW : Below w.heap.size w W) => s_null D n b0 off cap hRN n (n - 1) (by omega) (by omega) W (Nat.lt_of_lt_of_le hb0 hW.size) (pnRow_up (pnRow_go hrow hb0 hW) hW.size))
    rw [hpk] at HP
    have hnn : (n : Int) - 1 = ((n - 1 : Nat) : Int) := by omega
    have hwp : IntKind.i64.wrap ((n - 1 : Nat) : Int) = ((n - 1 : Nat) : Int) := by rw [IntKind.wrap_i64]; omega
    have HE : Hid (nl D (D.n - 1) = nl D (n - 1)) := hide (by rw [hD])
    clear hD hz hr hpk hrow hRN
    go_enter Tryd.func48, Tryd.ntmps48
    go_wp2_with (first
      | (go_at_call 11; refine HP.out.mono ?_; rintro r w1 ⟨rfl, hb1⟩; have HB1 := hide hb1; clear hb1)
      | (go_at_call 80; refine (CN.out _ HB1.out).mono ?_; rintro r w2 ⟨rfl, hb2⟩; have HB2 := hide (HB1.out.trans (hb2.mono HB1.out.size)); clear hb2))
    go_ret
    exact ⟨by rw [HE.out]; rfl, HB2.out⟩
end Go.Proofs.YtfohfljdgmlibaaDoor
