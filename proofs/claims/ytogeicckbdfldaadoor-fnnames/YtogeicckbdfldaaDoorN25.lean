/-
  The walk of FnNames.
-/
import Derived.Test.YtogeicckbdfldaaDoorN24
import Derived.BigQuiet
namespace Go.Proofs.YtogeicckbdfldaaDoor
open Go.RowKit Go.Joins
set_option linter.unusedVariables false
set_option linter.unusedSimpArgs false
set_option maxHeartbeats 16000000 in
set_option maxRecDepth 100000 in
theorem fn_walk (a : Option Addr) (n cap : Nat) (zs : List Int) (w : World) (hl : zs.length = n) (hz : ∀ x ∈ zs, 0 ≤ x ∧ x ≤ 255) (hn : n ≤ 1048576) (hs : SrcAt w a zs w.heap.size) (hT : Tabs w) :
    Calls Tryd.prog 4 #[.slice a n cap] w fun e w' => e = .returned (.bool true) ∧ Below w.heap.size w w' := by
  have hn' : ¬ (1048576 : Int) < (n : Int) := by omega
  have HT := hide hT
  have CD := hide (d_namesof a n cap zs w (fun G => grow_at G a n cap zs) hl hz hn hs)
  clear hs hl hz hT
  go_enter Tryd.func4, Tryd.ntmps4
  go_wp2_with (go_at_call 6; go_in)
  refine CD.out.mono ?_
  rintro e w1 ⟨ad, m, c, D, rfl, hD, ⟨hm1, hm2⟩, htot, hdc, hb1⟩
  have B1 := hide hb1
  have HT1 := hide (tabs_below HT.out hb1)
  have HD := hide hD
  have HTO := hide htot
  have HDC := hide hdc
  clear hb1 hD htot hdc CD
  have NI := hide (fun (w9 : World) (hb : Hid (Below w1.heap.size w1 w9)) => i_namesof D m ad c w9 HD.out HTO.out (dcAt_up (dcAt_go HDC.out hb.out) hb.out.size) (tabs_below HT1.out hb.out))
  have NS := hide (fun (w9 : World) (hb : Hid (Below w1.heap.size w1 w9)) => s_namesof D m ad c w9 HD.out HTO.out (dcAt_up (dcAt_go HDC.out hb.out) hb.out.size))
  have BI := hide (fun (y : Int) (p : ByteArray) (hp : p.size ≤ 1048576) (w9 : World) (hb : Hid (Below w1.heap.size w1 w9)) => i_boundat D m ad c y p w9 hp HD.out HTO.out (dcAt_up (dcAt_go HDC.out hb.out) hb.out.size) (tabs_below HT1.out hb.out))
  have AI := hide (fun (y : Int) (w9 : World) (hb : Hid (Below w1.heap.size w1 w9)) => i_attrnames D m ad c y w9 HD.out HTO.out (dcAt_up (dcAt_go HDC.out hb.out) hb.out.size) (tabs_below HT1.out hb.out))
  have H0 : Hid (Below w1.heap.size w1 w1) := hide (Below.refl _ _)
  cases hno : noQ D with
  | none =>
    have N0 := hide (NI.out w1 H0)
    rw [hno] at N0 NS
    go_wp2_with fail
    refine N0.out.mono ?_
    rintro e w2 ⟨hb2, ⟨-, rfl⟩ | ⟨L, ad2, c2, he, -, -⟩⟩
    · have B2 := hide hb2
      clear hb2
      go_wp2_with fail
      refine (NS.out _ B2).mono ?_
      rintro e w3 ⟨hb3, ⟨-, rfl⟩ | ⟨L, ad2, c2, he, -, -⟩⟩
      · have B3 := hide (B1.out.trans ((B2.out.trans (hb3.mono B2.out.size)).mono B1.out.size))
        clear hb3
        go_wp2
        go_ret
        exact ⟨rfl, B3.out⟩
      · cases he
    · cases he
  | some L =>
    have N0 := hide (NI.out w1 H0)
    rw [hno] at N0 NS
    obtain ⟨hd, hLn⟩ := no_doc hno
    have HTX := hide (fun (k : Nat) (hk : k < D.n) (he : (D.NM k).toList.isEmpty = true) => nm_text hd hno hk he)
    have HEL := hide (fun (k : Nat) (hk : k < D.n) (he : (D.NM k).toList.isEmpty = false) => nm_elem hd hno hk he)
    rw [HD.out] at hLn HTX HEL
    clear hd hno
    go_wp2_with fail
    refine N0.out.mono ?_
    rintro e w2 ⟨hb2, ⟨he, -⟩ | ⟨L2, na, nc, he, rfl, ho⟩⟩
    · cases he
    · obtain rfl : L = L2 := Option.some.inj he
      rw [hLn] at ho ⊢
      have HNA := hide (ownQ_at ho)
      have B2 := hide hb2
      clear hb2 ho he
      go_wp2_with fail
      refine (NS.out _ B2).mono ?_
      rintro e w3 ⟨hb3, ⟨he, -⟩ | ⟨L2, sa, sc, he, rfl, ho⟩⟩
      · cases he
      · obtain rfl : L = L2 := Option.some.inj he
        rw [hLn]
        replace HNA := hide (atAt_up (atAt_go HNA.out hb3) hb3.size)
        have B3 := hide (B2.out.trans (hb3.mono B2.out.size))
        clear hb3 ho he N0
        obtain ⟨b, off, rfl, hbs, hrow⟩ := HDC.out (by rw [HD.out]; omega)
        have HRW := hide hrow
        clear hrow
        obtain ⟨bN, oN, rfl, hbN, hcN⟩ := HNA.out (by omega)
        have HCN := hide hcN
        clear hcN HNA
        go_wp2
        go_loopw [8] (fun iv wr => ∃ i : Nat, i ≤ m ∧ iv = .int .i64 i ∧ Hid (Below w3.heap.size w3 wr)) (fun iv _ => m - (intOf iv).toNat)
        case atStart => exact ⟨0, Nat.zero_le _, rfl, hide (Below.refl _ _)⟩
        case round =>
          obtain ⟨i, hi, rfl, BR⟩ := hrel
          have BW := hide (B3.out.trans (BR.out.mono B3.out.size))
          by_cases hlt : i < m
          · have hiI : (i : Int) < (m : Int) := by omega
            have hi0 : (0 : Int) ≤ (i : Int) := by omega
            obtain ⟨ad9, cp9, hc9, -, hcp9⟩ := HRW.out i (by rw [HD.out]; exact hlt)
            obtain ⟨c0, c1, c2, c3⟩ := dcCells_go hc9 hbs BW.out
            have HC9 := hide hc9
            have q0 := (BR.out.cell (p := ⟨bN, oN + i * 2, none⟩) hbN).trans (HCN.out i hlt).1
            have q1 := (BR.out.cell (p := ⟨bN, oN + i * 2 + 1, none⟩) hbN).trans (HCN.out i hlt).2
            have hnms := ((dc_sz HTO.out).2 i (by rw [HD.out]; exact hlt)).1
            have T1 := hide (HTX.out i hlt)
            have T2 := hide (HEL.out i hlt)
            obtain ⟨NM, hNM⟩ : ∃ NM, D.NM i = NM := ⟨_, rfl⟩
            rw [hNM] at c1 T1 T2 hnms
            have hsp := spl_sz NM
            clear hc9 hNM c0 c2 hcp9
            cases hE : NM.toList.isEmpty
            · obtain ⟨e1, e2, e3, A, e4, hsep, hAl⟩ := T2.out hE
              have CS := hide (fun (w9 : World) => i_splitB NM w9 (by omega))
              have CB := hide (BI.out i (spl NM).1 (by omega))
              rw [e2, ← e1] at CB
              rw [← e3] at CS
              have CA := hide (AI.out i)
              rw [e4] at CA
              have HSEP := hide hsep
              obtain ⟨SP, hSP⟩ : ∃ x, qA L i = x := ⟨_, rfl⟩
              obtain ⟨LO, hLO⟩ : ∃ x, qB L i = x := ⟨_, rfl⟩
              obtain ⟨PR, hPR⟩ : ∃ x, (spl NM).1 = x := ⟨_, rfl⟩
              obtain ⟨OK, hOK⟩ : ∃ x, (spl NM).2.2 = x := ⟨_, rfl⟩
              obtain ⟨AC, hAC⟩ : ∃ x, D.AC i = x := ⟨_, rfl⟩
              rw [hSP, hPR] at CB
              rw [hSP] at q0
              rw [hLO] at q1
              rw [hLO, hPR, hOK] at CS
              rw [hAC] at c3 hAl hnms
              have HSP := hide hSP
              have HLO := hide hLO
              have HACE := hide hAC
              clear e1 e2 e3 e4 hsep hSP hLO hPR hOK hAC hsp T1 T2
              go_wp2_with fail
              refine (CS.out _).mono ?_
              rintro e w4 ⟨rfl, hb4⟩
              have B4 := hide (BW.out.trans (hb4.mono BW.out.size))
              have R4 := hide (BR.out.trans (hb4.mono BR.out.size))
              clear hb4
              go_wp2_with fail
              refine (CB.out _ B4).mono ?_
              rintro e w5 ⟨rfl, hb5⟩
              have B5 := hide (B4.out.trans (hb5.mono B4.out.size))
              have R5 := hide (R4.out.trans (hb5.mono R4.out.size))
              clear hb5
              go_wp2_with fail
              refine (CA.out _ B5).mono ?_
              rintro e w6 ⟨hb6, ⟨he, -⟩ | ⟨A2, aa, ac, he, rfl, ho⟩⟩
              · cases he
              · obtain rfl : A = A2 := Option.some.inj he
                have HAA := hide (ownQ_at ho)
                have B6 := hide (B5.out.trans (hb6.mono B5.out.size))
                have R6 := hide (R5.out.trans (hb6.mono R5.out.size))
                clear hb6 ho he c1 c3 q0 q1
                obtain ⟨-, -, -, c3⟩ := dcCells_go HC9.out hbs B6.out
                have q0 := (R6.out.cell (p := ⟨bN, oN + i * 2, none⟩) hbN).trans (HCN.out i hlt).1
                have q1 := (R6.out.cell (p := ⟨bN, oN + i * 2 + 1, none⟩) hbN).trans (HCN.out i hlt).2
                rw [HSP.out] at q0
                rw [HLO.out] at q1
                rw [HACE.out] at c3
                obtain ⟨K, hK⟩ : ∃ K, A.length = K := ⟨_, rfl⟩
                rw [hK] at HAA hAl ⊢
                have HKE := hide hK
                clear hK
                have hAI : ¬ (AC : Int) < (K : Int) := by omega
                have hK9 : K ≤ 1048576 := by omega
                clear hAl hnms
                go_wp2
                go_loopw [16] (fun kv wr2 => ∃ k : Nat, k ≤ K ∧ kv = .int .i64 k ∧ ∃ q, wr2 = w6.drewN q) (fun kv _ => K - (intOf kv).toNat)
                case atStart => exact ⟨0, Nat.zero_le _, rfl, 0, rfl⟩
                case round =>
                  obtain ⟨k, hk, rfl, q, rfl⟩ := hrel
                  by_cases hkK : k < K
                  · have hkI : (k : Int) < (K : Int) := by omega
                    have hkI0 : (0 : Int) ≤ (k : Int) := by omega
                    go_wp2
                    go_loopw [17] (fun jv wr3 => ∃ j : Nat, j ≤ k ∧ jv = .int .i64 j ∧ ∃ q, wr3 = w6.drewN q) (fun jv _ => k - (intOf jv).toNat)
                    case atStart => exact ⟨0, Nat.zero_le _, rfl, q, rfl⟩
                    case round =>
                      obtain ⟨j, hj, rfl, q2, rfl⟩ := hrel
                      by_cases hjk : j < k
                      · obtain ⟨bA, oA, rfl, hbA, hcA⟩ := HAA.out (by omega)
                        obtain ⟨k0, k1⟩ := hcA k hkK
                        obtain ⟨j0, j1⟩ := hcA j (by omega)
                        have hjI : (j : Int) < (k : Int) := by omega
                        have hjI2 : (j : Int) < (K : Int) := by omega
                        have hjI0 : (0 : Int) ≤ (j : Int) := by omega
                        have hse := HSEP.out k j hjk (by rw [HKE.out]; exact hkK)
                        clear hcA
                        by_cases e1 : (qA A k).toList = (qA A j).toList
                        · have e2 : ¬ (qB A k).toList = (qB A j).toList := fun h => hse ⟨e1, h⟩
                          clear hse
                          go_wp2
                          go_region
                          go_wp2
                          go_roundw
                          case rel => exact ⟨j + 1, by omega, by go_num, q2 + 1, by simp⟩
                          case measure => simp [intOf]; omega
                        · clear hse
                          go_wp2
                          go_region
                          go_wp2
                          go_roundw
                          case rel => exact ⟨j + 1, by omega, by go_num, q2 + 1, by simp⟩
                          case measure => simp [intOf]; omega
                      · go_wp2
                        go_roundw
                        case rel => exact ⟨k + 1, by omega, by go_num, q2, rfl⟩
                        case measure => simp [intOf]; omega
                  · go_wp2
                    go_roundw
                    case rel => exact ⟨i + 1, by omega, by go_num, hide (R6.out.trans ⟨rfl, rfl, rfl, Nat.le_refl _, fun _ _ => rfl⟩)⟩
                    case measure => simp [intOf]; omega
            · obtain ⟨e1, e2⟩ := T1.out hE
              rw [e1] at q0
              rw [e2] at q1
              clear T1 T2 e1 e2 hsp
              go_wp2
              go_roundw
              case rel => exact ⟨i + 1, by omega, by go_num, BR⟩
              case measure => simp [intOf]; omega
          · go_wp2
            go_ret
            exact ⟨rfl, B1.out.trans (BW.out.mono B1.out.size)⟩
end Go.Proofs.YtogeicckbdfldaaDoor
