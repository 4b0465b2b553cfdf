/-
  Texts put together: SelW2, FsW.
-/
import Derived.Test.YtpakkllcemcfdaaGreatDoorZ22
import Derived.Test.YtpakkllcemcfdaaGreatDoorZ31
import Derived.Test.YtpakkllcemcfdaaGreatDoorZ32
import Derived.Test.YtpakkllcemcfdaaGreatDoorZ24
import Derived.Test.YtpakkllcemcfdaaGreatDoorZ30
import Derived.BigQuiet
/-
  Contract: what a path selects, the specification's answer.
-/
namespace Go.Proofs.YtpakkllcemcfdaaGreatDoor
open Go.RowKit
set_option linter.unusedVariables false
set_option linter.unusedSimpArgs false
theorem sel_none {D : Dc} {x : Int} {s : ByteArray} {w W : World} (h : selV D x s = []) (hb : Below w.heap.size w W) : SelAns D x s w (.returned (.slice (some ⟨W.heap.size, 0, none⟩) 0 0)) (W.alloc (.cells #[] 2)) :=
  ⟨some ⟨W.heap.size, 0, none⟩, 0, by rw [h]; rfl, by rw [h]; exact World.ownsRow_made (base := w.heap.size) (e := 2) (size := 1) W #[] 0 hb.size (Nat.zero_le _) rfl, hb.alloc hb.size _⟩
set_option maxRecDepth 100000 in
set_option maxHeartbeats 4000000 in
theorem s_select (D : Dc) (n : Nat) (a : Option Addr) (cap : Nat) (x : Int) (s : ByteArray) (w : World) (hD : D.n = n) (hz : dcTot D ≤ 1048576) (hs : s.size ≤ 1048576) (hr : DcAt w a D w.heap.size) :
    Calls Tryz.prog 10 #[.slice a n cap, .int .i64 x, .string s] w (SelAns D x s w) := by
  have HD := hide hD
  have HR := hide hr
  have hn : n ≤ 1048576 := by rw [← hD]; exact (dc_sz hz).1
  have CD := hide (s_docok D n a cap w hD hz hr)
  have CP := hide (fun (W : World) => s_path s W hs)
  clear hr hD hz
  cases hd : docokB D
  · have HV := hide (selV_no (D := D) (x := x) (s := s) (.inr (by unfold txOk; rw [hd]; rfl)))
    rw [hd] at CD
    go_enter Tryz.func10, Tryz.ntmps10
    go_wp2_with (first | (go_at_call 13; refine CD.out.mono ?_; rintro e w1 ⟨rfl, hb1⟩; have HB := hide hb1; clear hb1))
    go_ret
    exact sel_none HV.out HB.out
  · obtain ⟨⟨g1, g2⟩, hit, hsum⟩ := docok_facts hd
    rw [HD.out] at g1 g2
    rw [hd] at CD
    have HDK := hide hd
    have HG := hide (docok_good hd)
    rw [HD.out] at HG
    have hlen : (1 : Int) ≤ (n : Int) := by omega
    clear hit hsum hd
    by_cases hin : 0 ≤ x ∧ x ≤ (n : Int) - 1
    · have HIN := hide hin
      obtain ⟨h0, h1⟩ := hin
      obtain ⟨b, off, rfl, hbs, hrow⟩ := HR.out (by rw [HD.out]; omega)
      obtain ⟨ad, cp, hc, -⟩ := hrow x.toNat (by rw [HD.out]; omega)
      have HRW := hide hrow
      have HCC := hide hc
      have hxn : x < (n : Int) := by omega
      clear hrow hc
      cases he : (D.NM x.toNat).toList.isEmpty
      · have HTX : Hid (txOk D x = true) := hide (by unfold txOk; rw [HDK.out, HD.out, decide_eq_true HIN.out, he]; rfl)
        cases hrt : routeB s
        · have HV := hide (selV_no (D := D) (x := x) (s := s) (.inl hrt))
          rw [hrt] at CP
          go_enter Tryz.func10, Tryz.ntmps10
          go_wp2_with fail
          refine CD.out.mono ?_
          rintro e w1 ⟨rfl, hb1⟩
          obtain ⟨c0, c1, c2, c3⟩ := dcCells_go HCC.out hbs hb1
          have HB := hide hb1
          clear hb1
          go_wp2_with (first | (go_at_call 30; refine (s_inT _ _ _ _ HIN.out).mono ?_; rintro e w9 ⟨rfl, rfl⟩) | (go_at_call 14; refine (CP.out _).mono ?_; rintro e w2 ⟨rfl, hb2⟩; have HB2 := hide (low_trans HB.out hb2 HB.out.size); clear hb2))
          go_ret
          exact sel_none HV.out HB2.out
        · have HV := hide (selV_yes hrt HTX.out)
          rw [HD.out] at HV
          have HRT := hide hrt
          rw [hrt] at CP
          clear hrt
          go_enter Tryz.func10, Tryz.ntmps10
          go_wp2_with fail
          refine CD.out.mono ?_
          rintro e w1 ⟨rfl, hb1⟩
          obtain ⟨c0, c1, c2, c3⟩ := dcCells_go HCC.out hbs hb1
          have HB := hide hb1
          clear hb1
          go_wp2_with (first | (go_at_call 30; refine (s_inT _ _ _ _ HIN.out).mono ?_; rintro e w9 ⟨rfl, rfl⟩) | (go_at_call 14; refine (CP.out _).mono ?_; rintro e w2 ⟨rfl, hb2⟩; have HB2 := hide (low_trans HB.out hb2 HB.out.size); clear hb2) | fail)
          have hx' : x = (x.toNat : Int) := by omega
          have CT : Hid (Calls Tryz.prog 31 #[.slice (some ⟨b, off, none⟩) n cap, .int .i64 x, .string s] w2 fun e w' => ∃ ad2 c2, e = .returned (.slice ad2 (selV D x s).length c2) ∧ IntR w2.heap.size w' ad2 c2 (selV D x s) ∧ Below w2.heap.size w2 w') := hide (by
            have h := s_l11select D n b off cap w2 x.toNat s HD.out g2 (by omega) (Nat.lt_of_lt_of_le hbs HB2.out.size) (dcRow_up (dcRow_go HRW.out hbs HB2.out) HB2.out.size) HG.out hs HRT.out
            rw [← hx', ← HV.out] at h
            exact h)
          refine CT.out.mono ?_
          rintro e w3 ⟨ad3, c3', rfl, ho3, hb3⟩
          have HO3 := hide (intR_low ho3 HB2.out.size)
          have HB3 := hide (low_trans HB2.out hb3 HB2.out.size)
          clear ho3 hb3 hx' CT
          go_wp2
          go_ret
          exact ⟨ad3, c3', rfl, HO3.out, HB3.out⟩
      · have HV := hide (selV_no (D := D) (x := x) (s := s) (.inr (by unfold txOk; rw [he]; simp)))
        go_enter Tryz.func10, Tryz.ntmps10
        go_wp2_with fail
        refine CD.out.mono ?_
        rintro e w1 ⟨rfl, hb1⟩
        obtain ⟨c0, c1, c2, c3⟩ := dcCells_go HCC.out hbs hb1
        have HB := hide hb1
        clear hb1
        go_wp2_with (first | (go_at_call 30; refine (s_inT _ _ _ _ HIN.out).mono ?_; rintro e w9 ⟨rfl, rfl⟩))
        go_ret
        exact sel_none HV.out HB.out
    · have HV := hide (selV_no (D := D) (x := x) (s := s) (.inr (by unfold txOk; rw [HD.out, decide_eq_false hin]; simp)))
      have HIN := hide hin
      clear hin
      go_enter Tryz.func10, Tryz.ntmps10
      go_wp2_with (first | (go_at_call 13; refine CD.out.mono ?_; rintro e w1 ⟨rfl, hb1⟩; have HB := hide hb1; clear hb1) | (go_at_call 30; refine (s_inF _ _ _ _ HIN.out).mono ?_; rintro e w9 ⟨rfl, rfl⟩))
      go_ret
      exact sel_none HV.out HB.out
end Go.Proofs.YtpakkllcemcfdaaGreatDoor

/-
  The walk of FnSelected.
-/
namespace Go.Proofs.YtpakkllcemcfdaaGreatDoor
open Go.RowKit Go.Joins
set_option linter.unusedVariables false
set_option linter.unusedSimpArgs false
theorem ri_at {B : Nat} {w : World} {ad : Option Addr} {c : Nat} {L : List Int} (h : IntR B w ad c L) (j : Nat) (hj : j < L.length) : ∃ g, ad = some ⟨g, 0, none⟩ ∧ g < w.heap.size ∧ ∀ i, i < L.length → w.cell? ⟨g, i, none⟩ = some (.int .i64 (L[i]?.getD 0)) := by
  have h2 := h
  rcases h.2 with ⟨e, h0⟩ | ⟨g, cap, cur, e, -, hg, -⟩
  · omega
  · simp only [Value.slice.injEq] at e
    obtain ⟨rfl, -⟩ := e
    refine ⟨g, rfl, (Array.getElem?_eq_some_iff.1 hg).1, fun i hi => ?_⟩
    rw [h2.cellAt i (by omega), List.getElem?_map, List.getElem?_eq_getElem hi]
    rfl
theorem ri_row {B : Nat} {w : World} {ad : Option Addr} {c : Nat} {L : List Int} (h : IntR B w ad c L) : RowAt .i64 w ad L w.heap.size := fun hne => by
  have h0 : 0 < L.length := List.length_pos_iff.2 hne
  obtain ⟨g, rfl, hg, hc⟩ := ri_at h 0 h0
  exact ⟨g, 0, rfl, hg, fun j hj => by rw [Nat.zero_add]; exact hc j hj⟩
set_option maxRecDepth 100000 in
set_option maxHeartbeats 8000000 in
theorem fs_walk (a : Option Addr) (n cap : Nat) (zs : List Int) (w : World) (hl : zs.length = n) (hz : ∀ x ∈ zs, 0 ≤ x ∧ x ≤ 255) (hn : n ≤ 1048576) (hs : SrcAt w a zs w.heap.size) (hT : Tabs w) (hM : MaxL w) :
    Calls Tryz.prog 3 #[.slice a n cap] w fun e w' => e = .returned (.bool true) ∧ Below w.heap.size w w' := by
  have hn' : ¬ (1048576 : Int) < (n : Int) := by omega
  have HT := hide hT
  have HM := hide hM
  have CD := hide (d_select a n cap zs w hl hz hn hs)
  clear hs hl hz hT hM
  go_enter Tryz.func3, Tryz.ntmps3
  go_wp2_with (go_at_call 6; go_in)
  refine CD.out.mono ?_
  rintro e w1 ⟨ad, m, c, D, x, s, rfl, hD, ⟨hm1, hm2⟩, htot, hdc, hs8, hb1⟩
  have B1 := hide hb1
  have HT1 := hide (tabs_below HT.out hb1)
  have HM1 := hide (maxL_go HM.out hb1 (Nat.le_refl _))
  have HD := hide hD
  have HTO := hide htot
  have HDC := hide hdc
  clear hb1 hD htot hdc CD
  go_wp2_with fail
  refine (i_select D m ad c x s w1 HD.out HTO.out (by omega) HDC.out HT1.out HM1.out).mono ?_
  rintro e w2 ⟨ka, kc, rfl, hir, hb2⟩
  have B2 := hide hb2
  have HIR := hide hir
  clear hb2 hir
  have CS : Hid (∀ w9, Below w1.heap.size w1 w9 → Calls Tryz.prog 10 #[.slice ad m c, .int .i64 x, .string s] w9 (SelAns D x s w9)) := hide (fun w9 h9 => s_select D m ad c x s w9 HD.out HTO.out (by omega) (dcAt_up (dcAt_go HDC.out h9) h9.size))
  have HF := hide (fun j => se_facts (D := D) (x := x) (s := s) (j := j))
  have HNX := hide (fun i => se_next (D := D) (x := x) (s := s) (i := i))
  have HKL := hide (selV_len (D := D) (x := x) (s := s))
  unfold SelAns at CS
  obtain ⟨Q, hQ⟩ : ∃ Q, selV D x s = Q := ⟨_, rfl⟩
  rw [hQ] at HIR HF HNX HKL CS ⊢
  obtain ⟨K, hK⟩ : ∃ K, Q.length = K := ⟨_, rfl⟩
  rw [hK] at HKL HNX CS ⊢
  have HKK := hide hK
  have hK200 : K ≤ 200 := HKL.out
  clear hQ hK
  go_wp2_with fail
  refine (CS.out _ B2.out).mono ?_
  rintro e w3 ⟨sa, sc, rfl, hir3, hb3⟩
  have B3 := hide (B2.out.trans (hb3.mono B2.out.size))
  have HR3 := hide (ri_row hir3)
  have HRK := hide (ri_row (gOwn_after HIR.out hb3))
  have HIR3 : Hid (IntR w1.heap.size w3 ka kc Q) := hide (gOwn_after HIR.out hb3)
  clear hir3 hb3
  go_wp2_with fail
  refine (same_same ka sa K kc sc Q _ HKK.out (by omega) HRK.out HR3.out).mono ?_
  rintro e w4 ⟨rfl, q4, rfl⟩
  have B4 : Hid (Below w1.heap.size w1 (w3.drewN q4)) := hide (B3.out.trans ⟨rfl, rfl, rfl, Nat.le_refl _, fun _ _ => rfl⟩)
  have HI4 : Hid (IntR w1.heap.size (w3.drewN q4) ka kc Q) := HIR3
  obtain ⟨W, hW⟩ : ∃ W, w3.drewN q4 = W := ⟨_, rfl⟩
  rw [hW] at B4 HI4 ⊢
  clear hW HIR3 HRK HR3 CS
  go_wp2
  go_loopw [7] (fun iv wr => ∃ i : Nat, i ≤ K ∧ iv = .int .i64 i ∧ Hid (Below W.heap.size W wr)) (fun iv _ => K - (intOf iv).toNat)
  case atStart => exact ⟨0, Nat.zero_le _, rfl, hide (Below.refl _ _)⟩
  case round =>
    obtain ⟨i, hi, rfl, HB⟩ := hrel
    have HBB := hide (B4.out.trans (HB.out.mono B4.out.size))
    by_cases hlt : i < K
    · have hii : (i : Int) < (K : Int) := by omega
      obtain ⟨g, rfl, hg, hc⟩ := ri_at HI4.out i (by rw [HKK.out]; exact hlt)
      have HC := hide (fun t (ht : t < K) => (HB.out.cell (p := ⟨g, t, none⟩) hg).trans (hc t (by rw [HKK.out]; exact ht)))
      have hmem : Q[i]?.getD 0 ∈ Q := by rw [List.getElem?_eq_getElem (by rw [HKK.out]; exact hlt)]; exact List.getElem_mem _
      obtain ⟨ftx, fro, fj, frc, fnm, ⟨pre, fpre⟩, fone⟩ := HF.out _ hmem
      have q0 := HC.out i hlt
      obtain ⟨p, hp⟩ : ∃ p, Q[i]?.getD 0 = p := ⟨_, rfl⟩
      rw [hp] at fj frc fnm fpre fone q0
      have HP := hide hp
      clear hc hmem hp
      obtain ⟨hdk, -, -, hx0, hx1⟩ := tx_facts ftx
      have HDEC := hide (docok_dec hdk)
      rw [HD.out] at hx1
      obtain ⟨X, hXx⟩ : ∃ X : Nat, x = (X : Int) := ⟨x.toNat, by omega⟩
      subst hXx
      obtain ⟨P, hPp⟩ : ∃ P : Nat, p = (P : Int) := ⟨p.toNat, by omega⟩
      subst hPp
      rw [HD.out] at fj
      simp only [Int.toNat_natCast] at frc fnm fpre fone
      have hPm : P < m := by omega
      have hPi : (P : Int) < (m : Int) := fj.2
      obtain ⟨b, off, hab, hbw, hrow⟩ := HDC.out (by rw [HD.out]; omega)
      subst hab
      have HROW : Hid (∀ j, j < m → wr.cell? ⟨b, off + j * 4, none⟩ = some (.int .i64 (D.U j)) ∧ wr.cell? ⟨b, off + j * 4 + 1, none⟩ = some (.string (D.NM j))) := hide (fun j hj => by
        obtain ⟨-, -, ⟨c0, c1, -, -⟩, -, -⟩ := hrow j (by rw [HD.out]; exact hj)
        exact ⟨(HBB.out.cell (p := ⟨b, off + j * 4, none⟩) hbw).trans c0, (HBB.out.cell (p := ⟨b, off + j * 4 + 1, none⟩) hbw).trans c1⟩)
      obtain ⟨u0, u1⟩ := HROW.out P hPm
      obtain ⟨NM, hNM⟩ : ∃ NM, D.NM P = NM := ⟨_, rfl⟩
      rw [hNM] at u1 fnm fpre
      obtain ⟨hsz, hext⟩ := ext_suffix fpre
      have HRO := hide fro
      have HONE := hide fone
      have HRC := hide frc
      have hUm : D.U P < (m : Int) := by have := HDEC.out P (by rw [HD.out]; exact hPm); omega
      clear hrow hNM fpre ftx fro fone frc hdk
      obtain ⟨WR, rfl⟩ : ∃ WR, WR = wr := ⟨_, rfl⟩
      go_wp2
      go_loopw [8] (fun uv wr3 => ∃ u : Int, uv = .int .i64 u ∧ u < (m : Int) ∧ Hid (Rc D X u) ∧ WR = wr3) (fun uv _ => (intOf uv).toNat)
      case atStart => exact ⟨D.U P, rfl, hUm, HRC, rfl⟩
      case round =>
        obtain ⟨u, rfl, hum, HRU, rfl⟩ := hrel
        by_cases hgt : (X : Int) < u
        · obtain ⟨U1, hU1⟩ : ∃ U1 : Nat, u = (U1 : Int) := ⟨u.toNat, by omega⟩
          subst hU1
          have HR2 := hide (rc_more HRU.out hgt)
          rw [Int.toNat_natCast] at HR2
          obtain ⟨t0, -⟩ := HROW.out U1 (by omega)
          have hd1 := HDEC.out U1 (by rw [HD.out]; omega)
          have hU0 : (0 : Int) ≤ (U1 : Int) := by omega
          obtain ⟨u2, hu2⟩ : ∃ u2, D.U U1 = u2 := ⟨_, rfl⟩
          rw [hu2] at t0 hd1 HR2
          clear hu2
          go_wp2
          go_roundw
          case rel => exact ⟨u2, rfl, by omega, HR2, by first | rfl | trivial⟩
          case measure => simp [intOf]; omega
        · have hue := rc_end HRU.out hgt
          subst hue
          clear HRU hgt
          obtain ⟨d, hd⟩ : ∃ d, s.size - NM.size = d := ⟨_, rfl⟩
          rw [hd] at hext
          have hdw : IntKind.i64.wrap ((s.size : Int) - (NM.size : Int)) = (d : Int) := by rw [IntKind.wrap_i64]; omega
          have hds : d ≤ s.size := by omega
          have hdi : (d : Int) ≤ (s.size : Int) := by omega
          have hlsd : decide ((s.size : Int) < (NM.size : Int)) = false := decide_eq_false (by omega)
          have hnsz : NM.size ≤ s.size := hsz
          have hX0 : (0 : Int) ≤ (X : Int) := by omega
          clear hd
          have CN : Hid (∀ w9 : World, Calls Tryz.prog 11 #[.string s] w9 fun e w' => e = .returned (.bool (nameB s)) ∧ w' = w9) := hide (fun w9 => i_name s w9 (by unfold maxLen; omega))
          have HB2 : ∀ q, Hid (Below W.heap.size W (WR.drewN q)) := fun q => hide (HB.out.trans ⟨rfl, rfl, rfl, Nat.le_refl _, fun _ _ => rfl⟩)
          by_cases hi0 : i = 0
          · subst hi0
            cases hNb : nameB s
            · go_wp2
              go_quiet (fail)
              go_wp2_with (go_at_call 11; refine (CN.out _).mono ?_; rintro e w9 ⟨rfl, h9⟩; rw [h9, hNb]; clear h9 w9)
              go_roundw
              case rel => exact ⟨1, by omega, by go_num, HB2 _⟩
              case measure => simp [intOf]; omega
            · have hUX := HONE.out hNb
              rw [hUX] at u0
              clear hUX
              go_wp2
              go_quiet (fail)
              go_wp2_with (go_at_call 11; refine (CN.out _).mono ?_; rintro e w9 ⟨rfl, h9⟩; rw [h9, hNb]; clear h9 w9)
              go_roundw
              case rel => exact ⟨1, by omega, by go_num, HB2 _⟩
              case measure => simp [intOf]; omega
          · have q1 := HC.out (i - 1) (by omega)
            have hnx := HNX.out i (by omega) hlt
            rw [HP.out] at hnx
            obtain ⟨p1, hp1⟩ : ∃ p1, Q[i - 1]?.getD 0 = p1 := ⟨_, rfl⟩
            rw [hp1] at q1 hnx
            clear hp1
            have hwi : IntKind.i64.wrap ((i : Int) - 1) = ((i - 1 : Nat) : Int) := by rw [IntKind.wrap_i64]; omega
            have hi1 : ((i - 1 : Nat) : Int) < (K : Int) := by omega
            have hi2 : (0 : Int) ≤ ((i - 1 : Nat) : Int) := by omega
            have hig : decide ((0 : Int) < (i : Int)) = true := decide_eq_true (by omega)
            have hig2 : 0 < i := by omega
            have hge : decide ((P : Int) ≤ p1) = false := decide_eq_false (by omega)
            cases hNb : nameB s
            · go_wp2
              go_quiet (fail)
              go_wp2_with (go_at_call 11; refine (CN.out _).mono ?_; rintro e w9 ⟨rfl, h9⟩; rw [h9, hNb]; clear h9 w9)
              go_roundw
              case rel => exact ⟨i + 1, by omega, by go_num, HB2 _⟩
              case measure => simp [intOf]; omega
            · have hUX := HONE.out hNb
              rw [hUX] at u0
              clear hUX
              go_wp2
              go_quiet (fail)
              go_wp2_with (go_at_call 11; refine (CN.out _).mono ?_; rintro e w9 ⟨rfl, h9⟩; rw [h9, hNb]; clear h9 w9)
              go_roundw
              case rel => exact ⟨i + 1, by omega, by go_num, HB2 _⟩
              case measure => simp [intOf]; omega
    · have hie : i = K := by omega
      subst hie
      by_cases hK0 : i = 0
      · subst hK0
        go_wp2
        go_ret
        exact ⟨rfl, B1.out.trans (HBB.out.mono B1.out.size)⟩
      · have hmem : Q[0]?.getD 0 ∈ Q := by rw [List.getElem?_eq_getElem (by rw [HKK.out]; omega)]; exact List.getElem_mem _
        have hro := (HF.out _ hmem).2.1
        have hKb : ((i : Int) == 0) = false := by rw [beq_eq_false_iff_ne]; omega
        have CP : Hid (Calls Tryz.prog 12 #[.string s] wr fun e w' => e = .returned (.bool true) ∧ Below wr.heap.size wr w') := hide (by rw [← hro]; exact i_path s wr (by omega) (maxL_go HM1.out HBB.out (Nat.le_refl _)))
        clear hmem hro
        go_wp2_with (go_at_call 12; refine CP.out.mono ?_; rintro e w9 ⟨rfl, hb9⟩; have B9 := hide (HBB.out.trans (hb9.mono HBB.out.size)); clear hb9)
        go_ret
        exact ⟨rfl, B1.out.trans (B9.out.mono B1.out.size)⟩
end Go.Proofs.YtpakkllcemcfdaaGreatDoor
