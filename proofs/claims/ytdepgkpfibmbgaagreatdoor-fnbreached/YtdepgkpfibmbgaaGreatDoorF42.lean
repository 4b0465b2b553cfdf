/-
  Texts put together: BrC, BrJ, BrJ2.
-/
import Derived.Test.YtdepgkpfibmbgaaGreatDoorF41
import Derived.Test.YtdepgkpfibmbgaaGreatDoorF32
import Derived.Test.YtdepgkpfibmbgaaGreatDoorF24
import Derived.Deep.RegionWith
import Derived.Test.YtdepgkpfibmbgaaGreatDoorF40
import Derived.Test.YtdepgkpfibmbgaaGreatDoorF22
/-
  Contract of the specification: Breaches.
-/
namespace Go.Proofs.YtdepgkpfibmbgaaGreatDoor
open Go.RowKit Go.Joins
set_option linter.unusedVariables false
set_option linter.unusedSimpArgs false
theorem bc_tf {L : List Ky} {w w' : World} {e : Ending} (h : KysAns L w e w') : (KeysP L → e = .returned (.bool true)) ∧ (¬ KeysP L → e = .returned (.bool false)) ∧ Below w.heap.size w w' := by
  obtain ⟨hb, B, rfl, hB⟩ := h
  refine ⟨fun hk => by rw [hB.2 hk], fun hk => ?_, hb⟩
  cases B
  · rfl
  · exact absurd (hB.1 rfl) hk
set_option maxRecDepth 100000 in
set_option maxHeartbeats 8000000 in
theorem s_breaches (D : Dc) (n : Nat) (a : Option Addr) (cap : Nat) (K : List Ky) (kn : Nat) (ka : Option Addr) (kc : Nat) (w : World) (hD : D.n = n) (hz : dcTot D ≤ 1048576) (hL : K.length = kn) (hf : KyFew K) (hr : DcAt w a D w.heap.size) (hkr : KyAt w ka K w.heap.size) :
    Calls Tryz.prog 15 #[.slice a n cap, .slice ka kn kc] w fun e w' => ∃ ad c, e = .returned (.slice ad (brV D K).length c) ∧ IntR w.heap.size w' ad c (brV D K) ∧ Below w.heap.size w w' := by
  obtain ⟨i0, hi, hz0, hz1, hz2⟩ := info_parts info64
  have CD := hide (fun (w2 : World) (hb : Below w.heap.size w w2) => s_docok D n a cap w2 hD hz (dcAt_up (dcAt_go hr hb) hb.size))
  have CK := hide (fun (w2 : World) (hb : Below w.heap.size w w2) => (s_keys K kn ka kc w2 hL hf (kyAt_up (kyAt_go hkr hb) hb.size)).mono (fun e w' h => bc_tf h))
  have HR := hide hr
  have HKR := hide hkr
  have HD := hide hD
  have HL := hide hL
  have HF := hide hf
  have hn1 : n ≤ 1048576 := by rw [← hD]; exact (dc_sz hz).1
  have HOUT : Hid (IntR w.heap.size (w.alloc (.cells #[] 2)) (some ⟨w.heap.size, 0, none⟩) 0 []) := hide ⟨rfl, .inr ⟨w.heap.size, 0, #[], rfl, Nat.le_refl _, heap_alloc_new w _, Nat.le_refl _, by unfold maxLen; omega, rfl, rfl⟩⟩
  have HB1 : Hid (Below w.heap.size w (w.alloc (.cells #[] 2))) := hide ((Below.refl _ _).alloc (Nat.le_refl _) _)
  clear hr hD hL hkr hf hz
  by_cases hok : docokB D = true ∧ KeysP K
  · obtain ⟨hd, hK⟩ := hok
    have HV := hide (brV_yes hd hK)
    have hkn : kn ≤ 10 := by rw [← HL.out]; exact hK.1
    have hdn := (docok_facts hd).1
    obtain ⟨b, off, rfl, hbs, hrow⟩ := HR.out (by omega)
    rw [hd] at CD
    have CK2 := hide (fun w2 hb => (CK.out w2 hb).mono (fun e w' h => (⟨h.1 hK, h.2.2⟩ : _ ∧ _)))
    have HRW := hide hrow
    have HBRK : Hid (∀ (kb koff i x : Nat) (w9 : World), ka = some ⟨kb, koff, none⟩ → KyRw w kb koff K → i < kn → x < n → Below w.heap.size w w9 → Calls Tryz.prog 37 #[.slice (some ⟨b, off, none⟩) n cap, .int .i64 x, .slice (some ⟨kb, koff, none⟩) kn kc, .int .i64 i] w9 (BolAns (brk D K x i) w9)) := hide (fun kb koff i x w9 he hrw hi hx h9 => s_broken D n b off cap K kn kb koff kc i x w9 HD.out hd hx hK HL.out hi HF.out (kyRw_go hrw h9) (Nat.lt_of_lt_of_le hbs h9.size) (dcRow_up (dcRow_go hrow hbs h9) h9.size))
    clear hdn hrow hd hK CK
    go_enter Tryz.func15, Tryz.ntmps15
    go_wp2_with (first
      | (go_at_call 17; refine (CD.out _ HB1.out).mono ?_; rintro e w2 ⟨rfl, hb2⟩; have HB2 := hide (HB1.out.trans (hb2.mono HB1.out.size)); have HO2 := hide (show IntR w.heap.size w2 _ _ _ from gOwn_after HOUT.out hb2); clear hb2)
      | (go_at_call 16; refine (CK2.out _ HB2.out).mono ?_; rintro e w3 ⟨rfl, hb3⟩; have HB3 := hide (HB2.out.trans (hb3.mono HB2.out.size)); have HO3 := hide (show IntR w.heap.size w3 _ _ _ from gOwn_after HO2.out hb3); clear hb3))
    have hs3 : w.heap.size ≤ w3.heap.size := HB3.out.size
    go_loopw [5, 6] (fun pv iv wr => ∃ (i L c8 : Nat) (a8 : Option Addr), i ≤ kn ∧ iv = .int .i64 i ∧ pv = .slice a8 L c8 ∧ L ≤ i ∧ Hid ((brL D K i).length = L) ∧ Hid (IntR w.heap.size wr a8 c8 (brL D K i)) ∧ Hid (Below w.heap.size w wr)) (fun _ iv _ => kn - (intOf iv).toNat)
    case atStart => exact ⟨0, 0, 0, some ⟨w.heap.size, 0, none⟩, Nat.zero_le _, rfl, rfl, Nat.le_refl _, hide rfl, HO3, HB3⟩
    case round =>
      obtain ⟨i, L, c8, a8, hik, rfl, rfl, hLi, HLL, HO, HB⟩ := hrel
      obtain ⟨WR, rfl⟩ : ∃ WR, WR = wr := ⟨_, rfl⟩
      by_cases hlt : i < kn
      · have hci : (i : Int) < (kn : Int) := by omega
        have hiK : i < K.length := by rw [HL.out]; exact hlt
        obtain ⟨kb, koff, hke, hkb, hkrow⟩ := HKR.out (fun e => by rw [e] at hiK; exact absurd hiK (Nat.not_lt_zero _))
        have HKW : Hid (KyRw w kb koff K) := hide ⟨hkb, hkrow⟩
        have HBK := hide (fun x w9 hx h9 => HBRK.out kb koff i x w9 hke HKW.out hlt hx h9)
        obtain ⟨kad, kcp, hkc, -, -⟩ := hkrow i hiK
        obtain ⟨on, hon⟩ : ∃ on, (kyA K i).on = on := ⟨_, rfl⟩
        have Q2 : Hid (∀ w9, Below w.heap.size w w9 → w9.cell? ⟨kb, koff + i * 6 + 2, none⟩ = some (.string on)) := hide (fun w9 h9 => (h9.cell (p := ⟨kb, koff + i * 6 + 2, none⟩) hkb).trans (by rw [← hon]; exact hkc.2.2.1))
        have HON := hide hon
        subst hke
        clear hkrow hkc hon
        go_wp2
        go_loopw [7, 8] (fun bv xv wj => ∃ (x : Nat) (B : Bool), x ≤ n ∧ xv = .int .i64 x ∧ bv = .bool B ∧ Hid (B = true ↔ ∃ y, y < x ∧ D.NM y = on ∧ brk D K y i) ∧ Hid (IntR w.heap.size wj a8 c8 (brL D K i)) ∧ Hid (Below w.heap.size w wj)) (fun _ xv _ => n - (intOf xv).toNat)
        case atStart => exact ⟨0, false, Nat.zero_le _, rfl, rfl, hide ⟨fun h => (by cases h), fun ⟨y, h, _⟩ => absurd h (Nat.not_lt_zero _)⟩, HO, HB⟩
        case round =>
          obtain ⟨x, B, hxn, rfl, rfl, HA, HOj, HBj⟩ := hrel
          obtain ⟨WJ, rfl⟩ : ∃ WJ, WJ = wr := ⟨_, rfl⟩
          by_cases hltx : x < n
          · have hxi : (x : Int) < (n : Int) := by omega
            obtain ⟨ad, cp, hc, -, -⟩ := HRW.out x (by rw [HD.out]; exact hltx)
            obtain ⟨c0, c1, c2, c3⟩ := dcCells_go hc hbs HBj.out
            have k2 := Q2.out WJ HBj.out
            obtain ⟨NM, hNM⟩ : ∃ NM, D.NM x = NM := ⟨_, rfl⟩
            rw [hNM] at c1
            have HNM := hide hNM
            clear hc hNM c0 c2 c3
            cases he : (NM.toList == on.toList)
            · have HA2 : Hid (B = true ↔ ∃ y, y < x + 1 ∧ D.NM y = on ∧ brk D K y i) := hide (by
                rw [HA.out]
                constructor
                · rintro ⟨y, h1, h2, h3⟩; exact ⟨y, by omega, h2, h3⟩
                · rintro ⟨y, h1, h2, h3⟩
                  by_cases e : y = x
                  · subst e; rw [HNM.out] at h2; exact absurd h2 (ba_ne he)
                  · exact ⟨y, by omega, h2, h3⟩)
              go_wp2
              go_quiet (fail)
              go_wp2
              go_roundw
              case rel => exact ⟨x + 1, B, by omega, by go_num, rfl, HA2, hide (show IntR _ _ _ _ _ from HOj.out), hide (ba_drewN HBj.out _)⟩
              case measure => simp [intOf]; omega
            · have HNO := hide (HNM.out.trans ((ba_eq _ _).1 he))
              have CB2 := hide (fun w3 h3 => HBK.out x w3 hltx h3)
              go_upto_region 11 with fail
              go_cut [48] (fun vv wx => ∃ V : Bool, vv = .bool V ∧ Hid (V = true ↔ brk D K x i) ∧ Hid (Below WJ.heap.size WJ wx))
              case first =>
                go_region_with (go_at_call 37; refine (CB2.out _ (ba_drew HBj.out)).mono ?_; rintro e w5 ⟨⟨V, rfl, hV⟩, hb5⟩; have HV := hide hV; have HB5 : Hid (Below WJ.heap.size WJ w5) := hide ⟨hb5.os, hb5.tape, hb5.output, hb5.size, hb5.block⟩; clear hV hb5)
                all_goals
                  go_wp2
                  go_meet
                  exact ⟨V, rfl, HV, HB5⟩
              case rest =>
                obtain ⟨V, rfl, HVV, HB5⟩ := hcut
                have HOc := hide (show IntR w.heap.size wc _ _ _ from gOwn_after HOj.out HB5.out)
                have HBc := hide (HBj.out.trans (HB5.out.mono HBj.out.size))
                cases V
                · have HA2 : Hid (B = true ↔ ∃ y, y < x + 1 ∧ D.NM y = on ∧ brk D K y i) := hide (by
                    rw [HA.out]
                    constructor
                    · rintro ⟨y, h1, h2, h3⟩; exact ⟨y, by omega, h2, h3⟩
                    · rintro ⟨y, h1, h2, h3⟩
                      by_cases e : y = x
                      · subst e; have h9 := HVV.out.2 h3; cases h9
                      · exact ⟨y, by omega, h2, h3⟩)
                  go_wp2
                  go_roundw
                  case rel => exact ⟨x + 1, B, by omega, by go_num, rfl, HA2, HOc, HBc⟩
                  case measure => simp [intOf]; omega
                · have HA2 : Hid (true = true ↔ ∃ y, y < x + 1 ∧ D.NM y = on ∧ brk D K y i) := hide ⟨fun _ => ⟨x, by omega, HNO.out, HVV.out.1 rfl⟩, fun _ => rfl⟩
                  go_wp2
                  go_roundw
                  case rel => exact ⟨x + 1, true, by omega, by go_num, rfl, HA2, HOc, HBc⟩
                  case measure => simp [intOf]; omega
          · have hxe : x = n := by omega
            subst hxe
            have HBAD : Hid (B = true ↔ badK D K i) := hide (by
              rw [HA.out]
              unfold badK
              rw [HD.out, HON.out])
            have hownj : WJ.ownsRow w.heap.size 2 1 (.slice a8 L c8) L ((brL D K i).map (Value.int .i64)) := by
              have h9 := HOj.out
              unfold IntR at h9
              rw [HLL.out] at h9
              exact h9
            have HO4 := hide hownj
            have hsj : w.heap.size ≤ WJ.heap.size := HBj.out.size
            clear hownj hltx
            cases B
            · have HL1 := hide (br_no (D := D) (L := K) (i := i) (fun h => by have h9 := HBAD.out.2 h; cases h9))
              go_wp2
              go_roundw
              case rel => exact ⟨i + 1, L, c8, a8, by omega, by go_num, rfl, by omega, hide (by rw [HL1.out]; exact HLL.out), hide (by rw [HL1.out]; exact HOj.out), HBj⟩
              case measure => simp [intOf]; omega
            · have HL1 := hide (br_yes (D := D) (L := K) (i := i) (HBAD.out.1 rfl))
              go_wp2_with (at_builtin; refine wpList_append_own _ rfl (.tmp 50) (.tmp 52) 33 rfl w.heap.size 2 i0 (.int .i64 0) 1 8 Tryz.underlying33 hi hz0 hz1 hz2 rfl (by decide) _ _ _ rfl (HO4.out.alloc _) ⟨WJ.heap.size, 0, none⟩ 1 1 [.int .i64 (i : Int)] rfl rfl (fun j u hj => gOne_new WJ _ _ j u hj) (gOne_list _ _) (by unfold maxLen; omega) (by omega) (by simp; omega) ?_; intro v2 w7 hown2 hgrow2 _; obtain ⟨ad2, c2', hv2⟩ := gOwn_shape hown2; rw [hv2] at hown2 ⊢; clear hv2; have HB7 := hide (gBelow_one HBj.out HO4.out hgrow2); have HO7 := hide hown2; clear hown2 hgrow2)
              go_roundw
              case rel =>
                refine ⟨i + 1, L + 1, c2', ad2, by omega, by go_num, rfl, by omega, hide (by rw [HL1.out, List.length_append, HLL.out]; rfl), hide ?_, HB7⟩
                rw [HL1.out]
                unfold IntR
                rw [List.length_append, HLL.out, List.map_append]
                exact HO7.out
              case measure => simp [intOf]; omega
      · have hie : i = kn := by omega
        subst hie
        go_wp2
        go_ret
        rw [HV.out, HL.out]
        rw [HLL.out]
        exact ⟨a8, c8, rfl, HO.out, HB.out⟩
  · have HV := hide (brV_no hok)
    cases hd : docokB D
    · rw [hd] at CD
      go_enter Tryz.func15, Tryz.ntmps15
      go_wp2_with (go_at_call 17; refine (CD.out _ HB1.out).mono ?_; rintro e w2 ⟨rfl, hb2⟩; have HB2 := hide (HB1.out.trans (hb2.mono HB1.out.size)); have HO2 := hide (show IntR w.heap.size w2 _ _ _ from gOwn_after HOUT.out hb2); clear hb2)
      go_ret
      rw [HV.out]
      exact ⟨_, _, rfl, HO2.out, HB2.out⟩
    · rw [hd] at CD
      have CK2 := hide (fun w2 hb => (CK.out w2 hb).mono (fun e w' h => (⟨h.2.1 (fun hK => hok ⟨hd, hK⟩), h.2.2⟩ : _ ∧ _)))
      clear hok CK
      go_enter Tryz.func15, Tryz.ntmps15
      go_wp2_with (first
        | (go_at_call 17; refine (CD.out _ HB1.out).mono ?_; rintro e w2 ⟨rfl, hb2⟩; have HB2 := hide (HB1.out.trans (hb2.mono HB1.out.size)); have HO2 := hide (show IntR w.heap.size w2 _ _ _ from gOwn_after HOUT.out hb2); clear hb2)
        | (go_at_call 16; refine (CK2.out _ HB2.out).mono ?_; rintro e w3 ⟨rfl, hb3⟩; have HB3 := hide (HB2.out.trans (hb3.mono HB2.out.size)); have HO3 := hide (show IntR w.heap.size w3 _ _ _ from gOwn_after HO2.out hb3); clear hb3))
      go_ret
      rw [HV.out]
      exact ⟨_, _, rfl, HO3.out, HB3.out⟩
end Go.Proofs.YtdepgkpfibmbgaaGreatDoor

/-
  Contract of the program: which keys are broken.
-/
namespace Go.Proofs.YtdepgkpfibmbgaaGreatDoor
open Go.RowKit Go.Joins Go.Maps
set_option linter.unusedVariables false
set_option linter.unusedSimpArgs false
theorem br_drewN {b : Nat} {w w1 : World} (h : Below b w w1) (q : Nat) : Below b w (w1.drewN q) := h.trans ⟨rfl, rfl, rfl, Nat.le_refl _, fun _ _ => rfl⟩
theorem br_drew {b : Nat} {w w1 : World} (h : Below b w w1) : Below b w w1.drew := h.trans ⟨rfl, rfl, rfl, Nat.le_refl _, fun _ _ => rfl⟩
set_option maxRecDepth 100000 in
set_option maxHeartbeats 8000000 in
theorem i_holds (D : Dc) (n b off cap : Nat) (L : List Ky) (np : Nat) (B : Nat) (pa : Option Addr) (pc : Nat) (Ps : List Pl) (i : Nat) (w : World) (hD : D.n = n) (hdk : docokB D = true) (hK : KeysP L) (hL : L.length = np) (hi : i < np) (hPO : PlO B w pa np pc Ps) (hPK : PlK L Ps np) (hPW : PlsW B w Ps) (hRf : PlRf Ps np) (hbs : b < w.heap.size) (hr : DcRow w b off D w.heap.size) :
    Calls Tryz.prog 36 #[.slice (some ⟨b, off, none⟩) n cap, .slice pa np pc, .int .i64 i] w fun e w' => (∃ V : Bool, e = .returned (.bool V) ∧ (V = true ↔ ¬ badK D L i)) ∧ Below w.heap.size w w' := by
  have hn : n ≤ 200 := by rw [← hD]; exact (docok_facts hdk).1.2
  have hnp : np ≤ 10 := by rw [← hL]; exact hK.1
  have hii : (i : Int) < (np : Int) := by omega
  obtain ⟨g, hga, hPC⟩ := plC_row hPO i hi
  have q2 := hPC.2 2 (by decide)
  have hki := hPK i hi
  obtain ⟨on, hon⟩ : ∃ on, (kyA L i).on = on := ⟨_, rfl⟩
  have Q2 : Hid (∀ w3, Below w.heap.size w w3 → w3.cell? ⟨g, i * 10 + 2, none⟩ = some (.string on)) := hide (fun w3 h3 => (h3.cell (p := ⟨g, i * 10 + 2, none⟩) hPC.1).trans (q2.trans (by unfold plV; simp; rw [hki]; exact hon)))
  have CH : Hid (∀ (x : Nat) (w3 : World), x < n → Below w.heap.size w w3 → Calls Tryz.prog 70 #[.slice (some ⟨b, off, none⟩) n cap, .slice pa np pc, .int .i64 i, .int .i64 x] w3 fun e w' => (∃ V : Bool, e = .returned (.bool V) ∧ (V = true ↔ ¬ brk D L x i)) ∧ Below w3.heap.size w3 w') := hide (fun x w3 hx h3 => i_holdsAt D n b off cap L np B pa pc Ps i x w3 hD hdk hx hK hL hi ⟨hPO.1, gOwn_after hPO.2 h3⟩ hPK (pls_go hPW h3) hRf (Nat.lt_of_lt_of_le hbs h3.size) (dcRow_up (dcRow_go hr hbs h3) h3.size))
  have HR := hide hr
  have HD := hide hD
  have HON := hide hon
  subst hga
  clear hPO hPK hPW hRf hr hD hdk hK hL hki hPC q2 hon
  go_enter Tryz.func36, Tryz.ntmps36
  go_wp2
  go_loopw [11] (fun iv wr => ∃ x : Nat, x ≤ n ∧ iv = .int .i64 x ∧ Hid (∀ y, y < x → D.NM y = on → ¬ brk D L y i) ∧ Hid (Below w.heap.size w wr)) (fun iv _ => n - (intOf iv).toNat)
  case atStart => exact ⟨0, Nat.zero_le _, rfl, hide (fun y h => by omega), hide (Below.refl _ _)⟩
  case round =>
    obtain ⟨x, hxn, rfl, HA, HB⟩ := hrel
    obtain ⟨WR, rfl⟩ : ∃ WR, WR = wr := ⟨_, rfl⟩
    by_cases hlt : x < n
    · have hxi : (x : Int) < (n : Int) := by omega
      obtain ⟨ad, cp, hc, -, -⟩ := HR.out x (by rw [HD.out]; exact hlt)
      obtain ⟨c0, c1, c2, c3⟩ := dcCells_go hc hbs HB.out
      obtain ⟨U, hU⟩ : ∃ U, D.U x = U := ⟨_, rfl⟩
      obtain ⟨NM, hNM⟩ : ∃ NM, D.NM x = NM := ⟨_, rfl⟩
      obtain ⟨TX, hTX⟩ : ∃ TX, D.TX x = TX := ⟨_, rfl⟩
      obtain ⟨AC, hAC⟩ : ∃ AC, D.AC x = AC := ⟨_, rfl⟩
      rw [hU] at c0
      rw [hNM] at c1
      rw [hTX] at c2
      rw [hAC] at c3
      have HNM := hide hNM
      have HW1 : Hid (∀ o, Below w.heap.size w (WR.alloc o)) := hide (fun o => HB.out.alloc HB.out.size o)
      have k2 := fun o => Q2.out (WR.alloc o) (HW1.out o)
      have hgW : g < WR.heap.size ∨ True := .inr trivial
      clear hc hU hNM hTX hAC hgW
      cases he : (NM.toList == on.toList)
      · have HA2 : Hid (∀ y, y < x + 1 → D.NM y = on → ¬ brk D L y i) := hide (fun y hy hn => by
          by_cases e : y = x
          · subst e; rw [HNM.out] at hn; exact absurd hn (ba_ne he)
          · exact HA.out y (by omega) hn)
        go_wp2
        go_quiet (fail)
        go_wp2
        go_roundw
        case rel => exact ⟨x + 1, by omega, by go_num, HA2, hide (br_drewN (HW1.out _) _)⟩
        case measure => simp [intOf]; omega
      · have HNO := hide (HNM.out.trans ((ba_eq _ _).1 he))
        have CH2 := hide (fun w3 h3 => CH.out x w3 hlt h3)
        go_upto_region 4 with fail
        go_cut [32] (fun vv wx => ∃ V : Bool, vv = .bool (!V) ∧ Hid (V = true ↔ ¬ brk D L x i) ∧ Hid (Below w.heap.size w wx))
        case first =>
          go_region_with (go_at_call 70; refine (CH2.out _ (br_drew (HW1.out _))).mono ?_; rintro e w5 ⟨⟨V, rfl, hV⟩, hb5⟩; have HV := hide hV; have HB5 : Hid (Below w.heap.size w w5) := hide ((br_drew (HW1.out _)).trans (hb5.mono (br_drew (HW1.out _)).size)); clear hV hb5)
          all_goals
            go_wp2
            go_meet
            exact ⟨V, rfl, HV, HB5⟩
        case rest =>
          obtain ⟨V, rfl, HV, HB5⟩ := hcut
          cases V
          · have HBR : Hid (badK D L i) := hide ⟨x, by rw [HD.out]; exact hlt, by rw [HON.out]; exact HNO.out, Classical.byContradiction (fun h => by have h9 := HV.out.2 h; cases h9)⟩
            go_wp2
            go_ret
            exact ⟨⟨false, rfl, ⟨fun h => (by cases h), fun h => absurd HBR.out h⟩⟩, HB5.out⟩
          · have HA2 : Hid (∀ y, y < x + 1 → D.NM y = on → ¬ brk D L y i) := hide (fun y hy hn => by
              by_cases e : y = x
              · subst e; exact HV.out.1 rfl
              · exact HA.out y (by omega) hn)
            go_wp2
            go_roundw
            case rel => exact ⟨x + 1, by omega, by go_num, HA2, HB5⟩
            case measure => simp [intOf]; omega
    · have hxe : x = n := by omega
      subst hxe
      go_wp2
      go_ret
      exact ⟨⟨true, rfl, ⟨fun _ => fun ⟨y, h1, h2, h3⟩ => HA.out y (by rw [← HD.out]; exact h1) (by rw [h2, HON.out]) h3, fun _ => rfl⟩⟩, HB.out⟩
end Go.Proofs.YtdepgkpfibmbgaaGreatDoor

/-
  Contract of the program: Breaches.
-/
namespace Go.Proofs.YtdepgkpfibmbgaaGreatDoor
open Go.RowKit Go.Joins Go.Maps
set_option linter.unusedVariables false
set_option linter.unusedSimpArgs false
set_option maxRecDepth 100000 in
set_option maxHeartbeats 8000000 in
theorem i_breaches (D : Dc) (n : Nat) (a : Option Addr) (cap : Nat) (K : List Ky) (kn : Nat) (ka : Option Addr) (kc : Nat) (w : World) (hD : D.n = n) (hz : dcTot D ≤ 1048576) (hL : K.length = kn) (hf : KyFewI K) (hr : DcAt w a D w.heap.size) (hkr : KyAt w ka K w.heap.size) (hT : Tabs w) (hM : MaxL w) :
    Calls Tryz.prog 13 #[.slice a n cap, .slice ka kn kc] w fun e w' => ∃ ad c, e = .returned (.slice ad (brV D K).length c) ∧ IntR w.heap.size w' ad c (brV D K) ∧ Below w.heap.size w w' := by
  obtain ⟨i0, hi, hz0, hz1, hz2⟩ := info_parts info64
  have CP := hide (i_plans2 K kn ka kc w hL hf hkr hM)
  have CD := hide (fun (w2 : World) (hb : Below w.heap.size w w2) => i_docok D n a cap w2 hD hz (dcAt_up (dcAt_go hr hb) hb.size) (tabs_below hT hb))
  have HR := hide hr
  have HD := hide hD
  have HL := hide hL
  clear hr hD hL hkr hT hM hf hz
  go_enter Tryz.func13, Tryz.ntmps13
  go_wp2_with fail
  refine CP.out.mono ?_
  rintro e w2 ⟨hb2, hans⟩
  have HB2 := hide hb2
  have hs2 : w.heap.size ≤ w2.heap.size := hb2.size
  clear hb2 CP
  rcases hans with ⟨hK, pa, pc, Ps, rfl, hPO, hPK, hPW, hPR⟩ | ⟨hK, rfl⟩
  · have hkn : kn ≤ 10 := by rw [← HL.out]; exact hK.1
    have HK := hide hK
    have HPO := hide hPO
    have HPK := hide hPK
    have HPW := hide hPW
    have HPR := hide hPR
    clear hK hPO hPK hPW hPR
    cases hd : docokB D
    · have HV := hide (brV_no (D := D) (L := K) (fun h => by rw [hd] at h; exact absurd h.1 (by decide)))
      rw [hd] at CD
      go_wp2_with (go_at_call 35; refine (CD.out _ HB2.out).mono ?_; rintro e w3 ⟨rfl, hb3⟩; have HB3 := hide (HB2.out.trans (hb3.mono HB2.out.size)); clear hb3)
      go_ret
      rw [HV.out]
      exact ⟨none, 0, rfl, intR_nil _ _, HB3.out⟩
    · rw [hd] at CD
      have hdn := (docok_facts hd).1
      obtain ⟨b, off, rfl, hbs, hrow⟩ := HR.out (by omega)
      have HV := hide (brV_yes hd HK.out)
      have HH : Hid (∀ (i : Nat) (w9 : World), i < kn → Below w.heap.size w w9 → Below w2.heap.size w2 w9 → Calls Tryz.prog 36 #[.slice (some ⟨b, off, none⟩) n cap, .slice pa kn pc, .int .i64 i] w9 fun e w' => (∃ V : Bool, e = .returned (.bool V) ∧ (V = true ↔ ¬ badK D K i)) ∧ Below w9.heap.size w9 w') := hide (fun i w9 hi h1 h2 => i_holds D n b off cap K kn w.heap.size pa pc Ps i w9 HD.out hd HK.out HL.out hi ⟨HPO.out.1, gOwn_after HPO.out.2 h2⟩ HPK.out (pls_go HPW.out h2) HPR.out (Nat.lt_of_lt_of_le hbs h1.size) (dcRow_up (dcRow_go hrow hbs h1) h1.size))
      clear hdn hrow hd
      go_wp2_with (go_at_call 35; refine (CD.out _ HB2.out).mono ?_; rintro e w3 ⟨rfl, hb3⟩; have HB3 := hide (HB2.out.trans (hb3.mono HB2.out.size)); have HC3 := hide hb3; clear hb3)
      go_loopw [7, 23] (fun pv iv wr => ∃ (i L c8 : Nat) (a8 : Option Addr), i ≤ kn ∧ iv = .int .i64 i ∧ pv = .slice a8 L c8 ∧ L ≤ i ∧ Hid ((brL D K i).length = L) ∧ Hid (IntR w2.heap.size wr a8 c8 (brL D K i)) ∧ Hid (Below w2.heap.size w2 wr)) (fun _ iv _ => kn - (intOf iv).toNat)
      case atStart => exact ⟨0, 0, 0, none, Nat.zero_le _, rfl, rfl, Nat.le_refl _, hide rfl, hide (intR_nil _ _), HC3⟩
      case round =>
        obtain ⟨i, L, c8, a8, hik, rfl, rfl, hLi, HLL, HO, HC⟩ := hrel
        obtain ⟨WR, rfl⟩ : ∃ WR, WR = wr := ⟨_, rfl⟩
        have HB := hide (HB2.out.trans (HC.out.mono hs2))
        by_cases hlt : i < kn
        · have hci : (i : Int) < (kn : Int) := by omega
          have CH := hide (HH.out i WR hlt HB.out HC.out)
          go_wp2_with fail
          refine CH.out.mono ?_
          rintro e w4 ⟨⟨V, rfl, hV⟩, hb4⟩
          have HB4 := hide (HB.out.trans (hb4.mono HB.out.size))
          have HC4 := hide (HC.out.trans (hb4.mono HC.out.size))
          have hs4 : w2.heap.size ≤ w4.heap.size := HC4.out.size
          have hown4 : w4.ownsRow w2.heap.size 2 1 (.slice a8 L c8) L ((brL D K i).map (Value.int .i64)) := by
            have h9 := gOwn_after HO.out hb4
            rw [HLL.out] at h9
            exact h9
          have HO4 := hide hown4
          clear hb4 hown4
          cases V
          · have HL1 := hide (br_yes (D := D) (L := K) (i := i) (Classical.byContradiction (fun h => by have h9 := hV.2 h; cases h9)))
            clear hV
            go_wp2_with (at_builtin; refine wpList_append_own _ rfl (.tmp 31) (.tmp 33) 33 rfl w2.heap.size 2 i0 (.int .i64 0) 1 8 Tryz.underlying33 hi hz0 hz1 hz2 rfl (by decide) _ _ _ rfl (HO4.out.alloc _) ⟨w4.heap.size, 0, none⟩ 1 1 [.int .i64 (i : Int)] rfl rfl (fun j u hj => gOne_new w4 _ _ j u hj) (gOne_list _ _) (by unfold maxLen; omega) (by omega) (by simp; omega) ?_; intro v2 w7 hown2 hgrow2 _; obtain ⟨ad2, c2', hv2⟩ := gOwn_shape hown2; rw [hv2] at hown2 ⊢; clear hv2; have HC7 := hide (gBelow_one HC4.out HO4.out hgrow2); have HO7 := hide hown2; clear hown2 hgrow2)
            go_roundw
            case rel =>
              refine ⟨i + 1, L + 1, c2', ad2, by omega, by go_num, rfl, by omega, hide (by rw [HL1.out, List.length_append, HLL.out]; rfl), hide ?_, HC7⟩
              rw [HL1.out]
              unfold IntR
              rw [List.length_append, HLL.out, List.map_append]
              exact HO7.out
            case measure => simp [intOf]; omega
          · have HL1 := hide (br_no (D := D) (L := K) (i := i) (hV.1 rfl))
            clear hV
            go_wp2
            go_roundw
            case rel => exact ⟨i + 1, L, c8, a8, by omega, by go_num, rfl, by omega, hide (by rw [HL1.out]; exact HLL.out), hide (by rw [HL1.out]; unfold IntR; rw [HLL.out]; exact HO4.out), HC4⟩
            case measure => simp [intOf]; omega
        · have hie : i = kn := by omega
          subst hie
          go_wp2
          go_ret
          rw [HV.out, HL.out]
          rw [HLL.out]
          exact ⟨a8, c8, rfl, gOwn_lower HO.out hs2, HB.out⟩
  · have HV := hide (brV_no (D := D) (L := K) (fun h => hK h.2))
    clear hK
    go_wp2
    go_ret
    rw [HV.out]
    exact ⟨none, 0, rfl, intR_nil _ _, HB2.out⟩
end Go.Proofs.YtdepgkpfibmbgaaGreatDoor
