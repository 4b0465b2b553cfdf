/-
  Texts put together: BrC, KyTo, ChgMath.
-/
import Derived.Test.YtfbahffljhnjbaaGreatDoorD42
import Derived.Test.YtfbahffljhnjbaaGreatDoorD31
import Derived.Test.YtfbahffljhnjbaaGreatDoorD21
import Derived.Deep.RegionWith
import Derived.Test.YtfbahffljhnjbaaGreatDoorD5
import Derived.Test.YtfbahffljhnjbaaGreatDoorD2
/-
  Contract of the specification: Breaches.
-/
namespace Go.Proofs.YtfbahffljhnjbaaGreatDoor
open Go.RowKit Go.Joins
set_option linter.unusedVariables false
set_option linter.unusedSimpArgs false
theorem bc_tf {L : List Ky} {w w' : World} {e : Ending} (h : KysAns L w e w') : (KeysP L → e = .returned (.bool true)) ∧ (¬ KeysP L → e = .returned (.bool false)) ∧ Below w.heap.size w w' := by
  obtain ⟨hb, B, rfl, hB⟩ := h
  refine ⟨fun hk => by rw [hB.2 hk], fun hk => ?_, hb⟩
  cases B
  · rfl
  · exact absurd (hB.1 rfl) hk
set_option maxRecDepth 100000 in
set_option maxHeartbeats 8000000 in
theorem s_breaches (D : Dc) (n : Nat) (a : Option Addr) (cap : Nat) (K : List Ky) (kn : Nat) (ka : Option Addr) (kc : Nat) (w : World) (hD : D.n = n) (hz : dcTot D ≤ 1048576) (hL : K.length = kn) (hf : KyFew K) (hr : DcAt w a D w.heap.size) (hkr : KyAt w ka K w.heap.size) :
    Calls Tryz.prog 22 #[.slice a n cap, .slice ka kn kc] w fun e w' => ∃ ad c, e = .returned (.slice ad (brV D K).length c) ∧ IntR w.heap.size w' ad c (brV D K) ∧ Below w.heap.size w w' := by
  obtain ⟨i0, hi, hz0, hz1, hz2⟩ := info_parts info64
  have CD := hide (fun (w2 : World) (hb : Below w.heap.size w w2) => s_docok D n a cap w2 hD hz (dcAt_up (dcAt_go hr hb) hb.size))
  have CK := hide (fun (w2 : World) (hb : Below w.heap.size w w2) => (s_keys K kn ka kc w2 hL hf (kyAt_up (kyAt_go hkr hb) hb.size)).mono (fun e w' h => bc_tf h))
  have HR := hide hr
  have HKR := hide hkr
  have HD := hide hD
  have HL := hide hL
  have HF := hide hf
  have hn1 : n ≤ 1048576 := by rw [← hD]; exact (dc_sz hz).1
  have HOUT : Hid (IntR w.heap.size (w.alloc (.cells #[] 2)) (some ⟨w.heap.size, 0, none⟩) 0 []) := hide ⟨rfl, .inr ⟨w.heap.size, 0, #[], rfl, Nat.le_refl _, heap_alloc_new w _, Nat.le_refl _, by unfold maxLen; omega, rfl, rfl⟩⟩
  have HB1 : Hid (Below w.heap.size w (w.alloc (.cells #[] 2))) := hide ((Below.refl _ _).alloc (Nat.le_refl _) _)
  clear hr hD hL hkr hf hz
  by_cases hok : docokB D = true ∧ KeysP K
  · obtain ⟨hd, hK⟩ := hok
    have HV := hide (brV_yes hd hK)
    have hkn : kn ≤ 10 := by rw [← HL.out]; exact hK.1
    have hdn := (docok_facts hd).1
    obtain ⟨b, off, rfl, hbs, hrow⟩ := HR.out (by omega)
    rw [hd] at CD
    have CK2 := hide (fun w2 hb => (CK.out w2 hb).mono (fun e w' h => (⟨h.1 hK, h.2.2⟩ : _ ∧ _)))
    have HRW := hide hrow
    have HBRK : Hid (∀ (kb koff i x : Nat) (w9 : World), ka = some ⟨kb, koff, none⟩ → KyRw w kb koff K → i < kn → x < n → Below w.heap.size w w9 → Calls Tryz.prog 51 #[.slice (some ⟨b, off, none⟩) n cap, .int .i64 x, .slice (some ⟨kb, koff, none⟩) kn kc, .int .i64 i] w9 (BolAns (brk D K x i) w9)) := hide (fun kb koff i x w9 he hrw hi hx h9 => s_broken D n b off cap K kn kb koff kc i x w9 HD.out hd hx hK HL.out hi HF.out (kyRw_go hrw h9) (Nat.lt_of_lt_of_le hbs h9.size) (dcRow_up (dcRow_go hrow hbs h9) h9.size))
    clear hdn hrow hd hK CK
    go_enter Tryz.func22, Tryz.ntmps22
    go_wp2_with (first
      | (go_at_call 32; refine (CD.out _ HB1.out).mono ?_; rintro e w2 ⟨rfl, hb2⟩; have HB2 := hide (HB1.out.trans (hb2.mono HB1.out.size)); have HO2 := hide (show IntR w.heap.size w2 _ _ _ from gOwn_after HOUT.out hb2); clear hb2)
      | (go_at_call 41; refine (CK2.out _ HB2.out).mono ?_; rintro e w3 ⟨rfl, hb3⟩; have HB3 := hide (HB2.out.trans (hb3.mono HB2.out.size)); have HO3 := hide (show IntR w.heap.size w3 _ _ _ from gOwn_after HO2.out hb3); clear hb3))
    have hs3 : w.heap.size ≤ w3.heap.size := HB3.out.size
    go_loopw [5, 6] (fun pv iv wr => ∃ (i L c8 : Nat) (a8 : Option Addr), i ≤ kn ∧ iv = .int .i64 i ∧ pv = .slice a8 L c8 ∧ L ≤ i ∧ Hid ((brL D K i).length = L) ∧ Hid (IntR w.heap.size wr a8 c8 (brL D K i)) ∧ Hid (Below w.heap.size w wr)) (fun _ iv _ => kn - (intOf iv).toNat)
    case atStart => exact ⟨0, 0, 0, some ⟨w.heap.size, 0, none⟩, Nat.zero_le _, rfl, rfl, Nat.le_refl _, hide rfl, HO3, HB3⟩
    case round =>
      obtain ⟨i, L, c8, a8, hik, rfl, rfl, hLi, HLL, HO, HB⟩ := hrel
      obtain ⟨WR, rfl⟩ : ∃ WR, WR = wr := ⟨_, rfl⟩
      by_cases hlt : i < kn
      · have hci : (i : Int) < (kn : Int) := by omega
        have hiK : i < K.length := by rw [HL.out]; exact hlt
        obtain ⟨kb, koff, hke, hkb, hkrow⟩ := HKR.out (fun e => by rw [e] at hiK; exact absurd hiK (Nat.not_lt_zero _))
        have HKW : Hid (KyRw w kb koff K) := hide ⟨hkb, hkrow⟩
        have HBK := hide (fun x w9 hx h9 => HBRK.out kb koff i x w9 hke HKW.out hlt hx h9)
        obtain ⟨kad, kcp, hkc, -, -⟩ := hkrow i hiK
        obtain ⟨on, hon⟩ : ∃ on, (kyA K i).on = on := ⟨_, rfl⟩
        have Q2 : Hid (∀ w9, Below w.heap.size w w9 → w9.cell? ⟨kb, koff + i * 6 + 2, none⟩ = some (.string on)) := hide (fun w9 h9 => (h9.cell (p := ⟨kb, koff + i * 6 + 2, none⟩) hkb).trans (by rw [← hon]; exact hkc.2.2.1))
        have HON := hide hon
        subst hke
        clear hkrow hkc hon
        go_wp2
        go_loopw [7, 8] (fun bv xv wj => ∃ (x : Nat) (B : Bool), x ≤ n ∧ xv = .int .i64 x ∧ bv = .bool B ∧ Hid (B = true ↔ ∃ y, y < x ∧ D.NM y = on ∧ brk D K y i) ∧ Hid (IntR w.heap.size wj a8 c8 (brL D K i)) ∧ Hid (Below w.heap.size w wj)) (fun _ xv _ => n - (intOf xv).toNat)
        case atStart => exact ⟨0, false, Nat.zero_le _, rfl, rfl, hide ⟨fun h => (by cases h), fun ⟨y, h, _⟩ => absurd h (Nat.not_lt_zero _)⟩, HO, HB⟩
        case round =>
          obtain ⟨x, B, hxn, rfl, rfl, HA, HOj, HBj⟩ := hrel
          obtain ⟨WJ, rfl⟩ : ∃ WJ, WJ = wr := ⟨_, rfl⟩
          by_cases hltx : x < n
          · have hxi : (x : Int) < (n : Int) := by omega
            obtain ⟨ad, cp, hc, -, -⟩ := HRW.out x (by rw [HD.out]; exact hltx)
            obtain ⟨c0, c1, c2, c3⟩ := dcCells_go hc hbs HBj.out
            have k2 := Q2.out WJ HBj.out
            obtain ⟨NM, hNM⟩ : ∃ NM, D.NM x = NM := ⟨_, rfl⟩
            rw [hNM] at c1
            have HNM := hide hNM
            clear hc hNM c0 c2 c3
            cases he : (NM.toList == on.toList)
            · have HA2 : Hid (B = true ↔ ∃ y, y < x + 1 ∧ D.NM y = on ∧ brk D K y i) := hide (by
                rw [HA.out]
                constructor
                · rintro ⟨y, h1, h2, h3⟩; exact ⟨y, by omega, h2, h3⟩
                · rintro ⟨y, h1, h2, h3⟩
                  by_cases e : y = x
                  · subst e; rw [HNM.out] at h2; exact absurd h2 (ba_ne he)
                  · exact ⟨y, by omega, h2, h3⟩)
              go_wp2
              go_quiet (fail)
              go_wp2
              go_roundw
              case rel => exact ⟨x + 1, B, by omega, by go_num, rfl, HA2, hide (show IntR _ _ _ _ _ from HOj.out), hide (ba_drewN HBj.out _)⟩
              case measure => simp [intOf]; omega
            · have HNO := hide (HNM.out.trans ((ba_eq _ _).1 he))
              have CB2 := hide (fun w3 h3 => HBK.out x w3 hltx h3)
              go_upto_region 11 with fail
              go_cut [48] (fun vv wx => ∃ V : Bool, vv = .bool V ∧ Hid (V = true ↔ brk D K x i) ∧ Hid (Below WJ.heap.size WJ wx))
              case first =>
                go_region_with (go_at_call 51; refine (CB2.out _ (ba_drew HBj.out)).mono ?_; rintro e w5 ⟨⟨V, rfl, hV⟩, hb5⟩; have HV := hide hV; have HB5 : Hid (Below WJ.heap.size WJ w5) := hide ⟨hb5.os, hb5.tape, hb5.output, hb5.size, hb5.block⟩; clear hV hb5)
                all_goals
                  go_wp2
                  go_meet
                  exact ⟨V, rfl, HV, HB5⟩
              case rest =>
                obtain ⟨V, rfl, HVV, HB5⟩ := hcut
                have HOc := hide (show IntR w.heap.size wc _ _ _ from gOwn_after HOj.out HB5.out)
                have HBc := hide (HBj.out.trans (HB5.out.mono HBj.out.size))
                cases V
                · have HA2 : Hid (B = true ↔ ∃ y, y < x + 1 ∧ D.NM y = on ∧ brk D K y i) := hide (by
                    rw [HA.out]
                    constructor
                    · rintro ⟨y, h1, h2, h3⟩; exact ⟨y, by omega, h2, h3⟩
                    · rintro ⟨y, h1, h2, h3⟩
                      by_cases e : y = x
                      · subst e; have h9 := HVV.out.2 h3; cases h9
                      · exact ⟨y, by omega, h2, h3⟩)
                  go_wp2
                  go_roundw
                  case rel => exact ⟨x + 1, B, by omega, by go_num, rfl, HA2, HOc, HBc⟩
                  case measure => simp [intOf]; omega
                · have HA2 : Hid (true = true ↔ ∃ y, y < x + 1 ∧ D.NM y = on ∧ brk D K y i) := hide ⟨fun _ => ⟨x, by omega, HNO.out, HVV.out.1 rfl⟩, fun _ => rfl⟩
                  go_wp2
                  go_roundw
                  case rel => exact ⟨x + 1, true, by omega, by go_num, rfl, HA2, HOc, HBc⟩
                  case measure => simp [intOf]; omega
          · have hxe : x = n := by omega
            subst hxe
            have HBAD : Hid (B = true ↔ badK D K i) := hide (by
              rw [HA.out]
              unfold badK
              rw [HD.out, HON.out])
            have hownj : WJ.ownsRow w.heap.size 2 1 (.slice a8 L c8) L ((brL D K i).map (Value.int .i64)) := by
              have h9 := HOj.out
              unfold IntR at h9
              rw [HLL.out] at h9
              exact h9
            have HO4 := hide hownj
            have hsj : w.heap.size ≤ WJ.heap.size := HBj.out.size
            clear hownj hltx
            cases B
            · have HL1 := hide (br_no (D := D) (L := K) (i := i) (fun h => by have h9 := HBAD.out.2 h; cases h9))
              go_wp2
              go_roundw
              case rel => exact ⟨i + 1, L, c8, a8, by omega, by go_num, rfl, by omega, hide (by rw [HL1.out]; exact HLL.out), hide (by rw [HL1.out]; exact HOj.out), HBj⟩
              case measure => simp [intOf]; omega
            · have HL1 := hide (br_yes (D := D) (L := K) (i := i) (HBAD.out.1 rfl))
              go_wp2_with (at_builtin; refine wpList_append_own _ rfl (.tmp 50) (.tmp 52) 47 rfl w.heap.size 2 i0 (.int .i64 0) 1 8 Tryz.underlying47 hi hz0 hz1 hz2 rfl (by decide) _ _ _ rfl (HO4.out.alloc _) ⟨WJ.heap.size, 0, none⟩ 1 1 [.int .i64 (i : Int)] rfl rfl (fun j u hj => gOne_new WJ _ _ j u hj) (gOne_list _ _) (by unfold maxLen; omega) (by omega) (by simp; omega) ?_; intro v2 w7 hown2 hgrow2 _; obtain ⟨ad2, c2', hv2⟩ := gOwn_shape hown2; rw [hv2] at hown2 ⊢; clear hv2; have HB7 := hide (gBelow_one HBj.out HO4.out hgrow2); have HO7 := hide hown2; clear hown2 hgrow2)
              go_roundw
              case rel =>
                refine ⟨i + 1, L + 1, c2', ad2, by omega, by go_num, rfl, by omega, hide (by rw [HL1.out, List.length_append, HLL.out]; rfl), hide ?_, HB7⟩
                rw [HL1.out]
                unfold IntR
                rw [List.length_append, HLL.out, List.map_append]
                exact HO7.out
              case measure => simp [intOf]; omega
      · have hie : i = kn := by omega
        subst hie
        go_wp2
        go_ret
        rw [HV.out, HL.out]
        rw [HLL.out]
        exact ⟨a8, c8, rfl, HO.out, HB.out⟩
  · have HV := hide (brV_no hok)
    cases hd : docokB D
    · rw [hd] at CD
      go_enter Tryz.func22, Tryz.ntmps22
      go_wp2_with (go_at_call 32; refine (CD.out _ HB1.out).mono ?_; rintro e w2 ⟨rfl, hb2⟩; have HB2 := hide (HB1.out.trans (hb2.mono HB1.out.size)); have HO2 := hide (show IntR w.heap.size w2 _ _ _ from gOwn_after HOUT.out hb2); clear hb2)
      go_ret
      rw [HV.out]
      exact ⟨_, _, rfl, HO2.out, HB2.out⟩
    · rw [hd] at CD
      have CK2 := hide (fun w2 hb => (CK.out w2 hb).mono (fun e w' h => (⟨h.2.1 (fun hK => hok ⟨hd, hK⟩), h.2.2⟩ : _ ∧ _)))
      clear hok CK
      go_enter Tryz.func22, Tryz.ntmps22
      go_wp2_with (first
        | (go_at_call 32; refine (CD.out _ HB1.out).mono ?_; rintro e w2 ⟨rfl, hb2⟩; have HB2 := hide (HB1.out.trans (hb2.mono HB1.out.size)); have HO2 := hide (show IntR w.heap.size w2 _ _ _ from gOwn_after HOUT.out hb2); clear hb2)
        | (go_at_call 41; refine (CK2.out _ HB2.out).mono ?_; rintro e w3 ⟨rfl, hb3⟩; have HB3 := hide (HB2.out.trans (hb3.mono HB2.out.size)); have HO3 := hide (show IntR w.heap.size w3 _ _ _ from gOwn_after HO2.out hb3); clear hb3))
      go_ret
      rw [HV.out]
      exact ⟨_, _, rfl, HO3.out, HB3.out⟩
end Go.Proofs.YtfbahffljhnjbaaGreatDoor

/-
  Contracts of the laws' helpers on rows of keys: the copy of a row.
-/
namespace Go.Proofs.YtfbahffljhnjbaaGreatDoor
open Go.RowKit Go.Joins
set_option linter.unusedVariables false
set_option linter.unusedSimpArgs false
/-- Of a row of cells the first k keys are those of L, each with its texts in a block of its own above g. -/
def SixN (w : World) (g : Nat) (xs : List Value) (k : Nat) (L : List Ky) : Prop := ∀ j, j < k → ∃ G, g < G ∧ (xs[j * 6]? = some (.string (kyA L j).nm) ∧ xs[j * 6 + 1]? = some (.int .i64 (kyA L j).kd) ∧ xs[j * 6 + 2]? = some (.string (kyA L j).on) ∧ xs[j * 6 + 3]? = some (.string (kyA L j).pa) ∧ xs[j * 6 + 4]? = some (.slice (some ⟨G, 0, none⟩) (kyA L j).fl.length (kyA L j).fl.length) ∧ xs[j * 6 + 5]? = some (.string (kyA L j).re)) ∧ TxAt w (some ⟨G, 0, none⟩) (kyA L j).fl w.heap.size
theorem sixN_go {w w' : World} {g k : Nat} {xs : List Value} {L : List Ky} (h : SixN w g xs k L) (hb : Below w.heap.size w w') : SixN w' g xs k L := fun j hj => by
  obtain ⟨G, hG, hc, hr⟩ := h j hj
  exact ⟨G, hG, hc, tx_up (tx_go hr hb) hb.size⟩
theorem sixN_set {w : World} {g k o : Nat} {xs : List Value} {L : List Ky} (h : SixN w g xs k L) (v : Value) : SixN (w.setCell ⟨g, o, none⟩ v) g xs k L := fun j hj => by
  obtain ⟨G, hG, hc, hr⟩ := h j hj
  refine ⟨G, hG, hc, ?_⟩
  rw [heap_setCell_size]
  exact tx_set hr _ _ (by show g ≠ G; omega)
theorem sixN_step {w : World} {g k n G : Nat} {xs : List Value} {L : List Ky} (h : SixN w g xs k L) (hk : k < n) (hl : xs.length = n * 6) (hG : g < G) (hr : TxAt w (some ⟨G, 0, none⟩) (kyA L k).fl w.heap.size) :
    SixN w g ((((((xs.set (k * 6) (.string (kyA L k).nm)).set (k * 6 + 1) (.int .i64 (kyA L k).kd)).set (k * 6 + 2) (.string (kyA L k).on)).set (k * 6 + 3) (.string (kyA L k).pa)).set (k * 6 + 4) (.slice (some ⟨G, 0, none⟩) (kyA L k).fl.length (kyA L k).fl.length)).set (k * 6 + 5) (.string (kyA L k).re)) (k + 1) L := by
  intro j hj
  simp only [List.getElem?_set, List.length_set]
  by_cases e : j = k
  · subst e
    refine ⟨G, hG, ⟨?_, ?_, ?_, ?_, ?_, ?_⟩, hr⟩
    all_goals
      repeat (first | rw [if_pos rfl, if_pos (by omega)] | rw [if_neg (by omega)])
  · obtain ⟨G', hG', ⟨h0, h1, h2, h3, h4, h5⟩, hr'⟩ := h j (by omega)
    refine ⟨G', hG', ⟨?_, ?_, ?_, ?_, ?_, ?_⟩, hr'⟩
    all_goals
      repeat rw [if_neg (by omega)]
      assumption
theorem own_ky {w : World} {B g n t : Nat} {xs : List Value} {L : List Ky} (hn : L.length = n) (h : w.ownsRow B t 6 (.slice (some ⟨g, 0, none⟩) n n) n xs) (hp : SixN w g xs n L) : KyAt w (some ⟨g, 0, none⟩) L w.heap.size := fun h0 => by
  have hg : g < w.heap.size := (h.lt g rfl).2
  refine ⟨g, 0, rfl, hg, fun j hj => ?_⟩
  obtain ⟨G, hG, ⟨h0, h1, h2, h3, h4, h5⟩, hr⟩ := hp j (by omega)
  refine ⟨some ⟨G, 0, none⟩, (kyA L j).fl.length, ⟨?_, ?_, ?_, ?_, ?_, ?_⟩, hr, Nat.le_refl _⟩
  · rw [Nat.zero_add, h.cellAt (j * 6) (by omega)]; exact h0
  · rw [Nat.zero_add, h.cellAt (j * 6 + 1) (by omega)]; exact h1
  · rw [Nat.zero_add, h.cellAt (j * 6 + 2) (by omega)]; exact h2
  · rw [Nat.zero_add, h.cellAt (j * 6 + 3) (by omega)]; exact h3
  · rw [Nat.zero_add, h.cellAt (j * 6 + 4) (by omega)]; exact h4
  · rw [Nat.zero_add, h.cellAt (j * 6 + 5) (by omega)]; exact h5
theorem infoK : (Tryz.prog.info? 37).map (fun i => (i.zero, i.size, i.bytes)) = some (some (.agg #[.string ⟨#[]⟩, .int .i64 0, .string ⟨#[]⟩, .string ⟨#[]⟩, .slice none 0 0, .string ⟨#[]⟩]), 6, 96) := by kernel_rfl
set_option maxRecDepth 100000 in
set_option maxHeartbeats 8000000 in
theorem l_toKs (L : List Ky) (n : Nat) (a : Option Addr) (cap : Nat) (w : World) (hX : L.length = n) (hn : n ≤ 1048576) (hnr : ∀ j, j < n → (kyA L j).fl.length ≤ 1048576) (hr : KyAt w a L w.heap.size) :
    Calls Tryz.prog 23 #[.slice a n cap] w fun e w' => ∃ g, e = .returned (.slice (some ⟨g, 0, none⟩) n n) ∧ w.heap.size ≤ g ∧ KyAt w' (some ⟨g, 0, none⟩) L w'.heap.size ∧ Below w.heap.size w w' := by
  obtain ⟨i0, hi, hz0, hz1, hz2⟩ := info_parts infoK
  have HX := hide hX
  have HNR := hide hnr
  have HR := hide hr
  clear hr hnr hX
  go_enter Tryz.func23, Tryz.ntmps23
  go_wp2_with (at_make; refine wpList_make_full _ rfl _ _ 49 rfl w.heap.size 37 i0 (.agg #[.string ⟨#[]⟩, .int .i64 0, .string ⟨#[]⟩, .string ⟨#[]⟩, .slice none 0 0, .string ⟨#[]⟩]) 6 Tryz.underlying49 hi hz0 hz1 .i64 .i64 _ _ n rfl rfl rfl rfl (by rw [hz2]; omega) (by unfold maxLen; omega) (Nat.le_refl _) ?_; intro w1 hown hgrow)
  have hb1 : Below w.heap.size w w1 := (Below.refl _ _).grown hgrow (Nat.le_refl _) (fun k h => by cases h)
  clear hgrow
  go_loopw [4] (fun i wr => ∃ k : Nat, k ≤ n ∧ i = .int .i64 k ∧ (∃ xs, wr.ownsRow w.heap.size 37 6 (.slice (some ⟨w.heap.size, 0, none⟩) n n) n xs ∧ SixN wr w.heap.size xs k L) ∧ Below w.heap.size w wr) (fun i _ => n - (intOf i).toNat)
  case atStart => exact ⟨0, Nat.zero_le _, rfl, ⟨_, hown, fun j h => by omega⟩, hb1⟩
  case round =>
    clear hown hb1
    obtain ⟨k, hk, rfl, ⟨xs, hown, hp⟩, hb⟩ := hrel
    by_cases hlt : k < n
    · obtain ⟨b, off, rfl, hbs, hrow⟩ := HR.out (fun e => by have := HX.out; rw [e] at this; simp at this; omega)
      obtain ⟨ad, cp, hc, hrg, -⟩ := hrow k (by rw [HX.out]; omega)
      obtain ⟨c0, c1, c2, c3, c4, c5⟩ := kyC_go hc hbs hb
      have hnk := HNR.out k hlt
      have hlt2 : w.heap.size < wr.heap.size := (hown.lt w.heap.size rfl).2
      have HP := hide hp
      have HB := hide hb
      have HO := hide hown
      have HG := hide (tx_up (tx_go hrg hb) hb.size)
      clear hp hb hc hown hrg hrow
      go_wp2_with (go_at_call 13; refine (l_toK _ _ _ _ _ (kyA L k).fl _ _ _ _ rfl hnk HG.out).mono ?_; rintro e w2 ⟨G, rfl, hG, hr2, hb2⟩; have hown2 := own_after HO.out hb2; have hf0 := hown2.frozenAt (k * 6); obtain ⟨x0, hx0⟩ := own_someN hown2 (k * 6) (by omega); have hf1 := hown2.frozenAt (k * 6 + 1); obtain ⟨x1, hx1⟩ := own_someN hown2 (k * 6 + 1) (by omega); have hf2 := hown2.frozenAt (k * 6 + 2); obtain ⟨x2, hx2⟩ := own_someN hown2 (k * 6 + 2) (by omega); have hf3 := hown2.frozenAt (k * 6 + 3); obtain ⟨x3, hx3⟩ := own_someN hown2 (k * 6 + 3) (by omega); have hf4 := hown2.frozenAt (k * 6 + 4); obtain ⟨x4, hx4⟩ := own_someN hown2 (k * 6 + 4) (by omega); have hf5 := hown2.frozenAt (k * 6 + 5); obtain ⟨x5, hx5⟩ := own_someN hown2 (k * 6 + 5) (by omega); replace HB := hide (HB.out.trans (hb2.mono HB.out.size)); replace HO := hide hown2; replace HP := hide (sixN_go HP.out hb2); have HG2 := hide hr2; have HGl := hide hG; clear hown2 hb2 hr2 hG)
      go_roundw
      case rel =>
        refine ⟨k + 1, by omega, by go_num, ⟨_, ((((((HO.out.stored (k * 6) (.string (kyA L k).nm)).1.stored (k * 6 + 1) (.int .i64 (kyA L k).kd)).1.stored (k * 6 + 2) (.string (kyA L k).on)).1.stored (k * 6 + 3) (.string (kyA L k).pa)).1.stored (k * 6 + 4) (.slice (some ⟨G, 0, none⟩) (kyA L k).fl.length (kyA L k).fl.length)).1.stored (k * 6 + 5) (.string (kyA L k).re)).1, ?_⟩, ?_⟩
        · have h := sixN_step HP.out hlt HO.out.1 (Nat.lt_of_lt_of_le hlt2 HGl.out) HG2.out
          replace h := sixN_set (o := k * 6) h (.string (kyA L k).nm)
          replace h := sixN_set (o := k * 6 + 1) h (.int .i64 (kyA L k).kd)
          replace h := sixN_set (o := k * 6 + 2) h (.string (kyA L k).on)
          replace h := sixN_set (o := k * 6 + 3) h (.string (kyA L k).pa)
          replace h := sixN_set (o := k * 6 + 4) h (.slice (some ⟨G, 0, none⟩) (kyA L k).fl.length (kyA L k).fl.length)
          replace h := sixN_set (o := k * 6 + 5) h (.string (kyA L k).re)
          exact h
        · iterate 6 (refine Below.setCell ?_ (Nat.le_refl w.heap.size) _)
          exact HB.out
      case measure => simp [intOf]; omega
    · have hkn : k = n := by omega
      subst hkn
      go_wp2
      go_ret
      exact ⟨_, rfl, Nat.le_refl _, own_ky HX.out hown hp, hb⟩
end Go.Proofs.YtfbahffljhnjbaaGreatDoor

/-
  Plain facts, of no program: what has become of memory where only some blocks were written; the shape of rows of items and attributes.
-/
namespace Go.Proofs.YtfbahffljhnjbaaGreatDoor
open Go.RowKit Go.Joins
set_option linter.unusedVariables false
set_option linter.unusedSimpArgs false
/-- Of the blocks that were there only those from lo up to hi (without it) may have been written; all keep their shape. -/
structure Chg (lo hi : Nat) (w w' : World) : Prop where
  os : w'.os = w.os
  tape : w'.tape = w.tape
  output : w'.output = w.output
  size : w.heap.size ≤ w'.heap.size
  block : ∀ j, j < w.heap.size → (j < lo ∨ hi ≤ j) → w'.heap[j]? = w.heap[j]?
  shape : ∀ (j : Nat) (cs : Array Value) (T : TypeId), w.heap[j]? = some (Obj.cells cs T (0, 0)) → ∃ cs' : Array Value, w'.heap[j]? = some (Obj.cells cs' T (0, 0)) ∧ cs'.size = cs.size
theorem Chg.refl (lo hi : Nat) (w : World) : Chg lo hi w w := ⟨rfl, rfl, rfl, Nat.le_refl _, fun _ _ _ => rfl, fun j cs T h => ⟨cs, h, rfl⟩⟩
theorem Chg.trans {lo hi : Nat} {w w1 w2 : World} (h1 : Chg lo hi w w1) (h2 : Chg lo hi w1 w2) : Chg lo hi w w2 :=
  ⟨h2.os.trans h1.os, h2.tape.trans h1.tape, h2.output.trans h1.output, Nat.le_trans h1.size h2.size, fun j hj hc => (h2.block j (Nat.lt_of_lt_of_le hj h1.size) hc).trans (h1.block j hj hc), fun j cs T h => by
    obtain ⟨c1, e1, s1⟩ := h1.shape j cs T h
    obtain ⟨c2, e2, s2⟩ := h2.shape j c1 T e1
    exact ⟨c2, e2, s2.trans s1⟩⟩
theorem Chg.wide {lo hi lo' hi' : Nat} {w w' : World} (h : Chg lo hi w w') (h1 : lo' ≤ lo) (h2 : hi ≤ hi') : Chg lo' hi' w w' :=
  ⟨h.os, h.tape, h.output, h.size, fun j hj hc => h.block j hj (by omega), h.shape⟩
theorem chg_below {lo hi : Nat} {w w' : World} (h : Below w.heap.size w w') : Chg lo hi w w' := ⟨h.os, h.tape, h.output, h.size, fun j hj _ => h.block j hj, fun j cs T e => ⟨cs, (h.block j (Array.getElem?_eq_some_iff.1 e).1).trans e, rfl⟩⟩
theorem chg_set {lo hi : Nat} {w : World} (G i : Nat) (v : Value) (h1 : lo ≤ G) (h2 : G < hi) : Chg lo hi w (w.setCell ⟨G, i, none⟩ v) :=
  ⟨rfl, rfl, rfl, by rw [heap_setCell_size]; exact Nat.le_refl _, fun j hj hc => heap_setCell_far _ _ _ _ (by show G ≠ j; omega), fun j cs T e => by
    by_cases h : G = j
    · subst h; exact ⟨_, block_setCell e v, by simp⟩
    · exact ⟨cs, (heap_setCell_far _ _ _ _ h).trans e, rfl⟩⟩
theorem below_chg {b lo hi : Nat} {w w1 w2 : World} (h : Below b w w1) (hbw : b ≤ w.heap.size) (hlo : b ≤ lo) (k : Chg lo hi w1 w2) : Below b w w2 :=
  ⟨k.os.trans h.os, k.tape.trans h.tape, k.output.trans h.output, Nat.le_trans h.size k.size, fun j hj => (k.block j (Nat.lt_of_lt_of_le (Nat.lt_of_lt_of_le hj hbw) h.size) (.inl (by omega))).trans (h.block j hj)⟩
/-- Block G has room for m attributes. -/
def ShA (w : World) (G m : Nat) : Prop := ∃ cs T, w.heap[G]? = some (.cells cs T (0, 0)) ∧ cs.size = m * 2
theorem shA_chg {lo hi : Nat} {w w' : World} {G m : Nat} (h : ShA w G m) (k : Chg lo hi w w') : ShA w' G m := by
  obtain ⟨cs, T, h1, h2⟩ := h
  obtain ⟨cs', h3, h4⟩ := k.shape G cs T h1
  exact ⟨cs', T, h3, by omega⟩
theorem shA_cell {w : World} {G m : Nat} (h : ShA w G m) (i : Nat) (hi : i < m * 2) : (∃ v, w.cell? ⟨G, i, none⟩ = some v) ∧ w.frozen? ⟨G, i, none⟩ = false := by
  obtain ⟨cs, T, h1, h2⟩ := h
  refine ⟨⟨cs[i]'(by omega), ?_⟩, by simp [World.frozen?, h1]⟩
  rw [cell_of_row w G i _ T (0, 0) h1, Array.getElem?_eq_getElem (by omega)]
/-- Block g has n items, each with its attributes in a block of its own. -/
def ShI (w : World) (g n : Nat) (AC : Nat → Nat) (lo hi : Nat) : Prop := ∃ cs T, w.heap[g]? = some (.cells cs T (0, 0)) ∧ cs.size = n * 4 ∧ (lo ≤ g ∧ g < hi) ∧ ∀ j, j < n → ∃ G, (lo ≤ G ∧ G < hi ∧ G ≠ g) ∧ cs[j * 4 + 3]? = some (.slice (some ⟨G, 0, none⟩) (AC j) (AC j)) ∧ ShA w G (AC j)
theorem shI_go {w w' : World} {g n lo hi lo' hi' : Nat} {AC : Nat → Nat} (h : ShI w g n AC lo hi) (k : Chg lo' hi' w w') (hg : g < lo' ∨ hi' ≤ g) : ShI w' g n AC lo hi := by
  obtain ⟨cs, T, h1, h2, h3, h4⟩ := h
  refine ⟨cs, T, (k.block g (Array.getElem?_eq_some_iff.1 h1).1 hg).trans h1, h2, h3, fun j hj => ?_⟩
  obtain ⟨G, q1, q2, q3⟩ := h4 j hj
  exact ⟨G, q1, q2, shA_chg q3 k⟩
theorem shI_set {w : World} {g n lo hi i : Nat} {AC : Nat → Nat} (h : ShI w g n AC lo hi) (v : Value) (hi' : ∀ j, j * 4 + 3 ≠ i) : ShI (w.setCell ⟨g, i, none⟩ v) g n AC lo hi := by
  obtain ⟨cs, T, h1, h2, h3, h4⟩ := h
  refine ⟨_, T, block_setCell h1 v, by simpa using h2, h3, fun j hj => ?_⟩
  obtain ⟨G, q1, q2, q3⟩ := h4 j hj
  refine ⟨G, q1, ?_, shA_chg q3 (chg_set (lo := g) (hi := g + 1) g i v (Nat.le_refl _) (by omega))⟩
  rw [Array.getElem?_setIfInBounds_ne (by have := hi' j; omega)]
  exact q2
theorem shI_cell {w : World} {g n lo hi : Nat} {AC : Nat → Nat} (h : ShI w g n AC lo hi) (i : Nat) (hi' : i < n * 4) : (∃ v, w.cell? ⟨g, i, none⟩ = some v) ∧ w.frozen? ⟨g, i, none⟩ = false := by
  obtain ⟨cs, T, h1, h2, -⟩ := h
  refine ⟨⟨cs[i]'(by omega), ?_⟩, by simp [World.frozen?, h1]⟩
  rw [cell_of_row w g i _ T (0, 0) h1, Array.getElem?_eq_getElem (by omega)]
theorem shI_at {w : World} {g n lo hi : Nat} {AC : Nat → Nat} (h : ShI w g n AC lo hi) (j : Nat) (hj : j < n) : ∃ G, (lo ≤ G ∧ G < hi ∧ G ≠ g) ∧ w.cell? ⟨g, j * 4 + 3, none⟩ = some (.slice (some ⟨G, 0, none⟩) (AC j) (AC j)) ∧ ShA w G (AC j) := by
  obtain ⟨cs, T, h1, h2, -, h4⟩ := h
  obtain ⟨G, q1, q2, q3⟩ := h4 j hj
  exact ⟨G, q1, by rw [cell_of_row w g _ _ T (0, 0) h1]; exact q2, q3⟩
theorem shI_in {w : World} {g n lo hi : Nat} {AC : Nat → Nat} (h : ShI w g n AC lo hi) : lo ≤ g ∧ g < hi := by
  obtain ⟨cs, T, -, -, h3, -⟩ := h
  exact h3
theorem own_shA {w : World} {B g n t : Nat} {xs : List Value} (h : w.ownsRow B t 2 (.slice (some ⟨g, 0, none⟩) n n) n xs) : ShA w g n := by
  rcases h.2 with ⟨hv, -⟩ | ⟨g', cap, cur, hv, -, hg, -, -, hs, -⟩
  · cases hv
  · simp only [Value.slice.injEq, Option.some.injEq, Addr.mk.injEq] at hv
    obtain ⟨⟨rfl, -⟩, -, rfl⟩ := hv
    exact ⟨cur, t, hg, hs⟩
end Go.Proofs.YtfbahffljhnjbaaGreatDoor
