/-
  Texts put together: FfD, FfW.
-/
import Derived.Test.YtpakkllcemcfdaaGreatDoorY41
import Derived.Test.YtpakkllcemcfdaaGreatDoorY36
import Derived.Test.YtpakkllcemcfdaaGreatDoorY14
import Derived.Test.YtpakkllcemcfdaaGreatDoorY30
import Derived.BigQuiet
/-
  Contract: what is drawn for a field: a document, a place, a field.
-/
namespace Go.Proofs.YtpakkllcemcfdaaGreatDoor
open Go.RowKit Go.Joins
set_option linter.unusedVariables false
set_option linter.unusedSimpArgs false
theorem str_cellP {w w1 : World} {G : Nat} (Q : ByteArray → Prop) {cs : Array Value} {T : TypeId} {x : Int} {N : Nat} (hg : (w.alloc (.cells cs T)).grownBy w1 (some G)) (h0 : 0 ≤ x) (hx : x < N) (hN : cs.size = N) (hG : G < w.heap.size) (hK : ∀ k, k < N → ∃ s : ByteArray, cs[k]? = some (.string s) ∧ Q s) : ∃ s : ByteArray, w1.cell? ⟨w.heap.size, x.toNat, none⟩ = some (.string s) ∧ Q s := by
  have hb := hg.block w.heap.size (by simp) (fun e => by cases e; omega)
  rw [World.cell?_of_block (a := ⟨w.heap.size, x.toNat, none⟩) hb, cell_of_row _ w.heap.size x.toNat _ T (0, 0) (heap_alloc_new w _)]
  exact hK x.toNat (by omega)
set_option maxHeartbeats 1000000 in
theorem d_field (G : Nat) (a : Option Addr) (n cap : Nat) (zs : List Int) (w : World) (h : RdAt w G a n cap zs) :
    Calls Tryz.prog 39 #[.pointer (some ⟨G, 0, none⟩)] w fun e w' => ∃ s : ByteArray, (s.size ≤ 8 ∧ 1 ≤ s.size) ∧ e = .returned (.string s) ∧ Drew G a n cap zs w w' := by
  have HH := hide h
  have hG := rd_lt h
  clear h
  go_enter Tryz.func39, Tryz.ntmps39
  go_wp2_with fail
  refine (d_below G a n cap zs 11 _ (by omega) (by omega) (rd_alloc HH.out _)).mono ?_
  rintro e w1 ⟨x, hx0, hx1, rfl, hd⟩
  obtain ⟨s, hs, hs1⟩ := str_cellP (fun s => s.size ≤ 8 ∧ 1 ≤ s.size) hd.2 hx0 hx1 rfl hG (fun k hk => by
    have hk' : k < 11 := hk
    have hx : k = 0 ∨ k = 1 ∨ k = 2 ∨ k = 3 ∨ k = 4 ∨ k = 5 ∨ k = 6 ∨ k = 7 ∨ k = 8 ∨ k = 9 ∨ k = 10 := by omega
    rcases hx with e | e | e | e | e | e | e | e | e | e | e <;> subst e <;> exact ⟨_, rfl, by decide⟩)
  have HD := hide (drew_alloc _ hd)
  clear hd
  go_wp2
  go_ret
  exact ⟨s, hs1, rfl, HD.out⟩
set_option maxRecDepth 100000 in
set_option maxHeartbeats 4000000 in
theorem d_fieldOf (a : Option Addr) (n cap : Nat) (zs : List Int) (w : World) (hl : zs.length = n) (hz : ∀ x ∈ zs, 0 ≤ x ∧ x ≤ 255) (hn : n ≤ 1048576) (hs : SrcAt w a zs w.heap.size) :
    Calls Tryz.prog 16 #[.slice a n cap] w fun e w' => ∃ ad m c D x s, e = .returned (.tuple #[.slice ad m c, .int .i64 x, .string s]) ∧ D.n = m ∧ (1 ≤ m ∧ m ≤ 15) ∧ dcTot D ≤ 1048576 ∧ DcAt w' ad D w'.heap.size ∧ (s.size ≤ 8 ∧ 1 ≤ s.size) ∧ Below w.heap.size w w' := by
  have HS := hide hs
  have HL := hide hl
  have HZ := hide hz
  clear hs hl hz
  go_enter Tryz.func16, Tryz.ntmps16
  go_wp2_with fail
  refine (d_open a n cap zs _ HL.out HZ.out hn HS.out).mono ?_
  rintro e w1 ⟨rfl, hrd, hb1⟩
  have HRD := hide hrd
  have HB1 := hide hb1
  clear hrd hb1
  go_wp2_with fail
  refine (d_flat w.heap.size a n cap zs _ HRD.out).mono ?_
  rintro e w2 ⟨ad, m, c, D, rfl, hg, hm1, hm2⟩
  have HGS := hide hg
  clear hg
  go_wp2_with fail
  refine (d_offG w.heap.size a n cap zs 0 ((m : Int) - 1) _ (by omega) (by omega) (by omega) HGS.out.1).mono ?_
  rintro e w3 ⟨x, rfl, hd⟩
  replace HGS := hide (gs_drew HGS.out hd)
  clear hd
  go_wp2_with fail
  refine (d_field w.heap.size a n cap zs _ HGS.out.1).mono ?_
  rintro e w4 ⟨s, hs8, rfl, hd⟩
  replace HGS := hide (gs_drew HGS.out hd)
  clear hd
  go_wp2
  go_ret3
  exact ⟨ad, m, c, D, x, s, rfl, (drIt_dc HGS.out.2.1).1, ⟨hm1, hm2⟩, drIt_tot HGS.out.2.1 (by omega), (drIt_dc HGS.out.2.1).2, hs8, HB1.out.trans HGS.out.2.2.1⟩
end Go.Proofs.YtpakkllcemcfdaaGreatDoor

/-
  The walk of FnFields.
-/
namespace Go.Proofs.YtpakkllcemcfdaaGreatDoor
open Go.RowKit Go.Joins
set_option linter.unusedVariables false
set_option linter.unusedSimpArgs false
theorem ff_attrs {D : Dc} {X m b off : Nat} {w : World} (hD : D.n = m) (hX : X < m) (hr : DcRow w b off D w.heap.size) : ∃ ad cp, w.cell? ⟨b, off + X * 4 + 3, none⟩ = some (.slice ad (D.AC X) cp) ∧ AtAt w ad (D.AC X) (D.AN X) (D.AV X) w.heap.size := by
  obtain ⟨ad, cp, ⟨-, -, -, c3⟩, ha, -⟩ := hr X (by rw [hD]; exact hX)
  exact ⟨ad, cp, c3, ha⟩
theorem below_drX {w w5 : World} (h : Below w.drew.heap.size w.drew w5) : Below w.heap.size w w5 := ⟨h.os, h.tape, h.output, h.size, h.block⟩
set_option maxRecDepth 100000 in
set_option maxHeartbeats 8000000 in
theorem ff_walk (a : Option Addr) (n cap : Nat) (zs : List Int) (w : World) (hl : zs.length = n) (hz : ∀ x ∈ zs, 0 ≤ x ∧ x ≤ 255) (hn : n ≤ 1048576) (hs : SrcAt w a zs w.heap.size) (hT : Tabs w) (hM : MaxL w) :
    Calls Tryz.prog 5 #[.slice a n cap] w fun e w' => e = .returned (.bool true) ∧ Below w.heap.size w w' := by
  have hn' : ¬ (1048576 : Int) < (n : Int) := by omega
  have HT := hide hT
  have HM := hide hM
  have CD := hide (d_fieldOf a n cap zs w hl hz hn hs)
  clear hs hl hz hT hM
  go_enter Tryz.func5, Tryz.ntmps5
  go_wp2_with (go_at_call 6; go_in)
  refine CD.out.mono ?_
  rintro e w1 ⟨ad, m, c, D, x, s, rfl, hD, ⟨hm1, hm2⟩, htot, hdc, ⟨hs8, hs1⟩, hb1⟩
  have B1 := hide hb1
  have HT1 := hide (tabs_below HT.out hb1)
  have HM1 := hide (maxL_go HM.out hb1 (Nat.le_refl _))
  have HD := hide hD
  have HTO := hide htot
  have HDC := hide hdc
  clear hb1 hD htot hdc CD
  go_wp2_with fail
  refine (i_fieldOf D m ad c x s w1 HD.out HTO.out (by omega) HDC.out HT1.out HM1.out).mono ?_
  rintro e w2 ⟨rfl, hb2⟩
  have B2 := hide hb2
  clear hb2
  have F1 := hide (fo_many (D := D) (x := x) (s := s))
  have F2 := hide (fo_white D x s)
  have F6 := hide (fo_size D x s)
  have F3 := hide (fo_ok (D := D) (x := x) (s := s))
  have F4 := hide (fo_dot (D := D) (x := x) (s := s))
  have F5 := hide (fun r => fo_at (D := D) (x := x) (s := s) (r := r))
  have CS : Hid (∀ w9, Below w1.heap.size w1 w9 → Calls Tryz.prog 18 #[.slice ad m c, .int .i64 x, .string s] w9 fun e w' => e = .returned (.tuple #[.string (foV D x s).1, .int .i64 (foV D x s).2]) ∧ Below w9.heap.size w9 w') := hide (fun w9 h9 => s_fieldOf D m ad c x s w9 HD.out HTO.out (by omega) (dcAt_up (dcAt_go HDC.out h9) h9.size))
  obtain ⟨V, hV⟩ : ∃ V, foV D x s = V := ⟨_, rfl⟩
  rw [hV] at F1 F2 F3 F4 F5 F6 CS ⊢
  obtain ⟨v, many⟩ := V
  clear hV
  dsimp only at F1 F2 F3 F4 F5 F6 CS ⊢
  go_wp2_with fail
  refine (CS.out _ B2.out).mono ?_
  rintro e w3 ⟨rfl, hb3⟩
  have B3 := hide (B2.out.trans (hb3.mono B2.out.size))
  clear hb3
  by_cases hneg : many < 0
  · have hv := F1.out (by omega)
    subst hv
    clear F1 F2 F3 F4 F5 F6 CS
    have hnd : decide (many < 0) = true := decide_eq_true hneg
    go_wp2
    go_ret
    exact ⟨rfl, B1.out.trans (B3.out.mono B1.out.size)⟩
  · have hnd : decide (many < 0) = false := decide_eq_false hneg
    have hok := F3.out (by omega)
    have HOK := hide hok
    obtain ⟨hdk, hn200, hgd, hx0, hx1⟩ := tx_factsF hok
    have HDK := hide hdk
    rw [HD.out] at hx1
    clear hok hdk hgd
    go_upto_region 6 with fail
    go_cut [55] (fun v wx => v = .bool false ∧ w3 = wx)
    case first =>
      by_cases h1 : many = 1
      · subst h1
        go_wp2
        go_meet
        exact ⟨rfl, rfl⟩
      · have e1 : (many != 1) = true := by rw [bne_iff_ne]; exact h1
        have hv := F1.out h1
        subst hv
        go_wp2
        go_meet
        exact ⟨rfl, rfl⟩
    case rest =>
      obtain ⟨rfl, rfl⟩ := hcut
      by_cases hdot : s.data.toList = [46]
      · have hd1 : (s.toList == (⟨#[46]⟩ : ByteArray).toList) = true := by rw [ByteArray.toList_eq, ByteArray.toList_eq, beq_iff_eq]; exact hdot
        have hd2 : (s.toList == [46]) = true := by rw [ByteArray.toList_eq, beq_iff_eq]; exact hdot
        have e4 := F4.out (by omega) hdot
        simp only [Prod.mk.injEq] at e4
        obtain ⟨rfl, rfl⟩ := e4
        have CT : Hid (Calls Tryz.prog 19 #[.slice ad m c, .int .i64 x] w3 fun e w' => e = .returned (.tuple #[.string (txV D x), .bool true]) ∧ Below w3.heap.size w3 w') := hide (by rw [← HOK.out]; exact i_textof D m ad c x w3 HD.out HTO.out (dcAt_up (dcAt_go HDC.out B3.out) B3.out.size) (tabs_below HT1.out B3.out))
        have hTs : (txV D x).size ≤ 1048576 := by
          unfold txV
          rw [if_pos HOK.out]
          have h1 := txF_size D x D.n
          have h2 := (docok_facts HDK.out).2.2
          omega
        obtain ⟨T, hTT⟩ : ∃ T, txV D x = T := ⟨_, rfl⟩
        rw [hTT] at CT hTs
        rw [hTT]
        clear F1 F2 F3 F4 F5 F6 CS hTT hdot
        go_wp2_with fail
        refine CT.out.mono ?_
        rintro e w4 ⟨rfl, hb4⟩
        have B4 := hide (B3.out.trans (hb4.mono B3.out.size))
        clear hb4
        go_wp2_with (go_at_call 20; refine (i_white T 2 _ hTs).mono ?_; rintro e w5 ⟨rfl, hb5⟩; have B5 := hide (B4.out.trans (hb5.mono B4.out.size)); clear hb5)
        go_ret
        exact ⟨ret_bool (by simp), B1.out.trans (B5.out.mono B1.out.size)⟩
      · have hd1 : (s.toList == (⟨#[46]⟩ : ByteArray).toList) = false := by rw [ByteArray.toList_eq, ByteArray.toList_eq, beq_eq_false_iff_ne]; exact hdot
        have hd2 : (s.toList == [46]) = false := by rw [ByteArray.toList_eq, beq_eq_false_iff_ne]; exact hdot
        have hs0 : (0 : Int) < s.size := by omega
        obtain ⟨b0, r, hbr⟩ : ∃ b0 r, s.data.toList = b0 :: r := by
          cases hx : s.data.toList with
          | nil =>
            have h9 : s.data.toList.length = s.size := Array.length_toList
            rw [hx] at h9
            simp at h9
            omega
          | cons b0 r => exact ⟨b0, r, rfl⟩
        have hsz : 0 < s.size := by omega
        have hb0 : s[0]'hsz = b0 := by
          have h9 : s.data.toList[0]? = some b0 := by rw [hbr]; rfl
          rw [Array.getElem?_toList, Array.getElem?_eq_getElem hsz] at h9
          exact Option.some.inj h9
        have HBR := hide hbr
        clear hbr
        by_cases h64 : b0 = 64
        · have e64 : (((s[0]'hsz).toNat : Int) != 64) = false := by rw [hb0, h64]; rfl
          subst h64
          clear hb0
          obtain ⟨P1, hP1⟩ : ∃ P1, s.extract 1 s.size = P1 := ⟨_, rfl⟩
          have HP1 : Hid ((⟨r.toArray⟩ : ByteArray) = P1) := hide (by
            rw [← hP1]
            apply Go.WideShapes.bytes_inj
            have h5 : s.data.toList.length = s.size := Array.length_toList
            rw [HBR.out, List.length_cons] at h5
            rw [ByteArray.data_extract, Array.toList_extract, HBR.out]
            show r = ((64 :: r).drop 1).take (s.size - 1)
            rw [List.drop_succ_cons, List.drop_zero, List.take_of_length_le (by omega)])
          have e5 := F5.out r (by omega) HBR.out
          obtain ⟨X, hXx⟩ : ∃ X : Nat, x = (X : Int) := ⟨x.toNat, by omega⟩
          subst hXx
          rw [HP1.out, Int.toNat_natCast] at e5
          have hXm : X < m := by omega
          obtain ⟨AC, hAC⟩ : ∃ AC, D.AC X = AC := ⟨_, rfl⟩
          rw [hAC] at e5
          have HMY : Hid (many = ((mtA D X P1 AC).length : Int)) := hide (by rw [← foA_2, ← e5])
          have HVV : Hid (v = (foA (mtA D X P1 AC)).1) := hide (by rw [← e5])
          have hac10 : AC ≤ 10 := by rw [← hAC]; exact (att_facts HDK.out (by rw [HD.out]; exact hXm)).1
          have HHIT : Hid (∀ i, i < AC → ((D.AN X i).toList == P1.toList) = true → mtA D X P1 AC = [D.AV X i]) := hide (fun i hi he => by rw [← hAC]; exact ff_hit HDK.out (by rw [HD.out]; exact hXm) (by rw [hAC]; exact hi) he)
          have HAV : Hid (∀ i, i < AC → (D.AV X i).size ≤ 1048576) := hide (fun i hi => av_small HDK.out (by rw [HD.out]; exact hXm) (by rw [hAC]; exact hi))
          obtain ⟨b, off, hab, hbw, hrow⟩ := HDC.out (by rw [HD.out]; omega)
          obtain ⟨aa, cp, c3, hat⟩ := ff_attrs HD.out hXm hrow
          rw [hAC] at c3 hat
          subst hab
          have HAT := hide hat
          have hs1i : (1 : Int) ≤ s.size := by omega
          have hXi : (X : Int) < (m : Int) := by omega
          have hX0 : (0 : Int) ≤ (X : Int) := by omega
          clear F1 F2 F3 F4 F5 F6 CS e5 hrow hat hAC
          go_wp2
          go_loopw [12, 13] (fun kv iv wr => ∃ (i k : Nat), i ≤ AC ∧ iv = .int .i64 i ∧ kv = .int .i64 k ∧ k ≤ i ∧ Hid (k = (mtA D X P1 i).length) ∧ Hid (Below w1.heap.size w1 wr)) (fun _ iv _ => AC - (intOf iv).toNat)
          case atStart => exact ⟨0, 0, Nat.zero_le _, rfl, rfl, Nat.le_refl _, hide rfl, B3⟩
          case round =>
            obtain ⟨i, k, hi, rfl, rfl, hki, HK, HB⟩ := hrel
            have d3 := (HB.out.cell (p := ⟨b, off + X * 4 + 3, none⟩) hbw).trans c3
            by_cases hlt : i < AC
            · have hii : (i : Int) < (AC : Int) := by omega
              obtain ⟨b2, o2, ha2, hb2, hc2⟩ := HAT.out (by omega)
              obtain ⟨f0, f1⟩ := hc2 i hlt
              have g0 := (HB.out.cell (p := ⟨b2, o2 + i * 2, none⟩) hb2).trans f0
              have g1 := (HB.out.cell (p := ⟨b2, o2 + i * 2 + 1, none⟩) hb2).trans f1
              subst ha2
              clear hc2 f0 f1
              obtain ⟨NM, hNM⟩ : ∃ NM, D.AN X i = NM := ⟨_, rfl⟩
              obtain ⟨VL, hVL⟩ : ∃ VL, D.AV X i = VL := ⟨_, rfl⟩
              rw [hNM] at g0
              rw [hVL] at g1
              have HN := hide hNM
              have HL := hide hVL
              clear hNM hVL
              have hwk : IntKind.i64.wrap ((k : Int) + 1) = (k : Int) + 1 := by rw [IntKind.wrap_i64]; omega
              cases hme : (NM.toList == P1.toList)
              · have HK2 : Hid (k = (mtA D X P1 (i + 1)).length) := hide (by rw [mt_no (by rw [HN.out]; exact hme)]; exact HK.out)
                go_wp2
                go_region
                go_wp2
                go_roundw
                case rel => exact ⟨i + 1, k, by omega, by go_num, rfl, by omega, HK2, hide (HB.out.trans ⟨rfl, rfl, rfl, Nat.le_refl _, fun _ _ => rfl⟩)⟩
                case measure => simp [intOf]; omega
              · have HK2 : Hid (k + 1 = (mtA D X P1 (i + 1)).length) := hide (by rw [mt_yes (by rw [HN.out]; exact hme), List.length_append, ← HK.out]; rfl)
                have hvl : v = whB VL 2 := by
                  rw [HVV.out, HHIT.out i hlt (by rw [HN.out]; exact hme), HL.out]
                  unfold foA
                  rw [if_pos (show [VL].length = 1 from rfl)]
                  rfl
                have hvs : VL.size ≤ 1048576 := by have h9 := HAV.out i hlt; rw [HL.out] at h9; exact h9
                have HVE := hide hvl
                clear hvl
                go_wp2
                go_region
                go_wp2_with (go_at_call 20; refine (i_white VL 2 _ hvs).mono ?_; rintro e w5 ⟨rfl, hb5⟩; rw [← HVE.out]; have B5 := hide (HB.out.trans ((below_drX hb5).mono HB.out.size)); clear hb5)
                go_roundw
                case rel => exact ⟨i + 1, k + 1, by omega, by go_num, by go_num, by omega, HK2, B5⟩
                case measure => simp [intOf]; omega
            · have hie : i = AC := by omega
              subst hie
              have HE : Hid (many = (k : Int)) := hide (by rw [HMY.out, HK.out])
              go_wp2
              go_ret
              exact ⟨ret_bool (by rw [HE.out]; simp), B1.out.trans (HB.out.mono B1.out.size)⟩
        · have e64 : (((s[0]'hsz).toNat : Int) != 64) = true := by
            rw [hb0, bne_iff_ne]
            intro h9
            apply h64
            apply UInt8.toNat_inj.1
            have : (64 : UInt8).toNat = 64 := rfl
            omega
          have hvs : v.size ≤ 1048576 := by have := F6.out; omega
          have HWV := hide F2.out
          clear F1 F2 F3 F4 F5 F6 CS hb0
          go_wp2_with (go_at_call 20; refine (i_white v 2 _ hvs).mono ?_; rintro e w5 ⟨rfl, hb5⟩; rw [HWV.out]; have B5 := hide (B3.out.trans (hb5.mono B3.out.size)); clear hb5)
          go_ret
          exact ⟨ret_bool (by simp), B1.out.trans (B5.out.mono B1.out.size)⟩
end Go.Proofs.YtpakkllcemcfdaaGreatDoor
