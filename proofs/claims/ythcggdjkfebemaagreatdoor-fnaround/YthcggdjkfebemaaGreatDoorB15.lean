/-
  Texts put together: DocPl2, DocI, KdMath.
-/
import Derived.Test.YthcggdjkfebemaaGreatDoorB14
/-
  Contract: the program's look at an item's place, when those ahead of it are right.
-/
namespace Go.Proofs.YthcggdjkfebemaaGreatDoor
open Go.RowKit Go.Joins
set_option linter.unusedVariables false
set_option linter.unusedSimpArgs false
theorem two_below {w : World} (o1 o2 : Obj) : Below w.heap.size w ((w.alloc o1).alloc o2) := ((Below.refl _ _).alloc (Nat.le_refl _) _).alloc (by simp) _
theorem place_val {D : Dc} {i : Nat} (h0 : i ≠ 0) (h1 : dupB D i = false) (h2 : rc D.U (D.U i) (stI D i) = true) : placeB D i = decide ((dp D.U (D.U i) : Int) < 20) := by
  by_cases h : dp D.U (D.U i) < 20
  · rw [place_yes h0 h1 h2 h, decide_eq_true (by omega)]
  · rw [place_no_dp h0 h, decide_eq_false (by omega)]
set_option maxRecDepth 100000 in
set_option maxHeartbeats 4000000 in
theorem i_place0 (D : Dc) (n b off cap : Nat) (w : World) (hD : D.n = n) (hn : n ≤ 200) (hi : 0 < n) (hb : b < w.heap.size) (hr : DcRow w b off D w.heap.size) :
    Calls Tryz.prog 24 #[.slice (some ⟨b, off, none⟩) n cap, .int .i64 (0 : Nat)] w fun e w' => e = .returned (.bool (placeB D 0)) ∧ Below w.heap.size w w' := by
  obtain ⟨ad, cp, ⟨c0, c1, c2, c3⟩, -⟩ := hr 0 (by omega)
  simp only [Nat.zero_mul, Nat.add_zero] at c0 c1 c2 c3
  obtain ⟨u, hu⟩ : ∃ u, D.U 0 = u := ⟨_, rfl⟩
  obtain ⟨nm, hnm⟩ : ∃ u, D.NM 0 = u := ⟨_, rfl⟩
  have HV : Hid (placeB D 0 = ((u == -1) && !(nm.toList.isEmpty))) := hide (by unfold placeB; rw [if_pos rfl, hu, hnm]; rfl)
  rw [hu] at c0
  rw [hnm] at c1
  have hn0 : (0 : Int) < (n : Int) := by omega
  clear hr hu hnm hD
  go_enter Tryz.func24, Tryz.ntmps24
  go_wp2
  all_goals
    go_ret
    exact ⟨ret_bool (by rw [HV.out]; simp_all), (Below.refl _ _).alloc (Nat.le_refl _) _⟩
set_option maxRecDepth 100000 in
set_option maxHeartbeats 4000000 in
theorem i_place1 (D : Dc) (n b off cap : Nat) (w : World) (i : Nat) (h0 : i ≠ 0) (hD : D.n = n) (hn : n ≤ 200) (hi : i < n) (hb : b < w.heap.size) (hr : DcRow w b off D w.heap.size) (hG : Good D i) :
    Calls Tryz.prog 24 #[.slice (some ⟨b, off, none⟩) n cap, .int .i64 i] w fun e w' => e = .returned (.bool (placeB D i)) ∧ Below w.heap.size w w' := by
  obtain ⟨ad, cp, ⟨c0, c1, c2, c3⟩, -⟩ := hr i (by omega)
  obtain ⟨ad1, cp1, ⟨p0, p1, p2, p3⟩, -⟩ := hr (i - 1) (by omega)
  have hst := st_le h0 hG
  have HST := hide hst
  have HDEC := hide (good_dec i hG)
  have hdu : dupB D i = ((D.NM (i - 1)).toList.isEmpty && ((D.NM i).toList.isEmpty && (D.U (i - 1) == D.U i))) := rfl
  have hsv : stI D i = if (D.NM (i - 1)).toList.isEmpty = true then D.U (i - 1) else (i : Int) - 1 := rfl
  obtain ⟨lu, hlu⟩ : ∃ u, D.U (i - 1) = u := ⟨_, rfl⟩
  obtain ⟨ln, hln⟩ : ∃ u, D.NM (i - 1) = u := ⟨_, rfl⟩
  obtain ⟨nm, hnm⟩ : ∃ u, D.NM i = u := ⟨_, rfl⟩
  obtain ⟨u, hu⟩ : ∃ u, D.U i = u := ⟨_, rfl⟩
  obtain ⟨R, hR⟩ : ∃ R, rc D.U u (stI D i) = R := ⟨_, rfl⟩
  have HU := hide hu
  have HRR := hide hR
  have HH0 := hide h0
  have HNN := hide (fun h => place_no_rc (D := D) (i := i) h0 h)
  have HVV := hide (fun h1 h2 => place_val (D := D) (i := i) h0 h1 h2)
  rw [hu, hR] at HNN HVV
  rw [hlu] at p0 hdu hsv
  rw [hln] at p1 hdu hsv
  rw [hnm] at c1 hdu
  rw [hu] at c0 hdu
  have hin : (i : Int) < (n : Int) := by omega
  have hi1 : (1 : Int) ≤ (i : Int) := by omega
  have hi2 : (i : Int) - 1 < (n : Int) := by omega
  have hi3 : ((i : Int) - 1).toNat = i - 1 := by omega
  have hi4 : ((i : Int) == 0) = false := by simp; omega
  have HR2 := hide (fun (o1 o2 : Obj) => dcRow_go hr hb (two_below (w := w) o1 o2))
  have HD := hide hD
  have HGG := hide hG
  clear hr hu hnm hlu hln hR hG hD
  by_cases hdup : dupB D i = true
  · have hv := hide (place_no_dup HH0.out hdup)
    rw [hdu] at hdup
    simp only [Bool.and_eq_true] at hdup
    obtain ⟨e1, e2, e3⟩ := hdup
    have e4 : lu = u := by simpa using e3
    subst e4
    clear hdu hsv e3
    go_enter Tryz.func24, Tryz.ntmps24
    go_wp2
    go_ret
    exact ⟨ret_bool hv.out.symm, two_below _ _⟩
  · have hdup2 : dupB D i = false := by simpa using hdup
    have HDF := hide hdup2
    rw [hdu] at hdup2
    have hcases : (ln.toList.isEmpty = false ∧ Hid (stI D i = (i : Int) - 1)) ∨ (ln.toList.isEmpty = true ∧ nm.toList.isEmpty = false ∧ Hid (stI D i = lu)) ∨ (ln.toList.isEmpty = true ∧ nm.toList.isEmpty = true ∧ (lu == u) = false ∧ Hid (stI D i = lu)) := by
      cases q1 : ln.toList.isEmpty with
      | false => rw [q1, if_neg (by decide)] at hsv; exact .inl ⟨rfl, hsv⟩
      | true =>
        rw [q1, if_pos rfl] at hsv
        cases q2 : nm.toList.isEmpty with
        | false => exact .inr (.inl ⟨rfl, rfl, hsv⟩)
        | true => rw [q1, q2] at hdup2; exact .inr (.inr ⟨rfl, rfl, by simpa using hdup2, hsv⟩)
    clear hdu hsv hdup hdup2
    rcases hcases with ⟨e1, HS⟩ | ⟨e1, e2, HS⟩ | ⟨e1, e2, e3, HS⟩
    all_goals
      go_enter Tryz.func24, Tryz.ntmps24
      go_wp2
      go_loop [7] (fun v => ∃ a : Int, v = .int .i64 a ∧ -1 ≤ a ∧ a ≤ (i : Int) - 1 ∧ Hid (rc D.U u a = R)) (fun v => (intOf v + 1).toNat)
      case atStart => exact ⟨_, rfl, by have := HST.out; rw [HS.out] at this; omega, by have := HST.out; rw [HS.out] at this; omega, by have := HRR.out; rw [HS.out] at this; exact this⟩
      case round =>
        obtain ⟨a, rfl, ha0, ha1, HA⟩ := hrel
        by_cases h9 : 0 ≤ a
        · have ha2 : (a != -1) = true := by simp; omega
          by_cases h8 : a = u
          · subst h8
            have HRT : Hid (R = true) := hide (by rw [← HA.out]; exact rc_hit D.U a h9 rfl)
            have hv := hide (HVV.out HDF.out HRT.out)
            have CC := hide (i_count D n b off cap ((w.alloc (.cells #[.int .i64 a, .string nm, .string (D.TX i), .slice ad (D.AC i) cp] 41)).alloc (.cells #[.int .i64 lu, .string ln, .string (D.TX (i - 1)), .slice ad1 (D.AC (i - 1)) cp1] 41)) 0 a nm (D.TX i) ad (D.AC i) cp HD.out hn ⟨ha0, by omega⟩ (by simp; omega) (dcRow_up (HR2.out _ _) (by simp; omega)) (fun j hj => HDEC.out j (by omega)))
            go_wp2_with (go_at_call 49; refine CC.out.mono ?_; rintro e w3 ⟨rfl, hb3⟩; have HB3 := hide ((two_below _ _).trans (hb3.mono (by simp; omega))); clear hb3)
            go_ret
            exact ⟨ret_bool (by rw [hv.out]), HB3.out⟩
          · have ha3 : (a != u) = true := by simpa using h8
            obtain ⟨ad9, cp9, ⟨g0, -⟩, -⟩ := HR2.out (.cells #[.int .i64 u, .string nm, .string (D.TX i), .slice ad (D.AC i) cp] 41) (.cells #[.int .i64 lu, .string ln, .string (D.TX (i - 1)), .slice ad1 (D.AC (i - 1)) cp1] 41) a.toNat (by rw [HD.out]; omega)
            obtain ⟨d1, d2⟩ := HDEC.out a.toNat (by omega)
            have HS9 : Hid (rc D.U u a = rc D.U u (D.U a.toNat)) := hide (rc_step D.U u h9 h8 (fun j hj => (HDEC.out j (by omega)).2))
            obtain ⟨v, hv⟩ : ∃ v, D.U a.toNat = v := ⟨_, rfl⟩
            rw [hv] at g0 d1 d2 HS9
            have han : a < (n : Int) := by omega
            clear hv
            go_wp2
            go_round
            case rel => exact ⟨v, rfl, d1, by omega, by rw [← HS9.out]; exact HA.out⟩
            case measure => simp [intOf]; omega
        · have ha9 : a = -1 := by omega
          subst ha9
          have HRF : Hid (R = false) := hide (by rw [← HA.out]; exact rc_neg D.U u (by omega))
          have hv := hide (HNN.out HRF.out)
          go_wp2
          go_ret
          exact ⟨ret_bool hv.out.symm, two_below _ _⟩
theorem i_place (D : Dc) (n b off cap : Nat) (w : World) (i : Nat) (hD : D.n = n) (hn : n ≤ 200) (hi : i < n) (hb : b < w.heap.size) (hr : DcRow w b off D w.heap.size) (hG : Good D i) :
    Calls Tryz.prog 24 #[.slice (some ⟨b, off, none⟩) n cap, .int .i64 i] w fun e w' => e = .returned (.bool (placeB D i)) ∧ Below w.heap.size w w' := by
  by_cases h0 : i = 0
  · subst h0; exact i_place0 D n b off cap w hD hn hi hb hr
  · exact i_place1 D n b off cap w i h0 hD hn hi hb hr hG
end Go.Proofs.YthcggdjkfebemaaGreatDoor

/-
  Contract: which rows of items the program calls a right document.
-/
namespace Go.Proofs.YthcggdjkfebemaaGreatDoor
open Go.RowKit Go.Joins
set_option linter.unusedVariables false
set_option linter.unusedSimpArgs false
def pB (D : Dc) (i : Nat) : Bool := partB (D.NM i) (D.TX i) (D.AC i) (D.AN i) (D.AV i)
def itB (D : Dc) (i : Nat) : Bool := placeB D i && pB D i
def szD (D : Dc) (j : Nat) : Nat := (D.NM j).size + (D.TX j).size + atsT (D.AC j) (D.AN j) (D.AV j)
def docokB (D : Dc) : Bool := decide (1 ≤ D.n ∧ D.n ≤ 200) && ((List.range D.n).all (itB D) && decide (sumN (szD D) D.n ≤ 2500))
theorem docok_size {D : Dc} (h : ¬ (1 ≤ D.n ∧ D.n ≤ 200)) : docokB D = false := by unfold docokB; rw [decide_eq_false h]; rfl
theorem docok_no {D : Dc} {k : Nat} (hk : k < D.n) (h : itB D k = false) : docokB D = false := by
  have : (List.range D.n).all (itB D) = false := by
    rw [List.all_eq_false]
    exact ⟨k, by simpa using hk, by simp [h]⟩
  unfold docokB
  rw [this]
  simp
theorem docok_big {D : Dc} {k : Nat} (hk : k ≤ D.n) (h : 2500 < sumN (szD D) k) : docokB D = false := by
  have := sumN_le (szD D) hk
  unfold docokB
  rw [decide_eq_false (by omega : ¬ sumN (szD D) D.n ≤ 2500)]
  simp
theorem docok_all {D : Dc} (h0 : 1 ≤ D.n ∧ D.n ≤ 200) (h : ∀ j, j < D.n → itB D j = true) : docokB D = decide (sumN (szD D) D.n ≤ 2500) := by
  have : (List.range D.n).all (itB D) = true := by
    rw [List.all_eq_true]
    intro j hj
    exact h j (by simpa using hj)
  unfold docokB
  rw [this, decide_eq_true h0]
  simp
theorem itB_good {D : Dc} {k : Nat} (h : ∀ j, j < k → itB D j = true) : Good D k := fun j hj => by
  have := h j hj
  unfold itB at this
  simp at this
  exact this.1
theorem dc_sz {D : Dc} (h : dcTot D ≤ 1048576) : D.n ≤ 1048576 ∧ ∀ j, j < D.n → ((D.NM j).size + (D.TX j).size + D.AC j + atsT (D.AC j) (D.AN j) (D.AV j) ≤ 1048576) ∧ ∀ k, k < D.AC j → (D.AN j k).size ≤ 1048576 ∧ (D.AV j k).size ≤ 1048576 := by
  unfold dcTot at h
  refine ⟨by omega, fun j hj => ?_⟩
  have h1 := sumN_at (itSz D) hj
  have h2 : itSz D j = (D.NM j).size + (D.TX j).size + (D.AC j + sumN (atSz (D.AN j) (D.AV j)) (D.AC j)) := rfl
  refine ⟨by unfold atsT; omega, fun k hk => ?_⟩
  have h3 := sumN_at (atSz (D.AN j) (D.AV j)) hk
  have h4 : atSz (D.AN j) (D.AV j) k = (D.AN j k).size + (D.AV j k).size := rfl
  omega
theorem szD_le {D : Dc} (h : dcTot D ≤ 1048576) {k : Nat} (hk : k ≤ D.n) : sumN (szD D) k ≤ 1048576 := by
  unfold dcTot at h
  have h1 : ∀ m, sumN (szD D) m ≤ sumN (itSz D) m := by
    intro m
    induction m with
    | zero => exact Nat.le_refl _
    | succ m ih =>
      show sumN (szD D) m + szD D m ≤ sumN (itSz D) m + itSz D m
      have : szD D m ≤ itSz D m := by unfold szD itSz atsT atTot; omega
      omega
  have h2 := h1 k
  have h3 := sumN_le (itSz D) hk
  omega
set_option maxRecDepth 100000 in
set_option maxHeartbeats 4000000 in
theorem i_docok (D : Dc) (n : Nat) (a : Option Addr) (cap : Nat) (w : World) (hD : D.n = n) (hz : dcTot D ≤ 1048576) (hr : DcAt w a D w.heap.size) (hT : Tabs w) :
    Calls Tryz.prog 10 #[.slice a n cap] w fun e w' => e = .returned (.bool (docokB D)) ∧ Below w.heap.size w w' := by
  have HD := hide hD
  have HR := hide hr
  have HT := hide hT
  have HZ := hide hz
  have hn : n ≤ 1048576 := by rw [← hD]; exact (dc_sz hz).1
  clear hr hT hD hz
  by_cases hs : 1 ≤ n ∧ n ≤ 200
  · obtain ⟨g1, g2⟩ := hs
    have g3 : (1 : Int) ≤ n := by omega
    have g4 : (n : Int) ≤ 200 := by omega
    obtain ⟨b, off, rfl, hbs, hrow⟩ := HR.out (by rw [HD.out]; omega)
    have HRW := hide hrow
    clear hrow
    go_enter Tryz.func10, Tryz.ntmps10
    go_wp2
    go_loopw [3, 16] (fun t i wr => ∃ k : Nat, k ≤ n ∧ i = .int .i64 k ∧ t = .int .i64 (sumN (szD D) k : Int) ∧ Below w.heap.size w wr ∧ Hid (∀ j, j < k → itB D j = true)) (fun _ i _ => n - (intOf i).toNat)
    case atStart => exact ⟨0, Nat.zero_le _, rfl, rfl, Below.refl _ _, fun j h => by omega⟩
    case round =>
      obtain ⟨k, hk, rfl, rfl, hb, HM⟩ := hrel
      have hq1 := szD_le HZ.out (k := k) (by rw [HD.out]; exact hk)
      by_cases hlt : k < n
      · obtain ⟨ad, cp, hc, hat, hcp⟩ := HRW.out k (by rw [HD.out]; omega)
        obtain ⟨c0, c1, c2, c3⟩ := dcCells_go hc hbs hb
        have hbw : b < wr.heap.size := Nat.lt_of_lt_of_le hbs hb.size
        have HB := hide hb
        have HA := hide (atAt_up (atAt_go hat hb) hb.size)
        have HRR := hide (dcRow_up (dcRow_go HRW.out hbs hb) hb.size)
        have hq2 := szD_le HZ.out (k := k + 1) (by rw [HD.out]; exact hlt)
        have hq3 : sumN (szD D) (k + 1) = sumN (szD D) k + ((D.NM k).size + (D.TX k).size + atsT (D.AC k) (D.AN k) (D.AV k)) := rfl
        obtain ⟨q, hq⟩ : ∃ q, sumN (szD D) k = q := ⟨_, rfl⟩
        rw [hq] at hq1 hq3 ⊢
        obtain ⟨y, hy⟩ : ∃ y, (D.NM k).size + (D.TX k).size + atsT (D.AC k) (D.AN k) (D.AV k) = y := ⟨_, rfl⟩
        rw [hy] at hq3
        have HQ3 := hide hq3
        have HY := hide hy
        rw [hq3] at hq2
        obtain ⟨z1, z2⟩ := (dc_sz HZ.out).2 k (by rw [HD.out]; omega)
        have HZ1 := hide z1
        have HZ2 := hide z2
        have hi : (k : Int) < (n : Int) := by omega
        have st : ∀ o, Below wr.heap.size wr (wr.alloc o) := fun o => (Below.refl _ _).alloc (Nat.le_refl _) _
        have HST := hide st
        clear hc hat hb hq hq3 hy z1 z2 st
        go_wp2_with fail
        refine (i_place D n b off cap _ k HD.out g2 hlt (by simp; omega) (dcRow_up (dcRow_go HRR.out hbw (HST.out _)) (by simp)) (itB_good HM.out)).mono ?_
        rintro e w2 ⟨rfl, hb2⟩
        have HX2 := hide (box_item hb2)
        have HB2 := hide (HB.out.trans (HX2.out.2.mono HB.out.size))
        clear hb2 c0 c1 c2 c3
        cases hp : placeB D k
        · have hv := hide (docok_no (D := D) (k := k) (by rw [HD.out]; exact hlt) (by unfold itB; rw [hp]; rfl))
          go_wp2
          go_ret
          exact ⟨ret_bool hv.out.symm, HB2.out⟩
        · obtain ⟨a0, a1, a2, a3⟩ := itAt_cells HX2.out.1
          have HA2 := hide (atAt_up (atAt_go HA.out HX2.out.2) HX2.out.2.size)
          go_wp2_with fail
          refine (i_parts _ _ _ _ _ _ (D.AN k) (D.AV k) _ (by have := HZ1.out; omega) hcp (by have := HZ1.out; omega) (by have := HZ1.out; omega) HZ2.out HA2.out (tabs_below HT.out HB2.out)).mono ?_
          rintro e w3 ⟨rfl, hb3⟩
          have HX3 := hide (itAt_go HX2.out.1 hb3)
          have HB3 := hide (HB2.out.trans (hb3.mono HB2.out.size))
          have HA3 := hide (atAt_up (atAt_go HA2.out hb3) hb3.size)
          clear hb3 a0 a1 a2 a3
          cases hpp : pB D k
          · have hv := hide (docok_no (D := D) (k := k) (by rw [HD.out]; exact hlt) (by unfold itB; rw [hp, hpp]; rfl))
            rw [show partB (D.NM k) (D.TX k) (D.AC k) (D.AN k) (D.AV k) = false from hpp]
            go_wp2
            go_ret
            exact ⟨ret_bool hv.out.symm, HB3.out⟩
          · rw [show partB (D.NM k) (D.TX k) (D.AC k) (D.AN k) (D.AV k) = true from hpp]
            have hv : itB D k = true := by unfold itB; rw [hp, hpp]; rfl
            have HIT := hide hv
            obtain ⟨a0, a1, a2, a3⟩ := itAt_cells HX3.out
            clear hv
            go_wp2_with fail
            refine (i_size _ _ _ _ _ _ (D.AN k) (D.AV k) _ HZ1.out HA3.out).mono ?_
            rintro e w4 ⟨rfl, hb4⟩
            have HB4 := hide (HB3.out.trans (hb4.mono HB3.out.size))
            rw [HY.out]
            clear hb4 a0 a1 a2 a3
            go_wp2
            go_roundw
            case rel =>
              refine ⟨k + 1, by omega, by go_num, by rw [HQ3.out]; go_num, HB4.out, fun j hj => ?_⟩
              by_cases e : j = k
              · subst e; exact HIT.out
              · exact HM.out j (by omega)
            case measure => simp [intOf]; omega
      · have hkn : k = n := by omega
        subst hkn
        have hv := docok_all (D := D) (by rw [HD.out]; exact ⟨g1, g2⟩) (by rw [HD.out]; exact HM.out)
        rw [HD.out] at hv
        obtain ⟨q, hq⟩ : ∃ q, sumN (szD D) k = q := ⟨_, rfl⟩
        rw [hq] at hv hq1 ⊢
        have HV := hide hv
        clear hv hq
        go_wp2
        go_ret
        exact ⟨ret_bool (by rw [HV.out]; exact decide_eq_decide.2 (by omega)), hb⟩
  · have e := docok_size (D := D) (by rw [HD.out]; exact hs)
    rw [e]
    by_cases g : n = 0
    · go_enter Tryz.func10, Tryz.ntmps10
      go_wp2
      go_ret
      exact ⟨rfl, Below.refl _ _⟩
    · have g2 : (200 : Int) < (n : Int) := by omega
      go_enter Tryz.func10, Tryz.ntmps10
      go_wp2
      go_ret
      exact ⟨rfl, Below.refl _ _⟩
end Go.Proofs.YthcggdjkfebemaaGreatDoor

/-
  Plain facts on documents as rows of items, of no program: the kids of an item, the text right below it.
-/
namespace Go.Proofs.YthcggdjkfebemaaGreatDoor
set_option linter.unusedVariables false
/-- The kids of x among the first m items. -/
def kd (D : Dc) (x : Int) : Nat → List Int
  | 0 => []
  | m + 1 => if D.U m = x then kd D x m ++ [(m : Int)] else kd D x m
theorem kd_yes {D : Dc} {x : Int} {m : Nat} (h : D.U m = x) : kd D x (m + 1) = kd D x m ++ [(m : Int)] := by rw [kd, if_pos h]
theorem kd_no {D : Dc} {x : Int} {m : Nat} (h : ¬ D.U m = x) : kd D x (m + 1) = kd D x m := by rw [kd, if_neg h]
theorem kd_len (D : Dc) (x : Int) : ∀ m, (kd D x m).length ≤ m
  | 0 => Nat.le_refl _
  | m + 1 => by
    have := kd_len D x m
    rw [kd]
    split
    · simp; omega
    · omega
theorem kd_mem {D : Dc} {x : Int} : ∀ (m : Nat) (j : Int), j ∈ kd D x m → 0 ≤ j ∧ j < m
  | 0, j, h => by cases h
  | m + 1, j, h => by
    rw [kd] at h
    split at h
    · rcases List.mem_append.1 h with h | h
      · have := kd_mem m j h; omega
      · simp at h; omega
    · have := kd_mem m j h; omega
/-- None of the items up to x is below x. -/
theorem kd_start {D : Dc} {x : Nat} (hd : ∀ j, j ≤ x → D.U j < j) : ∀ m, m ≤ x + 1 → kd D x m = []
  | 0, h => rfl
  | m + 1, h => by
    have := hd m (by omega)
    rw [kd_no (by omega), kd_start hd m (by omega)]
/-- The text right below x among the first m items. -/
def txF (D : Dc) (x : Int) : Nat → ByteArray
  | 0 => ⟨#[]⟩
  | m + 1 => if D.U m = x then txF D x m ++ D.TX m else txF D x m
theorem txF_yes {D : Dc} {x : Int} {m : Nat} (h : D.U m = x) : txF D x (m + 1) = txF D x m ++ D.TX m := by rw [txF, if_pos h]
theorem txF_no {D : Dc} {x : Int} {m : Nat} (h : ¬ D.U m = x) : txF D x (m + 1) = txF D x m := by rw [txF, if_neg h]
theorem txF_size (D : Dc) (x : Int) : ∀ m, (txF D x m).size ≤ sumN (szD D) m
  | 0 => Nat.le_refl _
  | m + 1 => by
    have := txF_size D x m
    have h2 : sumN (szD D) (m + 1) = sumN (szD D) m + szD D m := rfl
    have h3 : (D.TX m).size ≤ szD D m := by unfold szD; omega
    rw [txF]
    split
    · rw [ByteArray.size_append]; omega
    · omega
/-- The texts of some places, one behind the other. -/
def catT (D : Dc) : List Int → ByteArray
  | [] => ⟨#[]⟩
  | j :: l => D.TX j.toNat ++ catT D l
theorem catT_snoc (D : Dc) : ∀ (l : List Int) (j : Int), catT D (l ++ [j]) = catT D l ++ D.TX j.toNat
  | [], j => by show D.TX j.toNat ++ ByteArray.empty = ByteArray.empty ++ D.TX j.toNat; rw [ByteArray.append_empty, ByteArray.empty_append]
  | i :: l, j => by show D.TX i.toNat ++ catT D (l ++ [j]) = D.TX i.toNat ++ catT D l ++ D.TX j.toNat; rw [catT_snoc D l j, ByteArray.append_assoc]
theorem cat_kd (D : Dc) (x : Int) : ∀ m, catT D (kd D x m) = txF D x m
  | 0 => rfl
  | m + 1 => by
    rw [kd, txF]
    split
    · rw [catT_snoc, cat_kd D x m]; rfl
    · exact cat_kd D x m
theorem docok_facts {D : Dc} (h : docokB D = true) : (1 ≤ D.n ∧ D.n ≤ 200) ∧ (∀ j, j < D.n → itB D j = true) ∧ sumN (szD D) D.n ≤ 2500 := by
  unfold docokB at h
  simp only [Bool.and_eq_true, decide_eq_true_eq, List.all_eq_true, List.mem_range] at h
  exact ⟨h.1, h.2.1, h.2.2⟩
theorem docok_dec {D : Dc} (h : docokB D = true) : ∀ j, j < D.n → -1 ≤ D.U j ∧ D.U j < j := good_dec D.n (itB_good (docok_facts h).2.1)
def txOk (D : Dc) (x : Int) : Bool := docokB D && (decide (0 ≤ x ∧ x ≤ (D.n : Int) - 1) && !(D.NM x.toNat).toList.isEmpty)
def txV (D : Dc) (x : Int) : ByteArray := if txOk D x = true then txF D x D.n else ⟨#[]⟩
end Go.Proofs.YthcggdjkfebemaaGreatDoor
