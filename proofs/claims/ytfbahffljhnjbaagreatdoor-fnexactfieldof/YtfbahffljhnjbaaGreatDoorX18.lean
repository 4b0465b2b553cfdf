/-
  Contract: the program's look at an item's place, when those ahead of it are right.
-/
import Derived.Test.YtfbahffljhnjbaaGreatDoorX17
namespace Go.Proofs.YtfbahffljhnjbaaGreatDoor
open Go.RowKit Go.Joins
set_option linter.unusedVariables false
set_option linter.unusedSimpArgs false
theorem two_below {w : World} (o1 o2 : Obj) : Below w.heap.size w ((w.alloc o1).alloc o2) := ((Below.refl _ _).alloc (Nat.le_refl _) _).alloc (by simp) _
theorem place_val {D : Dc} {i : Nat} (h0 : i ≠ 0) (h1 : dupB D i = false) (h2 : rc D.U (D.U i) (stI D i) = true) : placeB D i = decide ((dp D.U (D.U i) : Int) < 20) := by
  by_cases h : dp D.U (D.U i) < 20
  · rw [place_yes h0 h1 h2 h, decide_eq_true (by omega)]
  · rw [place_no_dp h0 h, decide_eq_false (by omega)]
set_option maxRecDepth 100000 in
set_option maxHeartbeats 4000000 in
theorem i_place0 (D : Dc) (n b off cap : Nat) (w : World) (hD : D.n = n) (hn : n ≤ 200) (hi : 0 < n) (hb : b < w.heap.size) (hr : DcRow w b off D w.heap.size) :
    Calls Tryz.prog 82 #[.slice (some ⟨b, off, none⟩) n cap, .int .i64 (0 : Nat)] w fun e w' => e = .returned (.bool (placeB D 0)) ∧ Below w.heap.size w w' := by
  obtain ⟨ad, cp, ⟨c0, c1, c2, c3⟩, -⟩ := hr 0 (by omega)
  simp only [Nat.zero_mul, Nat.add_zero] at c0 c1 c2 c3
  obtain ⟨u, hu⟩ : ∃ u, D.U 0 = u := ⟨_, rfl⟩
  obtain ⟨nm, hnm⟩ : ∃ u, D.NM 0 = u := ⟨_, rfl⟩
  have HV : Hid (placeB D 0 = ((u == -1) && !(nm.toList.isEmpty))) := hide (by unfold placeB; rw [if_pos rfl, hu, hnm]; rfl)
  rw [hu] at c0
  rw [hnm] at c1
  have hn0 : (0 : Int) < (n : Int) := by omega
  clear hr hu hnm hD
  go_enter Tryz.func82, Tryz.ntmps82
  go_wp2
  all_goals
    go_ret
    exact ⟨ret_bool (by rw [HV.out]; simp_all), (Below.refl _ _).alloc (Nat.le_refl _) _⟩
set_option maxRecDepth 100000 in
set_option maxHeartbeats 4000000 in
theorem i_place1 (D : Dc) (n b off cap : Nat) (w : World) (i : Nat) (h0 : i ≠ 0) (hD : D.n = n) (hn : n ≤ 200) (hi : i < n) (hb : b < w.heap.size) (hr : DcRow w b off D w.heap.size) (hG : Good D i) :
    Calls Tryz.prog 82 #[.slice (some ⟨b, off, none⟩) n cap, .int .i64 i] w fun e w' => e = .returned (.bool (placeB D i)) ∧ Below w.heap.size w w' := by
  obtain ⟨ad, cp, ⟨c0, c1, c2, c3⟩, -⟩ := hr i (by omega)
  obtain ⟨ad1, cp1, ⟨p0, p1, p2, p3⟩, -⟩ := hr (i - 1) (by omega)
  have hst := st_le h0 hG
  have HST := hide hst
  have HDEC := hide (good_dec i hG)
  have hdu : dupB D i = ((D.NM (i - 1)).toList.isEmpty && ((D.NM i).toList.isEmpty && (D.U (i - 1) == D.U i))) := rfl
  have hsv : stI D i = if (D.NM (i - 1)).toList.isEmpty = true then D.U (i - 1) else (i : Int) - 1 := rfl
  obtain ⟨lu, hlu⟩ : ∃ u, D.U (i - 1) = u := ⟨_, rfl⟩
  obtain ⟨ln, hln⟩ : ∃ u, D.NM (i - 1) = u := ⟨_, rfl⟩
  obtain ⟨nm, hnm⟩ : ∃ u, D.NM i = u := ⟨_, rfl⟩
  obtain ⟨u, hu⟩ : ∃ u, D.U i = u := ⟨_, rfl⟩
  obtain ⟨R, hR⟩ : ∃ R, rc D.U u (stI D i) = R := ⟨_, rfl⟩
  have HU := hide hu
  have HRR := hide hR
  have HH0 := hide h0
  have HNN := hide (fun h => place_no_rc (D := D) (i := i) h0 h)
  have HVV := hide (fun h1 h2 => place_val (D := D) (i := i) h0 h1 h2)
  rw [hu, hR] at HNN HVV
  rw [hlu] at p0 hdu hsv
  rw [hln] at p1 hdu hsv
  rw [hnm] at c1 hdu
  rw [hu] at c0 hdu
  have hin : (i : Int) < (n : Int) := by omega
  have hi1 : (1 : Int) ≤ (i : Int) := by omega
  have hi2 : (i : Int) - 1 < (n : Int) := by omega
  have hi3 : ((i : Int) - 1).toNat = i - 1 := by omega
  have hi4 : ((i : Int) == 0) = false := by simp; omega
  have HR2 := hide (fun (o1 o2 : Obj) => dcRow_go hr hb (two_below (w := w) o1 o2))
  have HD := hide hD
  have HGG := hide hG
  clear hr hu hnm hlu hln hR hG hD
  by_cases hdup : dupB D i = true
  · have hv := hide (place_no_dup HH0.out hdup)
    rw [hdu] at hdup
    simp only [Bool.and_eq_true] at hdup
    obtain ⟨e1, e2, e3⟩ := hdup
    have e4 : lu = u := by simpa using e3
    subst e4
    clear hdu hsv e3
    go_enter Tryz.func82, Tryz.ntmps82
    go_wp2
    go_ret
    exact ⟨ret_bool hv.out.symm, two_below _ _⟩
  · have hdup2 : dupB D i = false := by simpa using hdup
    have HDF := hide hdup2
    rw [hdu] at hdup2
    have hcases : (ln.toList.isEmpty = false ∧ Hid (stI D i = (i : Int) - 1)) ∨ (ln.toList.isEmpty = true ∧ nm.toList.isEmpty = false ∧ Hid (stI D i = lu)) ∨ (ln.toList.isEmpty = true ∧ nm.toList.isEmpty = true ∧ (lu == u) = false ∧ Hid (stI D i = lu)) := by
      cases q1 : ln.toList.isEmpty with
      | false => rw [q1, if_neg (by decide)] at hsv; exact .inl ⟨rfl, hsv⟩
      | true =>
        rw [q1, if_pos rfl] at hsv
        cases q2 : nm.toList.isEmpty with
        | false => exact .inr (.inl ⟨rfl, rfl, hsv⟩)
        | true => rw [q1, q2] at hdup2; exact .inr (.inr ⟨rfl, rfl, by simpa using hdup2, hsv⟩)
    clear hdu hsv hdup hdup2
    rcases hcases with ⟨e1, HS⟩ | ⟨e1, e2, HS⟩ | ⟨e1, e2, e3, HS⟩
    all_goals
      go_enter Tryz.func82, Tryz.ntmps82
      go_wp2
      go_loop [7] (fun v => ∃ a : Int, v = .int .i64 a ∧ -1 ≤ a ∧ a ≤ (i : Int) - 1 ∧ Hid (rc D.U u a = R)) (fun v => (intOf v + 1).toNat)
      case atStart => exact ⟨_, rfl, by have := HST.out; rw [HS.out] at this; omega, by have := HST.out; rw [HS.out] at this; omega, by have := HRR.out; rw [HS.out] at this; exact this⟩
      case round =>
        obtain ⟨a, rfl, ha0, ha1, HA⟩ := hrel
        by_cases h9 : 0 ≤ a
        · have ha2 : (a != -1) = true := by simp; omega
          by_cases h8 : a = u
          · subst h8
            have HRT : Hid (R = true) := hide (by rw [← HA.out]; exact rc_hit D.U a h9 rfl)
            have hv := hide (HVV.out HDF.out HRT.out)
            have CC := hide (i_count D n b off cap ((w.alloc (.cells #[.int .i64 a, .string nm, .string (D.TX i), .slice ad (D.AC i) cp] 66)).alloc (.cells #[.int .i64 lu, .string ln, .string (D.TX (i - 1)), .slice ad1 (D.AC (i - 1)) cp1] 66)) 0 a nm (D.TX i) ad (D.AC i) cp HD.out hn ⟨ha0, by omega⟩ (by simp; omega) (dcRow_up (HR2.out _ _) (by simp; omega)) (fun j hj => HDEC.out j (by omega)))
            go_wp2_with (go_at_call 116; refine CC.out.mono ?_; rintro e w3 ⟨rfl, hb3⟩; have HB3 := hide ((two_below _ _).trans (hb3.mono (by simp; omega))); clear hb3)
            go_ret
            exact ⟨ret_bool (by rw [hv.out]), HB3.out⟩
          · have ha3 : (a != u) = true := by simpa using h8
            obtain ⟨ad9, cp9, ⟨g0, -⟩, -⟩ := HR2.out (.cells #[.int .i64 u, .string nm, .string (D.TX i), .slice ad (D.AC i) cp] 66) (.cells #[.int .i64 lu, .string ln, .string (D.TX (i - 1)), .slice ad1 (D.AC (i - 1)) cp1] 66) a.toNat (by rw [HD.out]; omega)
            obtain ⟨d1, d2⟩ := HDEC.out a.toNat (by omega)
            have HS9 : Hid (rc D.U u a = rc D.U u (D.U a.toNat)) := hide (rc_step D.U u h9 h8 (fun j hj => (HDEC.out j (by omega)).2))
            obtain ⟨v, hv⟩ : ∃ v, D.U a.toNat = v := ⟨_, rfl⟩
            rw [hv] at g0 d1 d2 HS9
            have han : a < (n : Int) := by omega
            clear hv
            go_wp2
            go_round
            case rel => exact ⟨v, rfl, d1, by omega, by rw [← HS9.out]; exact HA.out⟩
            case measure => simp [intOf]; omega
        · have ha9 : a = -1 := by omega
          subst ha9
          have HRF : Hid (R = false) := hide (by rw [← HA.out]; exact rc_neg D.U u (by omega))
          have hv := hide (HNN.out HRF.out)
          go_wp2
          go_ret
          exact ⟨ret_bool hv.out.symm, two_below _ _⟩
theorem i_place (D : Dc) (n b off cap : Nat) (w : World) (i : Nat) (hD : D.n = n) (hn : n ≤ 200) (hi : i < n) (hb : b < w.heap.size) (hr : DcRow w b off D w.heap.size) (hG : Good D i) :
    Calls Tryz.prog 82 #[.slice (some ⟨b, off, none⟩) n cap, .int .i64 i] w fun e w' => e = .returned (.bool (placeB D i)) ∧ Below w.heap.size w w' := by
  by_cases h0 : i = 0
  · subst h0; exact i_place0 D n b off cap w hD hn hi hb hr
  · exact i_place1 D n b off cap w i h0 hD hn hi hb hr hG
end Go.Proofs.YtfbahffljhnjbaaGreatDoor
