/-
  Contract: the program's reading of a zone.
-/
import Derived.Test.YtaigicdoepdhnaaDoorRdI
import Derived.Test.YtaigicdoepdhnaaDoorRdZMath
import Derived.Deep.RegionWith
namespace Go.Proofs.YtaigicdoepdhnaaDoor
open Go.RowKit
set_option linter.unusedSimpArgs false
set_option linter.unusedVariables false
theorem i_shapeT (s : ByteArray) (w : World) (hs : s.size ≤ maxLen) (h : shB s p5 = true) : Calls Tryd.prog 17 #[.string s, .string ⟨#[48, 48, 58, 48, 48]⟩] w fun e w' => e = .returned (.bool true) ∧ ∃ n, w' = w.drewN n := by
  have q := i_shape s p5 w hs (by decide)
  rw [h] at q; exact q
theorem i_shapeF (s : ByteArray) (w : World) (hs : s.size ≤ maxLen) (h : shB s p5 = false) : Calls Tryd.prog 17 #[.string s, .string ⟨#[48, 48, 58, 48, 48]⟩] w fun e w' => e = .returned (.bool false) ∧ ∃ n, w' = w.drewN n := by
  have q := i_shape s p5 w hs (by decide)
  rw [h] at q; exact q
theorem isE {t : ByteArray} (h : 0 < t.size) : t.toList.isEmpty = false := by
  rw [Go.ByteArray.toList_eq]
  have : 0 < t.data.toList.length := by simpa using h
  cases e : t.data.toList with
  | nil => rw [e] at this; simp at this
  | cons _ _ => rfl
theorem isE0 {t : ByteArray} (h : t.size = 0) : t.toList.isEmpty = true := by
  have hse : t = ByteArray.empty := ByteArray.size_eq_zero_iff.1 h
  subst hse; rw [Go.ByteArray.toList_eq]; rfl
theorem isZ {t : ByteArray} (h : ¬ t = ⟨#[90]⟩) : (t.toList == [90]) = false := by
  rw [Go.ByteArray.toList_eq, beq_eq_false_iff_ne]
  intro e
  apply h
  cases t with
  | mk a => cases a with
    | mk l => simp at e; subst e; rfl
theorem isZ1 {t : ByteArray} (h : t = ⟨#[90]⟩) : (t.toList == [90]) = true := by
  subst h; rw [Go.ByteArray.toList_eq]; rfl
set_option maxHeartbeats 4000000 in
theorem i_zoneR (t : ByteArray) (w : World) (hs : t.size ≤ 1048576) : Calls Tryd.prog 18 #[.string t] w fun e w' => e = .returned (.tuple #[.bool (zI t).1, .int .i64 (zI t).2.1, .bool (zI t).2.2]) ∧ ∃ n, w' = w.drewN n := by
  by_cases h0 : t.size = 0
  · have he := isE0 h0
    have HV := hide (show zI t = (false, 0, true) by simp [zI, h0])
    clear h0
    go_enter Tryd.func18, Tryd.ntmps18
    go_wp2
    exact bodyPost_ret (v := .tuple #[.bool false, .int .i64 0, .bool true]) (by simp [results, Tryd.results18, go_sem]) rfl ⟨by rw [HV.out], 0, rfl⟩
  · have h1 : 0 < t.size := by omega
    have he := isE h1
    by_cases hz : t = ⟨#[90]⟩
    · have hzb := isZ1 hz
      have HV := hide (show zI t = (true, 0, true) by unfold zI; rw [if_neg h0, if_pos hz])
      clear hz
      go_enter Tryd.func18, Tryd.ntmps18
      go_wp2
      exact bodyPost_ret (v := .tuple #[.bool true, .int .i64 0, .bool true]) (by simp [results, Tryd.results18, go_sem]) rfl ⟨by rw [HV.out], 0, rfl⟩
    · have hzb := isZ hz
      have h1i : (1 : Int) ≤ (t.size : Int) := by omega
      have ha := at8_eq t 0 h1
      have HA := hide ha
      obtain ⟨r, hr⟩ : ∃ r, t.extract 1 t.size = r := ⟨_, rfl⟩
      have hrs : r.size ≤ 1048576 := by rw [← hr]; simp; omega
      have HRS : Hid (r.size ≤ maxLen) := hide (by unfold maxLen; omega)
      by_cases hsg : at8 t 0 = 43 ∨ at8 t 0 = 45
      · cases hsh : shB r p5
        · have HV := hide (show zI t = (false, 0, false) by unfold zI; rw [if_neg h0, if_neg hz, hr, if_neg (by rw [hsh]; simp)])
          rw [ha] at hsg
          clear hz ha
          rcases hsg with hsg | hsg
          all_goals
            go_enter Tryd.func18, Tryd.ntmps18
            go_wp2_with fail
            go_quiet (fail)
            go_wp2_with (go_at_call 17; refine (i_shapeF _ _ HRS.out hsh).mono ?_; rintro e w' ⟨rfl, n, rfl⟩)
            exact bodyPost_ret (v := .tuple #[.bool false, .int .i64 0, .bool false]) (by simp [results, Tryd.results18, go_sem]) rfl ⟨by rw [HV.out], _, by first | rfl | rw [World.drewN_drewN]⟩
        · obtain ⟨r5, rd1, rd2, _⟩ := sh5 hsh
          obtain ⟨x1, hx1⟩ : ∃ x, r.extract 0 2 = x := ⟨_, rfl⟩
          obtain ⟨x2, hx2⟩ : ∃ x, r.extract 3 5 = x := ⟨_, rfl⟩
          have sx1 : x1.size = 2 := by rw [← hx1, ext_size r 0 2 (by omega)]
          have sx2 : x2.size = 2 := by rw [← hx2, ext_size r 3 5 (by omega)]
          rw [hx1] at rd1
          rw [hx2] at rd2
          have b1 := num2_bd rd1 sx1
          have b2 := num2_bd rd2 sx2
          have HD1 := hide rd1
          have HD2 := hide rd2
          have HX1 : Hid (x1.size ≤ 4) := hide (by omega)
          have HX2 : Hid (x2.size ≤ 4) := hide (by omega)
          have r5i : (5 : Int) ≤ (r.size : Int) := by omega
          have r2i : (2 : Int) ≤ (r.size : Int) := by omega
          have HV0 := hide (show zI t = (if 59 < numB x2 then (false, 0, false) else (true, if at8 t 0 = 45 then -(numB x1 * 60 + numB x2) else numB x1 * 60 + numB x2, true)) by unfold zI; rw [if_neg h0, if_neg hz, hr, if_pos ⟨hsg, hsh⟩, hx1, hx2])
          clear hz rd1 rd2 sx1 sx2
          by_cases h59 : 59 < numB x2
          · have HV := hide (show zI t = (false, 0, false) by rw [HV0.out, if_pos h59])
            rw [ha] at hsg
            clear ha r5
            rcases hsg with hsg | hsg
            all_goals
              go_enter Tryd.func18, Tryd.ntmps18
              go_wp2_with fail
              go_quiet (fail)
              go_wp2_with (first | (go_at_call 17; refine (i_shapeT _ _ HRS.out hsh).mono ?_; rintro e w' ⟨rfl, n, rfl⟩) | (go_at_call 19; refine (i_num _ _ HX2.out HD2.out).mono ?_; rintro e w' ⟨rfl, rfl⟩))
              exact bodyPost_ret (v := .tuple #[.bool false, .int .i64 0, .bool false]) (by simp [results, Tryd.results18, go_sem]) rfl ⟨by rw [HV.out], _, by first | rfl | rw [World.drewN_drewN]⟩
          · by_cases h45 : at8 t 0 = 45
            · have HV := hide (show zI t = (true, -(numB x1 * 60 + numB x2), true) by rw [HV0.out, if_neg h59, if_pos h45])
              rw [ha] at h45
              clear ha hsg r5
              go_enter Tryd.func18, Tryd.ntmps18
              go_wp2_with fail
              go_quiet (fail)
              go_wp2_with (first | (go_at_call 17; refine (i_shapeT _ _ HRS.out hsh).mono ?_; rintro e w' ⟨rfl, n, rfl⟩) | (go_at_call_of 19 (Value.string x2); refine (i_num x2 _ HX2.out HD2.out).mono ?_; rintro e w' ⟨rfl, rfl⟩) | (go_at_call_of 19 (Value.string x1); refine (i_num x1 _ HX1.out HD1.out).mono ?_; rintro e w' ⟨rfl, rfl⟩))
              exact bodyPost_ret (v := .tuple #[.bool true, .int .i64 (-(numB x1 * 60 + numB x2)), .bool true]) (by simp [results, Tryd.results18, go_sem]) rfl ⟨by rw [HV.out], _, by first | rfl | rw [World.drewN_drewN]⟩
            · have h43 : at8 t 0 = 43 := by omega
              have HV := hide (show zI t = (true, numB x1 * 60 + numB x2, true) by rw [HV0.out, if_neg h59, if_neg h45])
              rw [ha] at h43
              clear ha hsg h45 r5
              go_enter Tryd.func18, Tryd.ntmps18
              go_wp2_with fail
              go_quiet (fail)
              go_wp2_with (first | (go_at_call 17; refine (i_shapeT _ _ HRS.out hsh).mono ?_; rintro e w' ⟨rfl, n, rfl⟩) | (go_at_call_of 19 (Value.string x2); refine (i_num x2 _ HX2.out HD2.out).mono ?_; rintro e w' ⟨rfl, rfl⟩) | (go_at_call_of 19 (Value.string x1); refine (i_num x1 _ HX1.out HD1.out).mono ?_; rintro e w' ⟨rfl, rfl⟩))
              exact bodyPost_ret (v := .tuple #[.bool true, .int .i64 (numB x1 * 60 + numB x2), .bool true]) (by simp [results, Tryd.results18, go_sem]) rfl ⟨by rw [HV.out], _, by first | rfl | rw [World.drewN_drewN]⟩
      · have HV := hide (show zI t = (false, 0, false) by unfold zI; rw [if_neg h0, if_neg hz, if_neg (fun q => hsg q.1)])
        have g1 : ((t[0].toNat : Int) != 43) = true := by rw [← ha]; simp; omega
        have g2 : ((t[0].toNat : Int) != 45) = true := by rw [← ha]; simp; omega
        clear hz ha hsg
        go_enter Tryd.func18, Tryd.ntmps18
        go_wp2_with fail
        go_quiet (fail)
        go_wp2
        exact bodyPost_ret (v := .tuple #[.bool false, .int .i64 0, .bool false]) (by simp [results, Tryd.results18, go_sem]) rfl ⟨by rw [HV.out], _, by first | rfl | rw [World.drewN_drewN]⟩
end Go.Proofs.YtaigicdoepdhnaaDoor
