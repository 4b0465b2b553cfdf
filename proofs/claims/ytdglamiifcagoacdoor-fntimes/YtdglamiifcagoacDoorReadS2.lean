/-
  Contract: the specification's ReadDec.
-/
import Derived.Test.YtdglamiifcagoacDoorNormS
import Derived.Test.YtdglamiifcagoacDoorReadMath
namespace Go.Proofs.YtdglamiifcagoacDoor
open Go.RowKit
set_option linter.unusedSimpArgs false
set_option linter.unusedVariables false
theorem res1_heap {w w1 : World} {xs : Array Value} {T : TypeId} (h : Below (w.alloc (.cells xs T)).heap.size (w.alloc (.cells xs T)) w1) : w1.heap[w.heap.size]? = some (.cells xs T (0, 0)) := by
  rw [h.block w.heap.size (by simp)]; exact heap_alloc_new w _
theorem res1_frozen {w w1 : World} {xs : Array Value} {T : TypeId} (h : Below (w.alloc (.cells xs T)).heap.size (w.alloc (.cells xs T)) w1) :
    w1.frozen? ⟨w.heap.size, 0, none⟩ = false ∧ w1.frozen? ⟨w.heap.size, 1, none⟩ = false ∧ w1.frozen? ⟨w.heap.size, 2, none⟩ = false :=
  ⟨frozen_of_row _ w.heap.size 0 _ T (res1_heap h), frozen_of_row _ w.heap.size 1 _ T (res1_heap h), frozen_of_row _ w.heap.size 2 _ T (res1_heap h)⟩
theorem res1_done {w w1 : World} {a b c : Value} {T : TypeId} (h : Below (w.alloc (.cells #[a, b, c] T)).heap.size (w.alloc (.cells #[a, b, c] T)) w1) (x y z : Value) :
    (((w1.setCell ⟨w.heap.size, 0, none⟩ x).setCell ⟨w.heap.size, 1, none⟩ y).setCell ⟨w.heap.size, 2, none⟩ z).cell? ⟨w.heap.size, 0, none⟩ = some x ∧ (((w1.setCell ⟨w.heap.size, 0, none⟩ x).setCell ⟨w.heap.size, 1, none⟩ y).setCell ⟨w.heap.size, 2, none⟩ z).cell? ⟨w.heap.size, 1, none⟩ = some y ∧ (((w1.setCell ⟨w.heap.size, 0, none⟩ x).setCell ⟨w.heap.size, 1, none⟩ y).setCell ⟨w.heap.size, 2, none⟩ z).cell? ⟨w.heap.size, 2, none⟩ = some z :=
  set_three (res1_heap h) x y z
set_option maxHeartbeats 2000000 in
theorem s_read_m (s : ByteArray) (w : World) (hs : s.size ≤ 1048576) (h0 : 0 < s.size) (h1 : at8 s 0 = 45) : Calls Tryd.prog 32 #[.string s] w fun e w' => e = .returned (resV (readDecA s)) ∧ Below w.heap.size w w' := by
  have e1 : negA s = true := by simp [negA, h0, h1]
  have e2 : restA s = s.extract 1 s.size := by simp [restA, h0, h1]
  rw [at8_eq s 0 h0] at h1
  rw [readDecA, e1, e2]
  obtain ⟨r, hr⟩ : ∃ r, s.extract 1 s.size = r := ⟨_, rfl⟩
  have hrs : r.size ≤ 1048576 := by rw [← hr]; simp; omega
  rw [hr]
  clear e1 e2
  go_enter Tryd.func32, Tryd.ntmps32
  go_wp2
  go_loop [5] (fun vi => ∃ k : Nat, vi = .int .i64 k ∧ k ≤ r.size ∧ Hid (∀ j, j < k → r.data.toList[j]? ≠ some 46)) (fun vi => r.size - (intOf vi).toNat)
  case atStart => exact ⟨0, rfl, Nat.zero_le _, hide (fun j h => by omega)⟩
  case round =>
    obtain ⟨k, rfl, hk, HN⟩ := hrel
    rcases (show k = r.size ∨ k < r.size by omega) with hks | hks
    · have HDOT := hide (dotL_is r.data.toList k (by simp; omega) HN.out (.inl (by simp; exact hks)))
      have HW := hide (show wholeA r = r.extract 0 k by rw [wholeA, HDOT.out])
      have HP := hide (show partA r = ⟨#[]⟩ by apply empty_of; simp [partA, HDOT.out]; omega)
      obtain ⟨x, hx⟩ : ∃ x, r.extract 0 k = x := ⟨_, rfl⟩
      have HX := hide (HW.out.trans hx)
      have hki : (k : Int) = (r.size : Int) := by omega
      have HKK := hide hks
      subst hks
      clear HN HW HDOT hki
      have hxs : x.size ≤ 1048576 := by rw [← hx]; simp; omega
      have HYE := HP
      rcases (show 180 < r.size ∨ r.size ≤ 180 by omega) with hbig | hbig
      · have HR := hide (show readA true r = (false, ByteArray.empty, 0, false) by rw [readA, if_pos (by simp [badA, hbig])])
        go_wp2
        exact bodyPost_ret (v := .tuple #[.agg #[.bool false, .string ⟨#[]⟩, .int .i64 0], .bool false]) (by simp [results, Tryd.results32, go_sem]) rfl ⟨by rw [HR.out]; rfl, (Below.refl _ _).alloc (Nat.le_refl _) _⟩
      · cases hdx : digsB x
        · have HR := hide (show readA true r = (false, ByteArray.empty, 0, false) by rw [readA, if_pos (by simp [badA, HX.out, hdx])])
          go_wp2_with (go_at_call 30; refine (s_digs _ _ (by unfold maxLen; omega)).mono ?_; rintro e w9 ⟨rfl, rfl⟩)
          exact bodyPost_ret (v := .tuple #[.agg #[.bool false, .string ⟨#[]⟩, .int .i64 0], .bool false]) (by simp [results, Tryd.results32, go_sem]) rfl ⟨by rw [HR.out]; rfl, (Below.refl _ _).alloc (Nat.le_refl _) _⟩
        · have hdy : digsB (⟨#[]⟩ : ByteArray) = true := rfl
          · have hws := wp_size r
            rw [HX.out, HYE.out] at hws
            obtain ⟨z, hz⟩ : ∃ z, x ++ (⟨#[]⟩ : ByteArray) = z := ⟨_, rfl⟩
            rw [hz] at hws
            have hzs : z.size ≤ 180 := by omega
            have hys : ((⟨#[]⟩ : ByteArray) : ByteArray).size ≤ 180 := by omega
            clear hws
            rcases (show z.size = 0 ∨ 0 < z.size by omega) with hz0 | hz0
            · have HR := hide (show readA true r = (false, ByteArray.empty, 0, false) by rw [readA, if_pos (by simp [badA, HX.out, HYE.out, hz, hz0])])
              have hze := empty_of z hz0
              rw [hze] at hz
              clear hze
              go_wp2_with (go_at_call 30; refine (s_digs _ _ (by unfold maxLen; omega)).mono ?_; rintro e w9 ⟨rfl, rfl⟩)
              exact bodyPost_ret (v := .tuple #[.agg #[.bool false, .string ⟨#[]⟩, .int .i64 0], .bool false]) (by simp [results, Tryd.results32, go_sem]) rfl ⟨by rw [HR.out]; rfl, (Below.refl _ _).alloc (Nat.le_refl _) _⟩
            · have hne := ne_list z hz0
              have hdz : digsB z = true := by rw [← hz, digs_app, hdx, hdy]; rfl
              have hbad : badA r = false := by rw [badA, HX.out, HYE.out, hz, hdx, hdy, decide_eq_false (show ¬ 180 < r.size by omega), decide_eq_false (show ¬ z.size = 0 by omega)]; rfl
              obtain ⟨R, hR⟩ : ∃ R, decRes true (valL z.data.toList) ((⟨#[]⟩ : ByteArray) : ByteArray).size = R := ⟨_, rfl⟩
              have HR := hide (show readA true r = R by rw [readA, if_neg (by rw [hbad]; simp), HX.out, HYE.out, hz, hR])
              have HRR := hide hR
              clear hbad hR
              have HDZ := hide ((digs_iff z).1 hdz)
              go_wp2_with (first | (go_at_call 30; refine (s_digs _ _ (by unfold maxLen; omega)).mono ?_; rintro e w9 ⟨rfl, rfl⟩) | fail)
              refine (s_norm true z _ _ (by omega) HDZ.out (by omega) (by omega)).mono ?_
              rintro e w1 ⟨rfl, hb1⟩
              rw [show decRes true (valL z.data.toList) (0 : Int).toNat = R from HRR.out]
              obtain ⟨n9, s9, c9, o9⟩ := R
              obtain ⟨a0, a1, a2, a3⟩ := boxed_go (boxed_new w false ⟨#[]⟩ 0 _) hb1
              obtain ⟨f0, f1, f2⟩ := res1_frozen hb1
              have HC := hide (res1_done hb1 (.bool n9) (.string s9) (.int .i64 c9))
              have HB := hide (box_below hb1)
              clear hb1 a0
              simp only [resV]
              go_wp2
              obtain ⟨c0, c1, c2⟩ := HC.out
              exact bodyPost_ret (v := .tuple #[.agg #[.bool n9, .string s9, .int .i64 c9], .bool o9]) (by simp [results, Tryd.results32, go_sem, c0, c1, c2]) rfl ⟨by rw [HR.out]; rfl, below_three HB.out _ _ _⟩
    · by_cases hd : (r[k].toNat : Int) = 46
      · have hdd : r[k] = 46 := UInt8.toNat_inj.1 (by show _ = (46 : Nat); omega)
        have HDOT := hide (dotL_is r.data.toList k (by simp; omega) HN.out (.inr (by rw [List.getElem?_eq_getElem (by simpa using hks)]; exact congrArg some hdd)))
        have HW := hide (show wholeA r = r.extract 0 k by rw [wholeA, HDOT.out])
        have HP := hide (show partA r = r.extract (k + 1) r.size by rw [partA, HDOT.out])
        obtain ⟨x, hx⟩ : ∃ x, r.extract 0 k = x := ⟨_, rfl⟩
        obtain ⟨y, hy⟩ : ∃ y, r.extract (k + 1) r.size = y := ⟨_, rfl⟩
        have HX := hide (HW.out.trans hx)
        have HY := hide (HP.out.trans hy)
        clear HN HW HP HDOT hdd
        have hxs : x.size ≤ 1048576 := by rw [← hx]; simp; omega
        have hys0 : y.size ≤ 1048576 := by rw [← hy]; simp; omega
        rcases (show 180 < r.size ∨ r.size ≤ 180 by omega) with hbig | hbig
        · have HR := hide (show readA true r = (false, ByteArray.empty, 0, false) by rw [readA, if_pos (by simp [badA, hbig])])
          go_wp2
          exact bodyPost_ret (v := .tuple #[.agg #[.bool false, .string ⟨#[]⟩, .int .i64 0], .bool false]) (by simp [results, Tryd.results32, go_sem]) rfl ⟨by rw [HR.out]; rfl, (Below.refl _ _).alloc (Nat.le_refl _) _⟩
        · cases hdx : digsB x
          · have HR := hide (show readA true r = (false, ByteArray.empty, 0, false) by rw [readA, if_pos (by simp [badA, HX.out, hdx])])
            go_wp2_with (go_at_call 30; refine (s_digs _ _ (by unfold maxLen; omega)).mono ?_; rintro e w9 ⟨rfl, rfl⟩)
            exact bodyPost_ret (v := .tuple #[.agg #[.bool false, .string ⟨#[]⟩, .int .i64 0], .bool false]) (by simp [results, Tryd.results32, go_sem]) rfl ⟨by rw [HR.out]; rfl, (Below.refl _ _).alloc (Nat.le_refl _) _⟩
          · cases hdy : digsB y
            · have HR := hide (show readA true r = (false, ByteArray.empty, 0, false) by rw [readA, if_pos (by simp [badA, HY.out, hdy])])
              go_wp2_with (go_at_call 30; refine (s_digs _ _ (by unfold maxLen; omega)).mono ?_; rintro e w9 ⟨rfl, rfl⟩)
              exact bodyPost_ret (v := .tuple #[.agg #[.bool false, .string ⟨#[]⟩, .int .i64 0], .bool false]) (by simp [results, Tryd.results32, go_sem]) rfl ⟨by rw [HR.out]; rfl, (Below.refl _ _).alloc (Nat.le_refl _) _⟩
            · have hws := wp_size r
              rw [HX.out, HY.out] at hws
              obtain ⟨z, hz⟩ : ∃ z, x ++ y = z := ⟨_, rfl⟩
              rw [hz] at hws
              have hzs : z.size ≤ 180 := by omega
              have hys : (y : ByteArray).size ≤ 180 := by omega
              clear hws
              rcases (show z.size = 0 ∨ 0 < z.size by omega) with hz0 | hz0
              · have HR := hide (show readA true r = (false, ByteArray.empty, 0, false) by rw [readA, if_pos (by simp [badA, HX.out, HY.out, hz, hz0])])
                have hze := empty_of z hz0
                rw [hze] at hz
                clear hze
                go_wp2_with (go_at_call 30; refine (s_digs _ _ (by unfold maxLen; omega)).mono ?_; rintro e w9 ⟨rfl, rfl⟩)
                exact bodyPost_ret (v := .tuple #[.agg #[.bool false, .string ⟨#[]⟩, .int .i64 0], .bool false]) (by simp [results, Tryd.results32, go_sem]) rfl ⟨by rw [HR.out]; rfl, (Below.refl _ _).alloc (Nat.le_refl _) _⟩
              · have hne := ne_list z hz0
                have hdz : digsB z = true := by rw [← hz, digs_app, hdx, hdy]; rfl
                have hbad : badA r = false := by rw [badA, HX.out, HY.out, hz, hdx, hdy, decide_eq_false (show ¬ 180 < r.size by omega), decide_eq_false (show ¬ z.size = 0 by omega)]; rfl
                obtain ⟨R, hR⟩ : ∃ R, decRes true (valL z.data.toList) (y : ByteArray).size = R := ⟨_, rfl⟩
                have HR := hide (show readA true r = R by rw [readA, if_neg (by rw [hbad]; simp), HX.out, HY.out, hz, hR])
                have HRR := hide hR
                clear hbad hR
                have HDZ := hide ((digs_iff z).1 hdz)
                go_wp2_with (first | (go_at_call 30; refine (s_digs _ _ (by unfold maxLen; omega)).mono ?_; rintro e w9 ⟨rfl, rfl⟩) | fail)
                refine (s_norm true z _ _ (by omega) HDZ.out (by omega) (by omega)).mono ?_
                rintro e w1 ⟨rfl, hb1⟩
                rw [show decRes true (valL z.data.toList) ((y.size : Int)).toNat = R from (by simpa using HRR.out)]
                obtain ⟨n9, s9, c9, o9⟩ := R
                obtain ⟨a0, a1, a2, a3⟩ := boxed_go (boxed_new w false ⟨#[]⟩ 0 _) hb1
                obtain ⟨f0, f1, f2⟩ := res1_frozen hb1
                have HC := hide (res1_done hb1 (.bool n9) (.string s9) (.int .i64 c9))
                have HB := hide (box_below hb1)
                clear hb1 a0
                simp only [resV]
                go_wp2
                obtain ⟨c0, c1, c2⟩ := HC.out
                exact bodyPost_ret (v := .tuple #[.agg #[.bool n9, .string s9, .int .i64 c9], .bool o9]) (by simp [results, Tryd.results32, go_sem, c0, c1, c2]) rfl ⟨by rw [HR.out]; rfl, below_three HB.out _ _ _⟩
      · have hdb : ((r[k].toNat : Int) != 46) = true := by simpa using hd
        have HN2 := hide (show ∀ j, j < k + 1 → r.data.toList[j]? ≠ some 46 from fun j hj => by
          by_cases e : j = k
          · subst e
            rw [List.getElem?_eq_getElem (by simpa using hks)]
            intro h2
            have h3 : r[j] = 46 := Option.some.inj h2
            rw [h3] at hd
            exact hd rfl
          · exact HN.out j (by omega))
        go_wp2
        go_round
        case rel => exact ⟨k + 1, by go_num, by omega, HN2⟩
        case measure => simp [intOf]; omega
set_option maxHeartbeats 2000000 in
theorem s_read_p (s : ByteArray) (w : World) (hs : s.size ≤ 1048576) (h0 : 0 < s.size) (h1 : at8 s 0 = 43) : Calls Tryd.prog 32 #[.string s] w fun e w' => e = .returned (resV (readDecA s)) ∧ Below w.heap.size w w' := by
  have e1 : negA s = false := by simp [negA, h0, h1]
  have e2 : restA s = s.extract 1 s.size := by simp [restA, h0, h1]
  rw [at8_eq s 0 h0] at h1
  rw [readDecA, e1, e2]
  obtain ⟨r, hr⟩ : ∃ r, s.extract 1 s.size = r := ⟨_, rfl⟩
  have hrs : r.size ≤ 1048576 := by rw [← hr]; simp; omega
  rw [hr]
  clear e1 e2
  go_enter Tryd.func32, Tryd.ntmps32
  go_wp2
  go_loop [5] (fun vi => ∃ k : Nat, vi = .int .i64 k ∧ k ≤ r.size ∧ Hid (∀ j, j < k → r.data.toList[j]? ≠ some 46)) (fun vi => r.size - (intOf vi).toNat)
  case atStart => exact ⟨0, rfl, Nat.zero_le _, hide (fun j h => by omega)⟩
  case round =>
    obtain ⟨k, rfl, hk, HN⟩ := hrel
    rcases (show k = r.size ∨ k < r.size by omega) with hks | hks
    · have HDOT := hide (dotL_is r.data.toList k (by simp; omega) HN.out (.inl (by simp; exact hks)))
      have HW := hide (show wholeA r = r.extract 0 k by rw [wholeA, HDOT.out])
      have HP := hide (show partA r = ⟨#[]⟩ by apply empty_of; simp [partA, HDOT.out]; omega)
      obtain ⟨x, hx⟩ : ∃ x, r.extract 0 k = x := ⟨_, rfl⟩
      have HX := hide (HW.out.trans hx)
      have hki : (k : Int) = (r.size : Int) := by omega
      have HKK := hide hks
      subst hks
      clear HN HW HDOT hki
      have hxs : x.size ≤ 1048576 := by rw [← hx]; simp; omega
      have HYE := HP
      rcases (show 180 < r.size ∨ r.size ≤ 180 by omega) with hbig | hbig
      · have HR := hide (show readA false r = (false, ByteArray.empty, 0, false) by rw [readA, if_pos (by simp [badA, hbig])])
        go_wp2
        exact bodyPost_ret (v := .tuple #[.agg #[.bool false, .string ⟨#[]⟩, .int .i64 0], .bool false]) (by simp [results, Tryd.results32, go_sem]) rfl ⟨by rw [HR.out]; rfl, (Below.refl _ _).alloc (Nat.le_refl _) _⟩
      · cases hdx : digsB x
        · have HR := hide (show readA false r = (false, ByteArray.empty, 0, false) by rw [readA, if_pos (by simp [badA, HX.out, hdx])])
          go_wp2_with (go_at_call 30; refine (s_digs _ _ (by unfold maxLen; omega)).mono ?_; rintro e w9 ⟨rfl, rfl⟩)
          exact bodyPost_ret (v := .tuple #[.agg #[.bool false, .string ⟨#[]⟩, .int .i64 0], .bool false]) (by simp [results, Tryd.results32, go_sem]) rfl ⟨by rw [HR.out]; rfl, (Below.refl _ _).alloc (Nat.le_refl _) _⟩
        · have hdy : digsB (⟨#[]⟩ : ByteArray) = true := rfl
          · have hws := wp_size r
            rw [HX.out, HYE.out] at hws
            obtain ⟨z, hz⟩ : ∃ z, x ++ (⟨#[]⟩ : ByteArray) = z := ⟨_, rfl⟩
            rw [hz] at hws
            have hzs : z.size ≤ 180 := by omega
            have hys : ((⟨#[]⟩ : ByteArray) : ByteArray).size ≤ 180 := by omega
            clear hws
            rcases (show z.size = 0 ∨ 0 < z.size by omega) with hz0 | hz0
            · have HR := hide (show readA false r = (false, ByteArray.empty, 0, false) by rw [readA, if_pos (by simp [badA, HX.out, HYE.out, hz, hz0])])
              have hze := empty_of z hz0
              rw [hze] at hz
              clear hze
              go_wp2_with (go_at_call 30; refine (s_digs _ _ (by unfold maxLen; omega)).mono ?_; rintro e w9 ⟨rfl, rfl⟩)
              exact bodyPost_ret (v := .tuple #[.agg #[.bool false, .string ⟨#[]⟩, .int .i64 0], .bool false]) (by simp [results, Tryd.results32, go_sem]) rfl ⟨by rw [HR.out]; rfl, (Below.refl _ _).alloc (Nat.le_refl _) _⟩
            · have hne := ne_list z hz0
              have hdz : digsB z = true := by rw [← hz, digs_app, hdx, hdy]; rfl
              have hbad : badA r = false := by rw [badA, HX.out, HYE.out, hz, hdx, hdy, decide_eq_false (show ¬ 180 < r.size by omega), decide_eq_false (show ¬ z.size = 0 by omega)]; rfl
              obtain ⟨R, hR⟩ : ∃ R, decRes false (valL z.data.toList) ((⟨#[]⟩ : ByteArray) : ByteArray).size = R := ⟨_, rfl⟩
              have HR := hide (show readA false r = R by rw [readA, if_neg (by rw [hbad]; simp), HX.out, HYE.out, hz, hR])
              have HRR := hide hR
              clear hbad hR
              have HDZ := hide ((digs_iff z).1 hdz)
              go_wp2_with (first | (go_at_call 30; refine (s_digs _ _ (by unfold maxLen; omega)).mono ?_; rintro e w9 ⟨rfl, rfl⟩) | fail)
              refine (s_norm false z _ _ (by omega) HDZ.out (by omega) (by omega)).mono ?_
              rintro e w1 ⟨rfl, hb1⟩
              rw [show decRes false (valL z.data.toList) (0 : Int).toNat = R from HRR.out]
              obtain ⟨n9, s9, c9, o9⟩ := R
              obtain ⟨a0, a1, a2, a3⟩ := boxed_go (boxed_new w false ⟨#[]⟩ 0 _) hb1
              obtain ⟨f0, f1, f2⟩ := res1_frozen hb1
              have HC := hide (res1_done hb1 (.bool n9) (.string s9) (.int .i64 c9))
              have HB := hide (box_below hb1)
              clear hb1 a0
              simp only [resV]
              go_wp2
              obtain ⟨c0, c1, c2⟩ := HC.out
              exact bodyPost_ret (v := .tuple #[.agg #[.bool n9, .string s9, .int .i64 c9], .bool o9]) (by simp [results, Tryd.results32, go_sem, c0, c1, c2]) rfl ⟨by rw [HR.out]; rfl, below_three HB.out _ _ _⟩
    · by_cases hd : (r[k].toNat : Int) = 46
      · have hdd : r[k] = 46 := UInt8.toNat_inj.1 (by show _ = (46 : Nat); omega)
        have HDOT := hide (dotL_is r.data.toList k (by simp; omega) HN.out (.inr (by rw [List.getElem?_eq_getElem (by simpa using hks)]; exact congrArg some hdd)))
        have HW := hide (show wholeA r = r.extract 0 k by rw [wholeA, HDOT.out])
        have HP := hide (show partA r = r.extract (k + 1) r.size by rw [partA, HDOT.out])
        obtain ⟨x, hx⟩ : ∃ x, r.extract 0 k = x := ⟨_, rfl⟩
        obtain ⟨y, hy⟩ : ∃ y, r.extract (k + 1) r.size = y := ⟨_, rfl⟩
        have HX := hide (HW.out.trans hx)
        have HY := hide (HP.out.trans hy)
        clear HN HW HP HDOT hdd
        have hxs : x.size ≤ 1048576 := by rw [← hx]; simp; omega
        have hys0 : y.size ≤ 1048576 := by rw [← hy]; simp; omega
        rcases (show 180 < r.size ∨ r.size ≤ 180 by omega) with hbig | hbig
        · have HR := hide (show readA false r = (false, ByteArray.empty, 0, false) by rw [readA, if_pos (by simp [badA, hbig])])
          go_wp2
          exact bodyPost_ret (v := .tuple #[.agg #[.bool false, .string ⟨#[]⟩, .int .i64 0], .bool false]) (by simp [results, Tryd.results32, go_sem]) rfl ⟨by rw [HR.out]; rfl, (Below.refl _ _).alloc (Nat.le_refl _) _⟩
        · cases hdx : digsB x
          · have HR := hide (show readA false r = (false, ByteArray.empty, 0, false) by rw [readA, if_pos (by simp [badA, HX.out, hdx])])
            go_wp2_with (go_at_call 30; refine (s_digs _ _ (by unfold maxLen; omega)).mono ?_; rintro e w9 ⟨rfl, rfl⟩)
            exact bodyPost_ret (v := .tuple #[.agg #[.bool false, .string ⟨#[]⟩, .int .i64 0], .bool false]) (by simp [results, Tryd.results32, go_sem]) rfl ⟨by rw [HR.out]; rfl, (Below.refl _ _).alloc (Nat.le_refl _) _⟩
          · cases hdy : digsB y
            · have HR := hide (show readA false r = (false, ByteArray.empty, 0, false) by rw [readA, if_pos (by simp [badA, HY.out, hdy])])
              go_wp2_with (go_at_call 30; refine (s_digs _ _ (by unfold maxLen; omega)).mono ?_; rintro e w9 ⟨rfl, rfl⟩)
              exact bodyPost_ret (v := .tuple #[.agg #[.bool false, .string ⟨#[]⟩, .int .i64 0], .bool false]) (by simp [results, Tryd.results32, go_sem]) rfl ⟨by rw [HR.out]; rfl, (Below.refl _ _).alloc (Nat.le_refl _) _⟩
            · have hws := wp_size r
              rw [HX.out, HY.out] at hws
              obtain ⟨z, hz⟩ : ∃ z, x ++ y = z := ⟨_, rfl⟩
              rw [hz] at hws
              have hzs : z.size ≤ 180 := by omega
              have hys : (y : ByteArray).size ≤ 180 := by omega
              clear hws
              rcases (show z.size = 0 ∨ 0 < z.size by omega) with hz0 | hz0
              · have HR := hide (show readA false r = (false, ByteArray.empty, 0, false) by rw [readA, if_pos (by simp [badA, HX.out, HY.out, hz, hz0])])
                have hze := empty_of z hz0
                rw [hze] at hz
                clear hze
                go_wp2_with (go_at_call 30; refine (s_digs _ _ (by unfold maxLen; omega)).mono ?_; rintro e w9 ⟨rfl, rfl⟩)
                exact bodyPost_ret (v := .tuple #[.agg #[.bool false, .string ⟨#[]⟩, .int .i64 0], .bool false]) (by simp [results, Tryd.results32, go_sem]) rfl ⟨by rw [HR.out]; rfl, (Below.refl _ _).alloc (Nat.le_refl _) _⟩
              · have hne := ne_list z hz0
                have hdz : digsB z = true := by rw [← hz, digs_app, hdx, hdy]; rfl
                have hbad : badA r = false := by rw [badA, HX.out, HY.out, hz, hdx, hdy, decide_eq_false (show ¬ 180 < r.size by omega), decide_eq_false (show ¬ z.size = 0 by omega)]; rfl
                obtain ⟨R, hR⟩ : ∃ R, decRes false (valL z.data.toList) (y : ByteArray).size = R := ⟨_, rfl⟩
                have HR := hide (show readA false r = R by rw [readA, if_neg (by rw [hbad]; simp), HX.out, HY.out, hz, hR])
                have HRR := hide hR
                clear hbad hR
                have HDZ := hide ((digs_iff z).1 hdz)
                go_wp2_with (first | (go_at_call 30; refine (s_digs _ _ (by unfold maxLen; omega)).mono ?_; rintro e w9 ⟨rfl, rfl⟩) | fail)
                refine (s_norm false z _ _ (by omega) HDZ.out (by omega) (by omega)).mono ?_
                rintro e w1 ⟨rfl, hb1⟩
                rw [show decRes false (valL z.data.toList) ((y.size : Int)).toNat = R from (by simpa using HRR.out)]
                obtain ⟨n9, s9, c9, o9⟩ := R
                obtain ⟨a0, a1, a2, a3⟩ := boxed_go (boxed_new w false ⟨#[]⟩ 0 _) hb1
                obtain ⟨f0, f1, f2⟩ := res1_frozen hb1
                have HC := hide (res1_done hb1 (.bool n9) (.string s9) (.int .i64 c9))
                have HB := hide (box_below hb1)
                clear hb1 a0
                simp only [resV]
                go_wp2
                obtain ⟨c0, c1, c2⟩ := HC.out
                exact bodyPost_ret (v := .tuple #[.agg #[.bool n9, .string s9, .int .i64 c9], .bool o9]) (by simp [results, Tryd.results32, go_sem, c0, c1, c2]) rfl ⟨by rw [HR.out]; rfl, below_three HB.out _ _ _⟩
      · have hdb : ((r[k].toNat : Int) != 46) = true := by simpa using hd
        have HN2 := hide (show ∀ j, j < k + 1 → r.data.toList[j]? ≠ some 46 from fun j hj => by
          by_cases e : j = k
          · subst e
            rw [List.getElem?_eq_getElem (by simpa using hks)]
            intro h2
            have h3 : r[j] = 46 := Option.some.inj h2
            rw [h3] at hd
            exact hd rfl
          · exact HN.out j (by omega))
        go_wp2
        go_round
        case rel => exact ⟨k + 1, by go_num, by omega, HN2⟩
        case measure => simp [intOf]; omega
set_option maxHeartbeats 2000000 in
theorem s_read_o (s : ByteArray) (w : World) (hs : s.size ≤ 1048576) (h0 : 0 < s.size) (h1 : ¬ at8 s 0 = 45) (h2 : ¬ at8 s 0 = 43) : Calls Tryd.prog 32 #[.string s] w fun e w' => e = .returned (resV (readDecA s)) ∧ Below w.heap.size w w' := by
  have e1 : negA s = false := by simp [negA, h1]
  have e2 : restA s = s := by simp [restA, h1, h2]
  rw [at8_eq s 0 h0] at h1 h2
  rw [readDecA, e1, e2]
  clear e1 e2
  obtain ⟨r, rfl⟩ : ∃ r, r = s := ⟨s, rfl⟩
  have hrs : r.size ≤ 1048576 := hs
  have hb1 : ((r[0].toNat : Int) == 45) = false := by simpa using h1
  have hb2 : ((r[0].toNat : Int) == 43) = false := by simpa using h2
  go_enter Tryd.func32, Tryd.ntmps32
  go_wp2
  go_loop [5] (fun vi => ∃ k : Nat, vi = .int .i64 k ∧ k ≤ r.size ∧ Hid (∀ j, j < k → r.data.toList[j]? ≠ some 46)) (fun vi => r.size - (intOf vi).toNat)
  case atStart => exact ⟨0, rfl, Nat.zero_le _, hide (fun j h => by omega)⟩
  case round =>
    obtain ⟨k, rfl, hk, HN⟩ := hrel
    rcases (show k = r.size ∨ k < r.size by omega) with hks | hks
    · have HDOT := hide (dotL_is r.data.toList k (by simp; omega) HN.out (.inl (by simp; exact hks)))
      have HW := hide (show wholeA r = r.extract 0 k by rw [wholeA, HDOT.out])
      have HP := hide (show partA r = ⟨#[]⟩ by apply empty_of; simp [partA, HDOT.out]; omega)
      obtain ⟨x, hx⟩ : ∃ x, r.extract 0 k = x := ⟨_, rfl⟩
      have HX := hide (HW.out.trans hx)
      have hki : (k : Int) = (r.size : Int) := by omega
      have HKK := hide hks
      subst hks
      clear HN HW HDOT hki
      have hxs : x.size ≤ 1048576 := by rw [← hx]; simp; omega
      have HYE := HP
      rcases (show 180 < r.size ∨ r.size ≤ 180 by omega) with hbig | hbig
      · have HR := hide (show readA false r = (false, ByteArray.empty, 0, false) by rw [readA, if_pos (by simp [badA, hbig])])
        go_wp2
        exact bodyPost_ret (v := .tuple #[.agg #[.bool false, .string ⟨#[]⟩, .int .i64 0], .bool false]) (by simp [results, Tryd.results32, go_sem]) rfl ⟨by rw [HR.out]; rfl, (Below.refl _ _).alloc (Nat.le_refl _) _⟩
      · cases hdx : digsB x
        · have HR := hide (show readA false r = (false, ByteArray.empty, 0, false) by rw [readA, if_pos (by simp [badA, HX.out, hdx])])
          go_wp2_with (go_at_call 30; refine (s_digs _ _ (by unfold maxLen; omega)).mono ?_; rintro e w9 ⟨rfl, rfl⟩)
          exact bodyPost_ret (v := .tuple #[.agg #[.bool false, .string ⟨#[]⟩, .int .i64 0], .bool false]) (by simp [results, Tryd.results32, go_sem]) rfl ⟨by rw [HR.out]; rfl, (Below.refl _ _).alloc (Nat.le_refl _) _⟩
        · have hdy : digsB (⟨#[]⟩ : ByteArray) = true := rfl
          · have hws := wp_size r
            rw [HX.out, HYE.out] at hws
            obtain ⟨z, hz⟩ : ∃ z, x ++ (⟨#[]⟩ : ByteArray) = z := ⟨_, rfl⟩
            rw [hz] at hws
            have hzs : z.size ≤ 180 := by omega
            have hys : ((⟨#[]⟩ : ByteArray) : ByteArray).size ≤ 180 := by omega
            clear hws
            rcases (show z.size = 0 ∨ 0 < z.size by omega) with hz0 | hz0
            · have HR := hide (show readA false r = (false, ByteArray.empty, 0, false) by rw [readA, if_pos (by simp [badA, HX.out, HYE.out, hz, hz0])])
              have hze := empty_of z hz0
              rw [hze] at hz
              clear hze
              go_wp2_with (go_at_call 30; refine (s_digs _ _ (by unfold maxLen; omega)).mono ?_; rintro e w9 ⟨rfl, rfl⟩)
              exact bodyPost_ret (v := .tuple #[.agg #[.bool false, .string ⟨#[]⟩, .int .i64 0], .bool false]) (by simp [results, Tryd.results32, go_sem]) rfl ⟨by rw [HR.out]; rfl, (Below.refl _ _).alloc (Nat.le_refl _) _⟩
            · have hne := ne_list z hz0
              have hdz : digsB z = true := by rw [← hz, digs_app, hdx, hdy]; rfl
              have hbad : badA r = false := by rw [badA, HX.out, HYE.out, hz, hdx, hdy, decide_eq_false (show ¬ 180 < r.size by omega), decide_eq_false (show ¬ z.size = 0 by omega)]; rfl
              obtain ⟨R, hR⟩ : ∃ R, decRes false (valL z.data.toList) ((⟨#[]⟩ : ByteArray) : ByteArray).size = R := ⟨_, rfl⟩
              have HR := hide (show readA false r = R by rw [readA, if_neg (by rw [hbad]; simp), HX.out, HYE.out, hz, hR])
              have HRR := hide hR
              clear hbad hR
              have HDZ := hide ((digs_iff z).1 hdz)
              go_wp2_with (first | (go_at_call 30; refine (s_digs _ _ (by unfold maxLen; omega)).mono ?_; rintro e w9 ⟨rfl, rfl⟩) | fail)
              refine (s_norm false z _ _ (by omega) HDZ.out (by omega) (by omega)).mono ?_
              rintro e w1 ⟨rfl, hb1⟩
              rw [show decRes false (valL z.data.toList) (0 : Int).toNat = R from HRR.out]
              obtain ⟨n9, s9, c9, o9⟩ := R
              obtain ⟨a0, a1, a2, a3⟩ := boxed_go (boxed_new w false ⟨#[]⟩ 0 _) hb1
              obtain ⟨f0, f1, f2⟩ := res1_frozen hb1
              have HC := hide (res1_done hb1 (.bool n9) (.string s9) (.int .i64 c9))
              have HB := hide (box_below hb1)
              clear hb1 a0
              simp only [resV]
              go_wp2
              obtain ⟨c0, c1, c2⟩ := HC.out
              exact bodyPost_ret (v := .tuple #[.agg #[.bool n9, .string s9, .int .i64 c9], .bool o9]) (by simp [results, Tryd.results32, go_sem, c0, c1, c2]) rfl ⟨by rw [HR.out]; rfl, below_three HB.out _ _ _⟩
    · by_cases hd : (r[k].toNat : Int) = 46
      · have hdd : r[k] = 46 := UInt8.toNat_inj.1 (by show _ = (46 : Nat); omega)
        have HDOT := hide (dotL_is r.data.toList k (by simp; omega) HN.out (.inr (by rw [List.getElem?_eq_getElem (by simpa using hks)]; exact congrArg some hdd)))
        have HW := hide (show wholeA r = r.extract 0 k by rw [wholeA, HDOT.out])
        have HP := hide (show partA r = r.extract (k + 1) r.size by rw [partA, HDOT.out])
        obtain ⟨x, hx⟩ : ∃ x, r.extract 0 k = x := ⟨_, rfl⟩
        obtain ⟨y, hy⟩ : ∃ y, r.extract (k + 1) r.size = y := ⟨_, rfl⟩
        have HX := hide (HW.out.trans hx)
        have HY := hide (HP.out.trans hy)
        clear HN HW HP HDOT hdd
        have hxs : x.size ≤ 1048576 := by rw [← hx]; simp; omega
        have hys0 : y.size ≤ 1048576 := by rw [← hy]; simp; omega
        rcases (show 180 < r.size ∨ r.size ≤ 180 by omega) with hbig | hbig
        · have HR := hide (show readA false r = (false, ByteArray.empty, 0, false) by rw [readA, if_pos (by simp [badA, hbig])])
          go_wp2
          exact bodyPost_ret (v := .tuple #[.agg #[.bool false, .string ⟨#[]⟩, .int .i64 0], .bool false]) (by simp [results, Tryd.results32, go_sem]) rfl ⟨by rw [HR.out]; rfl, (Below.refl _ _).alloc (Nat.le_refl _) _⟩
        · cases hdx : digsB x
          · have HR := hide (show readA false r = (false, ByteArray.empty, 0, false) by rw [readA, if_pos (by simp [badA, HX.out, hdx])])
            go_wp2_with (go_at_call 30; refine (s_digs _ _ (by unfold maxLen; omega)).mono ?_; rintro e w9 ⟨rfl, rfl⟩)
            exact bodyPost_ret (v := .tuple #[.agg #[.bool false, .string ⟨#[]⟩, .int .i64 0], .bool false]) (by simp [results, Tryd.results32, go_sem]) rfl ⟨by rw [HR.out]; rfl, (Below.refl _ _).alloc (Nat.le_refl _) _⟩
          · cases hdy : digsB y
            · have HR := hide (show readA false r = (false, ByteArray.empty, 0, false) by rw [readA, if_pos (by simp [badA, HY.out, hdy])])
              go_wp2_with (go_at_call 30; refine (s_digs _ _ (by unfold maxLen; omega)).mono ?_; rintro e w9 ⟨rfl, rfl⟩)
              exact bodyPost_ret (v := .tuple #[.agg #[.bool false, .string ⟨#[]⟩, .int .i64 0], .bool false]) (by simp [results, Tryd.results32, go_sem]) rfl ⟨by rw [HR.out]; rfl, (Below.refl _ _).alloc (Nat.le_refl _) _⟩
            · have hws := wp_size r
              rw [HX.out, HY.out] at hws
              obtain ⟨z, hz⟩ : ∃ z, x ++ y = z := ⟨_, rfl⟩
              rw [hz] at hws
              have hzs : z.size ≤ 180 := by omega
              have hys : (y : ByteArray).size ≤ 180 := by omega
              clear hws
              rcases (show z.size = 0 ∨ 0 < z.size by omega) with hz0 | hz0
              · have HR := hide (show readA false r = (false, ByteArray.empty, 0, false) by rw [readA, if_pos (by simp [badA, HX.out, HY.out, hz, hz0])])
                have hze := empty_of z hz0
                rw [hze] at hz
                clear hze
                go_wp2_with (go_at_call 30; refine (s_digs _ _ (by unfold maxLen; omega)).mono ?_; rintro e w9 ⟨rfl, rfl⟩)
                exact bodyPost_ret (v := .tuple #[.agg #[.bool false, .string ⟨#[]⟩, .int .i64 0], .bool false]) (by simp [results, Tryd.results32, go_sem]) rfl ⟨by rw [HR.out]; rfl, (Below.refl _ _).alloc (Nat.le_refl _) _⟩
              · have hne := ne_list z hz0
                have hdz : digsB z = true := by rw [← hz, digs_app, hdx, hdy]; rfl
                have hbad : badA r = false := by rw [badA, HX.out, HY.out, hz, hdx, hdy, decide_eq_false (show ¬ 180 < r.size by omega), decide_eq_false (show ¬ z.size = 0 by omega)]; rfl
                obtain ⟨R, hR⟩ : ∃ R, decRes false (valL z.data.toList) (y : ByteArray).size = R := ⟨_, rfl⟩
                have HR := hide (show readA false r = R by rw [readA, if_neg (by rw [hbad]; simp), HX.out, HY.out, hz, hR])
                have HRR := hide hR
                clear hbad hR
                have HDZ := hide ((digs_iff z).1 hdz)
                go_wp2_with (first | (go_at_call 30; refine (s_digs _ _ (by unfold maxLen; omega)).mono ?_; rintro e w9 ⟨rfl, rfl⟩) | fail)
                refine (s_norm false z _ _ (by omega) HDZ.out (by omega) (by omega)).mono ?_
                rintro e w1 ⟨rfl, hb1⟩
                rw [show decRes false (valL z.data.toList) ((y.size : Int)).toNat = R from (by simpa using HRR.out)]
                obtain ⟨n9, s9, c9, o9⟩ := R
                obtain ⟨a0, a1, a2, a3⟩ := boxed_go (boxed_new w false ⟨#[]⟩ 0 _) hb1
                obtain ⟨f0, f1, f2⟩ := res1_frozen hb1
                have HC := hide (res1_done hb1 (.bool n9) (.string s9) (.int .i64 c9))
                have HB := hide (box_below hb1)
                clear hb1 a0
                simp only [resV]
                go_wp2
                obtain ⟨c0, c1, c2⟩ := HC.out
                exact bodyPost_ret (v := .tuple #[.agg #[.bool n9, .string s9, .int .i64 c9], .bool o9]) (by simp [results, Tryd.results32, go_sem, c0, c1, c2]) rfl ⟨by rw [HR.out]; rfl, below_three HB.out _ _ _⟩
      · have hdb : ((r[k].toNat : Int) != 46) = true := by simpa using hd
        have HN2 := hide (show ∀ j, j < k + 1 → r.data.toList[j]? ≠ some 46 from fun j hj => by
          by_cases e : j = k
          · subst e
            rw [List.getElem?_eq_getElem (by simpa using hks)]
            intro h2
            have h3 : r[j] = 46 := Option.some.inj h2
            rw [h3] at hd
            exact hd rfl
          · exact HN.out j (by omega))
        go_wp2
        go_round
        case rel => exact ⟨k + 1, by go_num, by omega, HN2⟩
        case measure => simp [intOf]; omega
end Go.Proofs.YtdglamiifcagoacDoor
