/-
  Texts put together: TxI, KbI, SelMath.
-/
import Derived.Test.YtfbahffljhnjbaaGreatDoorD19
import Derived.Test.YtfbahffljhnjbaaGreatDoorD5
import Derived.Test.YtfbahffljhnjbaaGreatDoorD4
/-
  Contracts: the text of an element, by the program.
-/
namespace Go.Proofs.YtfbahffljhnjbaaGreatDoor
open Go.RowKit Go.Joins
set_option linter.unusedVariables false
set_option linter.unusedSimpArgs false
def hasB' (D : Dc) (x : Int) : Bool := docokB D && decide (0 ≤ x ∧ x ≤ (D.n : Int) - 1)
set_option maxHeartbeats 2000000 in
theorem i_hasItem (D : Dc) (n : Nat) (a : Option Addr) (cap : Nat) (x : Int) (w : World) (hD : D.n = n) (hz : dcTot D ≤ 1048576) (hr : DcAt w a D w.heap.size) (hT : Tabs w) :
    Calls Tryz.prog 70 #[.slice a n cap, .int .i64 x] w fun e w' => e = .returned (.bool (hasB' D x)) ∧ Below w.heap.size w w' := by
  have HD := hide hD
  have hn : n ≤ 1048576 := by rw [← hD]; exact (dc_sz hz).1
  have CD := hide (i_docok D n a cap w hD hz hr hT)
  clear hr hD hz hT
  cases hd : docokB D
  · have HW : Hid (hasB' D x = false) := hide (by unfold hasB'; rw [hd]; rfl)
    rw [hd] at CD
    go_enter Tryz.func70, Tryz.ntmps70
    go_wp2_with (first | (go_at_call 53; refine CD.out.mono ?_; rintro e w1 ⟨rfl, hb1⟩; have HB := hide hb1; clear hb1))
    go_ret
    exact ⟨ret_bool HW.out.symm, HB.out⟩
  · rw [hd] at CD
    by_cases h0 : 0 ≤ x
    · by_cases h1 : x < (n : Int)
      · have HW : Hid (hasB' D x = true) := hide (by unfold hasB'; rw [hd, HD.out, decide_eq_true ⟨h0, by omega⟩]; rfl)
        go_enter Tryz.func70, Tryz.ntmps70
        go_wp2_with (first | (go_at_call 53; refine CD.out.mono ?_; rintro e w1 ⟨rfl, hb1⟩; have HB := hide hb1; clear hb1))
        go_ret
        exact ⟨ret_bool (by rw [HW.out]; try simp_all), HB.out⟩
      · have HW : Hid (hasB' D x = false) := hide (by unfold hasB'; rw [hd, HD.out, decide_eq_false (by omega)]; rfl)
        go_enter Tryz.func70, Tryz.ntmps70
        go_wp2_with (first | (go_at_call 53; refine CD.out.mono ?_; rintro e w1 ⟨rfl, hb1⟩; have HB := hide hb1; clear hb1))
        go_ret
        exact ⟨ret_bool (by rw [HW.out]; try simp_all), HB.out⟩
    · have HW : Hid (hasB' D x = false) := hide (by unfold hasB'; rw [hd, HD.out, decide_eq_false (by omega)]; rfl)
      go_enter Tryz.func70, Tryz.ntmps70
      go_wp2_with (first | (go_at_call 53; refine CD.out.mono ?_; rintro e w1 ⟨rfl, hb1⟩; have HB := hide hb1; clear hb1))
      go_ret
      exact ⟨ret_bool (by rw [HW.out]; try simp_all), HB.out⟩
theorem txI_no {D : Dc} {x : Int} (h : txOk D x = false) : txV D x = ⟨#[]⟩ := by unfold txV; rw [h]; rfl
theorem txI_yes {D : Dc} {x : Int} (h : txOk D x = true) : txV D x = txF D x D.n := by unfold txV; rw [h]; rfl
theorem txI_ret {a a' : ByteArray} {b b' : Bool} (h1 : a = a') (h2 : b = b') : Ending.returned (.tuple #[.string a, .bool b]) = .returned (.tuple #[.string a', .bool b']) := by rw [h1, h2]
end Go.Proofs.YtfbahffljhnjbaaGreatDoor

/-
  Contracts: the kids of an item and the text right below it, by the program, which goes no further than what is below the item; that this is enough in a right document.
-/
namespace Go.Proofs.YtfbahffljhnjbaaGreatDoor
open Go.RowKit Go.Joins
set_option linter.unusedVariables false
set_option linter.unusedSimpArgs false
theorem rcF_trans {U : Nat → Int} {t x : Int} : ∀ (f : Nat) (a : Int), (∀ j : Nat, (j : Int) ≤ a → U j < j) → rcF U t f a = true → rc U x t = true → rc U x a = true
  | 0, a, hd, h, h2 => by cases h
  | f + 1, a, hd, h, h2 => by
    rw [rcF] at h
    split at h
    · cases h
    · rename_i h0
      split at h
      · rename_i h1; rw [h1]; exact h2
      · have hu := hd a.toNat (by omega)
        have ih := rcF_trans f (U a.toNat) (fun j hj => hd j (by omega)) h h2
        by_cases e : a = x
        · exact rc_hit U x (by omega) e
        · rw [rc_step U x (by omega) e hd]; exact ih
theorem rc_trans {U : Nat → Int} {t x a : Int} (hd : ∀ j : Nat, (j : Int) ≤ a → U j < j) (h : rc U t a = true) (h2 : rc U x t = true) : rc U x a = true := rcF_trans _ a hd h h2
/-- Behind the first item that does not stand below x none does. -/
theorem out_of {D : Dc} {n x e : Nat} (hg : Good D n) (hxe : x < e) (hue : D.U e < x) : ∀ k, e + k < n → rc D.U x ((e + k : Nat) : Int) = false
  | 0, h => by
    have hd := good_dec n hg
    cases hr : rc D.U x ((e + 0 : Nat) : Int)
    · rfl
    · rw [rc_step D.U x (by omega) (by omega) (fun j hj => (hd j (by omega)).2), show (((e + 0 : Nat) : Int)).toNat = e by omega] at hr
      obtain ⟨p, q, -⟩ := rc_mem D.U x (fun j hj => (hd j (by omega)).2) hr
      omega
  | k + 1, h => by
    have hd := good_dec n hg
    have ih := out_of hg hxe hue k (by omega)
    cases hr : rc D.U x ((e + (k + 1) : Nat) : Int)
    · rfl
    · have h0 : e + (k + 1) ≠ 0 := by omega
      have hp := place_rc h0 (hg (e + (k + 1)) h)
      have hst := st_le h0 (good_less hg (by omega) : Good D (e + (k + 1)))
      rw [rc_step D.U x (by omega) (by omega) (fun j hj => (hd j (by omega)).2), show (((e + (k + 1) : Nat) : Int)).toNat = e + (k + 1) by omega] at hr
      have ht := rc_trans (fun j hj => (hd j (by omega)).2) hp hr
      have hs : stI D (e + (k + 1)) = ((e + k : Nat) : Int) ∨ stI D (e + (k + 1)) = D.U (e + k) := by
        unfold stI
        split
        · exact .inr (by rw [show e + (k + 1) - 1 = e + k by omega])
        · exact .inl (by omega)
      rcases hs with hs | hs
      · rw [hs, ih] at ht; cases ht
      · rw [hs] at ht
        rw [rc_step D.U x (by omega) (by omega) (fun j hj => (hd j (by omega)).2), show (((e + k : Nat) : Int)).toNat = e + k by omega, ht] at ih
        cases ih
theorem out_up {D : Dc} {n x e : Nat} (hg : Good D n) (hxe : x < e) (hue : D.U e < x) (j : Nat) (h1 : e ≤ j) (h2 : j < n) : D.U j ≠ x := by
  intro hu
  have hd := good_dec n hg
  have ho := out_of hg hxe hue (j - e) (by omega)
  rw [show e + (j - e) = j by omega, rc_step D.U x (by omega) (by omega) (fun k hk => (hd k (by omega)).2), show ((j : Int)).toNat = j by omega, hu, rc_hit D.U x (by omega) rfl] at ho
  cases ho
theorem kd_rest {D : Dc} {n x e : Nat} (hg : Good D n) (hxe : x < e) (hue : D.U e < x) : ∀ k, e + k ≤ n → kd D x (e + k) = kd D x e
  | 0, h => rfl
  | k + 1, h => by
    rw [show e + (k + 1) = (e + k) + 1 by omega, kd_no (out_up hg hxe hue (e + k) (by omega) (by omega)), kd_rest hg hxe hue k (by omega)]
theorem docok_good {D : Dc} (h : docokB D = true) : Good D D.n := itB_good (docok_facts h).2.1
theorem gOne_list (k : IntKind) (z : Int) : ∀ u ∈ [Value.int k z], u.oneCell' = true := by
  intro u hu
  simp at hu
  subst hu
  rfl
set_option maxRecDepth 100000 in
set_option maxHeartbeats 4000000 in
theorem i_kidsBelow (D : Dc) (n b off cap : Nat) (w : World) (x : Nat) (hD : D.n = n) (hn : n ≤ 200) (hx : x < n) (hbs : b < w.heap.size) (hr : DcRow w b off D w.heap.size) (hg : Good D n) :
    Calls Tryz.prog 126 #[.slice (some ⟨b, off, none⟩) n cap, .int .i64 x] w fun e w' => ∃ ad c, e = .returned (.slice ad (kd D x n).length c) ∧ w'.ownsRow w.heap.size 2 1 (.slice ad (kd D x n).length c) (kd D x n).length ((kd D x n).map (Value.int .i64)) ∧ Below w.heap.size w w' := by
  obtain ⟨i0, hi, hz0, hz1, hz2⟩ := info_parts info64
  have HD := hide hD
  have HR := hide hr
  have HG := hide hg
  have HC := hide (good_dec n hg)
  have hxn : (x : Int) < (n : Int) := by omega
  clear hr hD hg
  go_enter Tryz.func126, Tryz.ntmps126
  go_wp2
  go_loopw [5, 6] (fun v iv wr => ∃ (i : Nat) (ad : Option Addr) (c : Nat), x + 1 ≤ i ∧ i ≤ n ∧ iv = .int .i64 i ∧ v = .slice ad (kd D x i).length c ∧ wr.ownsRow w.heap.size 2 1 (.slice ad (kd D x i).length c) (kd D x i).length ((kd D x i).map (Value.int .i64)) ∧ Below w.heap.size w wr) (fun _ iv _ => n - (intOf iv).toNat)
  case atStart =>
    have e : kd D x (x + 1) = [] := kd_start (fun j hj => (HC.out j (by omega)).2) (x + 1) (Nat.le_refl _)
    refine ⟨x + 1, none, 0, Nat.le_refl _, by omega, by go_num, by rw [e]; rfl, ?_, Below.refl _ _⟩
    rw [e]
    exact ⟨rfl, .inl ⟨rfl, rfl⟩⟩
  case round =>
    obtain ⟨i, ad, c, hi1, hi2, rfl, rfl, ho, hb⟩ := hrel
    have HO := hide ho
    have HB := hide hb
    have hkl := kd_len D x i
    have hsz : w.heap.size ≤ wr.heap.size := hb.size
    by_cases hlt : i < n
    · obtain ⟨ad9, cp9, hc9, -⟩ := HR.out i (by rw [HD.out]; omega)
      obtain ⟨c0, c1, c2, c3⟩ := dcCells_go hc9 hbs hb
      have hin : (i : Int) < (n : Int) := by omega
      have hi00 : (0 : Int) ≤ (i : Int) := by omega
      clear hc9 ho hb
      by_cases hge : (x : Int) ≤ D.U i
      · by_cases hu : D.U i = x
        · have e : kd D x (i + 1) = kd D x i ++ [(i : Int)] := kd_yes hu
          obtain ⟨L, hL⟩ : ∃ L, kd D x i = L := ⟨_, rfl⟩
          rw [hL] at e HO hkl ⊢
          have HE := hide e
          have hub : (D.U i == (x : Int)) = true := by simpa using hu
          clear e hL hu
          go_wp2_with (at_builtin; refine wpList_append_own _ rfl (.tmp 31) (.tmp 33) 47 rfl w.heap.size 2 i0 (.int .i64 0) 1 8 Tryz.underlying47 hi hz0 hz1 hz2 rfl (by decide) _ _ _ rfl (HO.out.alloc _) ⟨wr.heap.size, 0, none⟩ 1 1 [.int .i64 (i : Int)] rfl rfl (fun j u hj => gOne_new wr _ _ j u hj) (gOne_list _ _) (by unfold maxLen; omega) (by omega) (by simp; omega) ?_; intro v2 w2 hown2 hgrow2 _; obtain ⟨ad2, c2', hv2⟩ := gOwn_shape hown2; rw [hv2] at hown2 ⊢; clear hv2; have HB3 := hide (gBelow_one HB.out HO.out hgrow2); have HO2 := hide hown2; clear hown2 hgrow2)
          go_roundw
          case rel =>
            refine ⟨i + 1, ad2, c2', by omega, by omega, by go_num, ?_, ?_, HB3.out⟩
            · rw [HE.out]; simp
            · have := HO2.out
              rw [HE.out]
              simpa using this
          case measure => simp [intOf]; omega
        · have e : kd D x (i + 1) = kd D x i := kd_no hu
          have HE := hide e
          have hub : (D.U i == (x : Int)) = false := by simpa using hu
          clear e hu
          go_wp2
          go_roundw
          case rel => exact ⟨i + 1, ad, c, by omega, by omega, by go_num, by rw [HE.out], by rw [HE.out]; exact HO.out, HB.out⟩
          case measure => simp [intOf]; omega
      · have e : kd D x n = kd D x i := by
          have := kd_rest HG.out (show x < i by omega) (by omega) (n - i) (by omega)
          rw [show i + (n - i) = n by omega] at this
          exact this
        have HE := hide e
        have hlo : D.U i < (x : Int) := by omega
        clear e hge
        go_wp2
        go_ret
        refine ⟨ad, c, by rw [HE.out]; rfl, by rw [HE.out]; exact HO.out, HB.out⟩
    · have hin : i = n := by omega
      subst hin
      go_wp2
      go_ret
      exact ⟨ad, c, rfl, ho, hb⟩
set_option maxHeartbeats 2000000 in
theorem i_textBelow (D : Dc) (n b off cap : Nat) (w : World) (x : Nat) (hD : D.n = n) (hn : n ≤ 200) (hx : x < n) (hbs : b < w.heap.size) (hr : DcRow w b off D w.heap.size) (hg : Good D n) (hsz : sumN (szD D) n ≤ 2500) :
    Calls Tryz.prog 105 #[.slice (some ⟨b, off, none⟩) n cap, .int .i64 x] w fun e w' => e = .returned (.string (txF D x n)) ∧ Below w.heap.size w w' := by
  have HD := hide hD
  have HR := hide hr
  have CK := hide (i_kidsBelow D n b off cap w x hD hn hx hbs hr hg)
  have htx := txF_size D x n
  have hcat := cat_kd D x n
  have hmem := kd_mem (D := D) (x := (x : Int)) n
  have hlen := kd_len D x n
  obtain ⟨L, hL⟩ : ∃ L, kd D x n = L := ⟨_, rfl⟩
  rw [hL] at CK hcat hmem hlen
  rw [← hcat] at htx ⊢
  have HT : Hid ((catT D L).size ≤ 2500) := hide (by omega)
  have HM := hide hmem
  clear hr hg htx hcat hmem hL hD
  go_enter Tryz.func105, Tryz.ntmps105
  go_wp2_with fail
  refine CK.out.mono ?_
  rintro e w1 ⟨ad, c, rfl, ho, hb⟩
  have hra := own_rowAt' rfl ho
  have HRA := hide hra
  have HB := hide hb
  clear ho hra hb
  go_wp2
  go_loop [5, 12] (fun s i => ∃ j : Nat, j ≤ L.length ∧ s = .string (catT D (L.take j)) ∧ i = .int .i64 j) (fun _ i => L.length - (intOf i).toNat)
  case atStart => exact ⟨0, Nat.zero_le _, rfl, rfl⟩
  case round =>
    obtain ⟨j, hj, rfl, rfl⟩ := hrel
    by_cases hlt : j < L.length
    · obtain ⟨b9, off9, rfl, hb9, hc9⟩ := HRA.out (fun h => by rw [h] at hlt; exact absurd hlt (Nat.not_lt_zero _))
      have k0 := hc9 j hlt
      obtain ⟨v, hv⟩ : ∃ v, L[j]?.getD 0 = v := ⟨_, rfl⟩
      have hvm := HM.out v (by rw [← hv, List.getElem?_eq_getElem hlt]; exact List.getElem_mem hlt)
      rw [hv] at k0
      obtain ⟨ad8, cp8, hc8, -⟩ := HR.out v.toNat (by rw [HD.out]; omega)
      obtain ⟨c0, c1, c2, c3⟩ := dcCells_go hc8 hbs HB.out
      have HTK := hide (catT_take D L j hlt)
      rw [hv] at HTK
      have hle := catT_le D L (j + 1)
      rw [HTK.out, ByteArray.size_append] at hle
      have hT := HT.out
      obtain ⟨S, hS⟩ : ∃ S, catT D (L.take j) = S := ⟨_, rfl⟩
      rw [hS] at HTK hle ⊢
      have hS1 : ¬ 9223372036854775807 < S.size + (D.TX v.toNat).size := by omega
      have hjl : (j : Int) < (L.length : Int) := by omega
      have hvn : v < (n : Int) := by omega
      have hv0 : 0 ≤ v := by omega
      clear hc9 hv hc8 hS hle hT
      go_wp2
      go_round
      case rel => exact ⟨j + 1, by omega, by rw [HTK.out], by go_num⟩
      case measure => simp [intOf]; omega
    · have hjn : j = L.length := by omega
      subst hjn
      go_wp2
      go_ret
      exact ⟨by first | rfl | rw [List.take_length], HB.out⟩
/-- There is such an element. -/
theorem i_hasElement (D : Dc) (n : Nat) (a : Option Addr) (cap : Nat) (x : Int) (w : World) (hD : D.n = n) (hz : dcTot D ≤ 1048576) (hr : DcAt w a D w.heap.size) (hT : Tabs w) :
    Calls Tryz.prog 37 #[.slice a n cap, .int .i64 x] w fun e w' => e = .returned (.bool (txOk D x)) ∧ Below w.heap.size w w' := by
  have HD := hide hD
  have HR := hide hr
  have hn : n ≤ 1048576 := by rw [← hD]; exact (dc_sz hz).1
  have CH := hide (i_hasItem D n a cap x w hD hz hr hT)
  have HTX : Hid (txOk D x = (hasB' D x && !(D.NM x.toNat).toList.isEmpty)) := hide (by unfold txOk hasB'; rw [Bool.and_assoc])
  clear hr hD hz hT
  cases hh : hasB' D x
  · rw [hh] at CH HTX
    go_enter Tryz.func37, Tryz.ntmps37
    go_wp2_with (first | (go_at_call 70; refine CH.out.mono ?_; rintro e w1 ⟨rfl, hb1⟩; have HB := hide hb1; clear hb1))
    go_ret
    exact ⟨ret_bool (by rw [HTX.out]; rfl), HB.out⟩
  · have hh2 := hh
    unfold hasB' at hh2
    simp only [Bool.and_eq_true, decide_eq_true_eq] at hh2
    obtain ⟨hd, h0, h1⟩ := hh2
    rw [HD.out] at h1
    rw [hh] at CH HTX
    obtain ⟨b, off, rfl, hbs, hrow⟩ := HR.out (by rw [HD.out]; omega)
    obtain ⟨ad, cp, hc, -⟩ := hrow x.toNat (by rw [HD.out]; omega)
    have HCC := hide hc
    have hxn : x < (n : Int) := by omega
    clear hrow hc hd
    cases he : (D.NM x.toNat).toList.isEmpty
    all_goals
      go_enter Tryz.func37, Tryz.ntmps37
      go_wp2_with fail
      refine CH.out.mono ?_
      rintro e w1 ⟨rfl, hb1⟩
      obtain ⟨c0, c1, c2, c3⟩ := dcCells_go HCC.out hbs hb1
      have HB := hide hb1
      clear hb1
      go_wp2
      go_ret
      exact ⟨ret_bool (by rw [HTX.out, he]; rfl), HB.out⟩
end Go.Proofs.YtfbahffljhnjbaaGreatDoor

/-
  Plain facts on what a path selects, of no program's run: the elements below one, the kids of a name, rows without two alike, in order.
-/
namespace Go.Proofs.YtfbahffljhnjbaaGreatDoor
set_option linter.unusedVariables false
set_option linter.unusedSimpArgs false
/-- The elements below x among the first m items. -/
def el (D : Dc) (x : Nat) : Nat → List Int
  | 0 => []
  | m + 1 => if x < m ∧ rc D.U x m = true ∧ (D.NM m).toList.isEmpty = false then el D x m ++ [(m : Int)] else el D x m
theorem el_yes {D : Dc} {x m : Nat} (h : x < m ∧ rc D.U x m = true ∧ (D.NM m).toList.isEmpty = false) : el D x (m + 1) = el D x m ++ [(m : Int)] := by rw [el, if_pos h]
theorem el_no {D : Dc} {x m : Nat} (h : ¬ (x < m ∧ rc D.U x m = true ∧ (D.NM m).toList.isEmpty = false)) : el D x (m + 1) = el D x m := by rw [el, if_neg h]
theorem el_len (D : Dc) (x : Nat) : ∀ m, (el D x m).length ≤ m
  | 0 => Nat.le_refl _
  | m + 1 => by
    have := el_len D x m
    rw [el]
    split
    · simp; omega
    · omega
theorem el_mem {D : Dc} {x : Nat} : ∀ (m : Nat) (j : Int), j ∈ el D x m → (x : Int) < j ∧ j < m
  | 0, j, h => by cases h
  | m + 1, j, h => by
    rw [el] at h
    split at h
    · rename_i hc
      rcases List.mem_append.1 h with h | h
      · have := el_mem m j h; omega
      · simp at h; omega
    · have := el_mem m j h; omega
theorem el_start {D : Dc} {x : Nat} : ∀ m, m ≤ x + 1 → el D x m = []
  | 0, h => rfl
  | m + 1, h => by rw [el_no (by omega), el_start m (by omega)]
theorem el_nodup {D : Dc} {x : Nat} : ∀ m, (el D x m).Nodup
  | 0 => List.nodup_nil
  | m + 1 => by
    rw [el]
    split
    · refine List.nodup_append.2 ⟨el_nodup m, by simp, fun a ha b hb => ?_⟩
      have := el_mem m a ha
      simp at hb
      omega
    · exact el_nodup m
/-- An item that stands behind x, none between them standing above x, is below x. -/
theorem in_below {D : Dc} {n x : Nat} (hg : Good D n) : ∀ (f i : Nat), i < f → x < i → i < n → (∀ j, x < j → j ≤ i → (x : Int) ≤ D.U j) → rc D.U x i = true
  | 0, i, hf, h1, h2, h3 => by omega
  | f + 1, i, hf, h1, h2, h3 => by
    have hd := good_dec n hg
    have hi := h3 i h1 (Nat.le_refl _)
    have hdi := (hd i h2).2
    rw [rc_step D.U x (by omega) (by omega) (fun j hj => (hd j (by omega)).2), show ((i : Int)).toNat = i by omega]
    by_cases e : D.U i = x
    · exact rc_hit D.U x (by omega) e
    · have hk : D.U i = ((D.U i).toNat : Int) := by omega
      rw [hk]
      exact in_below hg f (D.U i).toNat (by omega) (by omega) (by omega) (fun j a b => h3 j a (by omega))
theorem el_rest {D : Dc} {n x e : Nat} (hg : Good D n) (hxe : x < e) (hue : D.U e < x) : ∀ k, e + k ≤ n → el D x (e + k) = el D x e
  | 0, h => rfl
  | k + 1, h => by
    rw [show e + (k + 1) = (e + k) + 1 by omega, el_no (by rw [out_of hg hxe hue k (by omega)]; simp), el_rest hg hxe hue k (by omega)]
/-- The kids of x that have the name nm. -/
def kn (D : Dc) (x : Int) (nm : List UInt8) : List Int := (kd D x D.n).filter fun j => (D.NM j.toNat).data.toList == nm
theorem kd_up {D : Dc} {x : Int} : ∀ (m : Nat) (j : Int), j ∈ kd D x m → D.U j.toNat = x
  | 0, j, h => by cases h
  | m + 1, j, h => by
    rw [kd] at h
    split at h
    · rename_i hc
      rcases List.mem_append.1 h with h | h
      · exact kd_up m j h
      · simp at h; subst h; simpa using hc
    · exact kd_up m j h
theorem kd_nodup {D : Dc} {x : Int} : ∀ m, (kd D x m).Nodup
  | 0 => List.nodup_nil
  | m + 1 => by
    rw [kd]
    split
    · refine List.nodup_append.2 ⟨kd_nodup m, by simp, fun a ha b hb => ?_⟩
      have := kd_mem m a ha
      simp at hb
      omega
    · exact kd_nodup m
theorem kn_mem {D : Dc} {x j : Int} {nm : List UInt8} (h : j ∈ kn D x nm) : (0 ≤ j ∧ j < D.n) ∧ D.U j.toNat = x := by
  have := (List.mem_filter.1 h).1
  exact ⟨kd_mem _ _ this, kd_up _ _ this⟩
theorem kn_nodup (D : Dc) (x : Int) (nm : List UInt8) : (kn D x nm).Nodup := (kd_nodup D.n).filter _
theorem kn_len (D : Dc) (x : Int) (nm : List UInt8) : (kn D x nm).length ≤ D.n := Nat.le_trans (List.length_filter_le _ _) (kd_len D x D.n)
/-- One step of a path from each of some places. -/
def stepS (D : Dc) (L : List Int) (nm : List UInt8) : List Int := L.flatMap fun x => kn D x nm
def InR (D : Dc) (L : List Int) : Prop := ∀ j ∈ L, 0 ≤ j ∧ j < (D.n : Int)
theorem step_in {D : Dc} {L : List Int} {nm : List UInt8} : InR D (stepS D L nm) := by
  intro j hj
  obtain ⟨x, -, hx⟩ := List.mem_flatMap.1 hj
  exact (kn_mem hx).1
theorem step_nodup {D : Dc} {nm : List UInt8} : ∀ {L : List Int}, L.Nodup → (stepS D L nm).Nodup
  | [], _ => List.nodup_nil
  | x :: L, h => by
    have h1 := List.nodup_cons.1 h
    show (kn D x nm ++ stepS D L nm).Nodup
    refine List.nodup_append.2 ⟨kn_nodup D x nm, step_nodup h1.2, fun a ha b hb e => ?_⟩
    subst e
    obtain ⟨y, hy, hb⟩ := List.mem_flatMap.1 hb
    have e1 := (kn_mem ha).2
    have e2 := (kn_mem hb).2
    rw [e1] at e2
    subst e2
    exact h1.1 hy
/-- A row of unlike numbers below n is no longer than n. -/
theorem nodup_len {n : Nat} : ∀ {L : List Int}, L.Nodup → (∀ j ∈ L, 0 ≤ j ∧ j < (n : Int)) → L.length ≤ n := by
  intro L hn hr
  have h : L.Perm (((List.range n).map Int.ofNat).filter fun j => decide (j ∈ L)) := by
    refine (List.perm_ext_iff_of_nodup hn ?_).2 fun j => ?_
    · refine List.Pairwise.filter _ ?_
      exact List.Pairwise.map _ (fun a b hab e => hab (Int.ofNat.inj e)) List.nodup_range
    · rw [List.mem_filter]
      constructor
      · intro hj
        have := hr j hj
        exact ⟨List.mem_map.2 ⟨j.toNat, by rw [List.mem_range]; omega, by show ((j.toNat : Nat) : Int) = j; omega⟩, by simpa using hj⟩
      · rintro ⟨-, h⟩
        simpa using h
  have h2 := h.length_eq
  have h3 := List.length_filter_le (fun j => decide (j ∈ L)) ((List.range n).map Int.ofNat)
  simp at h3
  omega
def sel (D : Dc) (L : List Int) (ps : List (List UInt8)) : List Int := ps.foldl (stepS D) L
theorem sel_take {D : Dc} {L : List Int} {ps : List (List UInt8)} {k : Nat} (h : k < ps.length) : sel D L (ps.take (k + 1)) = stepS D (sel D L (ps.take k)) (ps[k]?.getD []) := by
  unfold sel
  rw [List.take_succ_eq_append_getElem h, List.foldl_append, List.getElem?_eq_getElem h]
  rfl
theorem sel_ok {D : Dc} : ∀ (ps : List (List UInt8)) (L : List Int), L.Nodup → InR D L → (sel D L ps).Nodup ∧ InR D (sel D L ps)
  | [], L, h1, h2 => ⟨h1, h2⟩
  | p :: ps, L, h1, h2 => sel_ok ps (stepS D L p) (step_nodup h1) step_in
/-- In order, each once. -/
def insL (v : Int) : List Int → List Int
  | [] => [v]
  | h :: t => if h < v then h :: insL v t else if h = v then h :: t else v :: h :: t
def srtL (L : List Int) : List Int := L.foldl (fun o v => insL v o) []
theorem insL_mem {v x : Int} : ∀ {l : List Int}, x ∈ insL v l ↔ x = v ∨ x ∈ l
  | [] => by simp [insL]
  | h :: t => by
    rw [insL]
    split
    · rw [List.mem_cons, insL_mem (l := t), List.mem_cons]; constructor <;> (intro h; rcases h with h | h | h <;> simp [h])
    · split
      · rename_i e; subst e; simp
      · simp
theorem insL_sorted {v : Int} : ∀ {l : List Int}, l.Pairwise (· < ·) → (insL v l).Pairwise (· < ·)
  | [], _ => by simp [insL]
  | h :: t, hp => by
    obtain ⟨h1, h2⟩ := List.pairwise_cons.1 hp
    rw [insL]
    split
    · refine List.pairwise_cons.2 ⟨fun x hx => ?_, insL_sorted h2⟩
      rcases insL_mem.1 hx with rfl | hx
      · assumption
      · exact h1 x hx
    · split
      · exact hp
      · refine List.pairwise_cons.2 ⟨fun x hx => ?_, hp⟩
        rcases List.mem_cons.1 hx with rfl | hx
        · omega
        · have := h1 x hx; omega
theorem srt_fold : ∀ (L o : List Int), o.Pairwise (· < ·) → (L.foldl (fun o v => insL v o) o).Pairwise (· < ·) ∧ ∀ x, x ∈ L.foldl (fun o v => insL v o) o ↔ x ∈ L ∨ x ∈ o
  | [], o, h => ⟨h, fun x => by simp⟩
  | v :: L, o, h => by
    obtain ⟨h1, h2⟩ := srt_fold L (insL v o) (insL_sorted h)
    refine ⟨h1, fun x => ?_⟩
    rw [List.foldl_cons, h2 x, insL_mem, List.mem_cons]
    constructor
    · rintro (h | h | h) <;> simp [h]
    · rintro ((h | h) | h) <;> simp [h]
theorem srt_sorted (L : List Int) : (srtL L).Pairwise (· < ·) := (srt_fold L [] List.Pairwise.nil).1
theorem srt_mem (L : List Int) (x : Int) : x ∈ srtL L ↔ x ∈ L := by
  have := (srt_fold L [] List.Pairwise.nil).2 x
  unfold srtL
  simpa using this
theorem lt_nodup {l : List Int} (h : l.Pairwise (· < ·)) : l.Nodup := h.imp fun hab e => by omega
theorem srt_merge {L : List Int} (h : L.Nodup) : L.mergeSort (fun x y => decide (x ≤ y)) = srtL L := by
  have hp : (L.mergeSort fun x y => decide (x ≤ y)).Perm (srtL L) := by
    refine (List.mergeSort_perm _ _).trans ?_
    exact (List.perm_ext_iff_of_nodup h (lt_nodup (srt_sorted L))).2 fun x => (srt_mem L x).symm
  refine List.Perm.eq_of_pairwise (le := fun a b => decide (a ≤ b) = true) (fun a b _ _ h1 h2 => by simp only [decide_eq_true_eq] at h1 h2; omega) (List.pairwise_mergeSort (fun a b c h1 h2 => by simp only [decide_eq_true_eq] at h1 h2 ⊢; omega) (fun a b => by simp only [Bool.or_eq_true, decide_eq_true_eq]; omega) L) ((srt_sorted L).imp fun h => by simp only [decide_eq_true_eq]; omega) hp
theorem srt_len {L : List Int} (h : L.Nodup) : (srtL L).length = L.length := by rw [← srt_merge h, List.length_mergeSort]
/-- What one more number makes of a row in order: k of it stand ahead. -/
theorem insL_at {v : Int} : ∀ {l : List Int} {k : Nat}, k ≤ l.length → (∀ j, j < k → l[j]?.getD 0 < v) → (∀ h : k < l.length, v < l[k]?.getD 0) → insL v l = l.take k ++ v :: l.drop k
  | [], k, hk, h1, h2 => by
    have : k = 0 := by simpa using hk
    subst this; rfl
  | h :: t, 0, hk, h1, h2 => by
    have := h2 (by simp)
    simp at this
    rw [insL, if_neg (by omega), if_neg (by omega)]
    rfl
  | h :: t, k + 1, hk, h1, h2 => by
    have h0 := h1 0 (by omega)
    simp at h0
    rw [insL, if_pos h0, insL_at (l := t) (k := k) (by simpa using hk) (fun j hj => by have := h1 (j + 1) (by omega); simpa using this) (fun hh => by have := h2 (by simpa using hh); simpa using this)]
    rfl
theorem insL_dup {v : Int} : ∀ {l : List Int} {k : Nat}, k < l.length → (∀ j, j < k → l[j]?.getD 0 < v) → l[k]?.getD 0 = v → insL v l = l
  | [], k, hk, h1, h2 => by simp at hk
  | h :: t, 0, hk, h1, h2 => by
    simp at h2
    rw [insL, if_neg (by omega), if_pos h2]
  | h :: t, k + 1, hk, h1, h2 => by
    have h0 := h1 0 (by omega)
    simp at h0
    rw [insL, if_pos h0, insL_dup (l := t) (k := k) (by simpa using hk) (fun j hj => by have := h1 (j + 1) (by omega); simpa using this) (by simpa using h2)]
theorem srt_take {L : List Int} {k : Nat} (h : k < L.length) : srtL (L.take (k + 1)) = insL (L[k]?.getD 0) (srtL (L.take k)) := by
  unfold srtL
  rw [List.take_succ_eq_append_getElem h, List.foldl_append, List.getElem?_eq_getElem h]
  rfl
theorem insL_len (v : Int) : ∀ l : List Int, (insL v l).length ≤ l.length + 1
  | [] => by simp [insL]
  | h :: t => by
    rw [insL]
    split
    · have := insL_len v t; simp; omega
    · split <;> simp
theorem srt_len_le (L : List Int) : ∀ k, k ≤ L.length → (srtL (L.take k)).length ≤ k
  | 0, h => by simp [srtL]
  | k + 1, h => by
    rw [srt_take (by omega)]
    have h1 := insL_len (L[k]?.getD 0) (srtL (L.take k))
    have h2 := srt_len_le L k (by omega)
    omega
end Go.Proofs.YtfbahffljhnjbaaGreatDoor
