/-
  Texts put together: KdS, TxI, KbI.
-/
import Derived.Test.YtdepgkpfibmbgaaGreatDoorF22
import Derived.Test.YtdepgkpfibmbgaaGreatDoorF1
/-
  Contracts: the kids of an item, and the text right below it, by the specification.
-/
namespace Go.Proofs.YtdepgkpfibmbgaaGreatDoor
open Go.RowKit Go.Joins
set_option linter.unusedVariables false
set_option linter.unusedSimpArgs false
theorem catT_take (D : Dc) (L : List Int) (j : Nat) (h : j < L.length) : catT D (L.take (j + 1)) = catT D (L.take j) ++ D.TX (L[j]?.getD 0).toNat := by
  rw [List.take_succ_eq_append_getElem h, catT_snoc, List.getElem?_eq_getElem h]
  rfl
theorem catT_app (D : Dc) : ∀ a b : List Int, catT D (a ++ b) = catT D a ++ catT D b
  | [], b => by show catT D b = ByteArray.empty ++ catT D b; rw [ByteArray.empty_append]
  | i :: l, b => by show D.TX i.toNat ++ catT D (l ++ b) = D.TX i.toNat ++ catT D l ++ catT D b; rw [catT_app D l b, ByteArray.append_assoc]
theorem catT_le (D : Dc) (L : List Int) (j : Nat) : (catT D (L.take j)).size ≤ (catT D L).size := by
  have h := catT_app D (L.take j) (L.drop j)
  rw [List.take_append_drop] at h
  rw [h, ByteArray.size_append]
  omega
set_option maxHeartbeats 2000000 in
theorem s_kids (D : Dc) (n b off cap : Nat) (w : World) (x : Nat) (hD : D.n = n) (hn : n ≤ 200) (hx : x < n) (hbs : b < w.heap.size) (hr : DcRow w b off D w.heap.size) (hdec : ∀ j, j < n → D.U j < j) :
    Calls Tryz.prog 82 #[.slice (some ⟨b, off, none⟩) n cap, .int .i64 x] w fun e w' => ∃ ad c, e = .returned (.slice ad (kd D x n).length c) ∧ w'.ownsRow w.heap.size 2 1 (.slice ad (kd D x n).length c) (kd D x n).length ((kd D x n).map (Value.int .i64)) ∧ Below w.heap.size w w' := by
  obtain ⟨i0, hi, hz0, hz1, hz2⟩ := info_parts info64
  have HD := hide hD
  have HR := hide hr
  have HC := hide hdec
  have hxn : (x : Int) < (n : Int) := by omega
  clear hr hD hdec
  go_enter Tryz.func82, Tryz.ntmps82
  go_wp2
  go_loopw [5, 6] (fun v iv wr => ∃ (i : Nat) (ad : Option Addr) (c : Nat), x + 1 ≤ i ∧ i ≤ n ∧ iv = .int .i64 i ∧ v = .slice ad (kd D x i).length c ∧ wr.ownsRow w.heap.size 2 1 (.slice ad (kd D x i).length c) (kd D x i).length ((kd D x i).map (Value.int .i64)) ∧ Below w.heap.size w wr) (fun _ iv _ => n - (intOf iv).toNat)
  case atStart =>
    have e : kd D x (x + 1) = [] := kd_start (fun j hj => HC.out j (by omega)) (x + 1) (Nat.le_refl _)
    refine ⟨x + 1, some ⟨w.heap.size, 0, none⟩, 0, Nat.le_refl _, by omega, by go_num, by rw [e]; rfl, ?_, (Below.refl _ _).alloc (Nat.le_refl _) _⟩
    rw [e]
    exact World.ownsRow_made (base := w.heap.size) (e := 2) (size := 1) w #[] 0 (Nat.le_refl _) (Nat.zero_le _) rfl
  case round =>
    obtain ⟨i, ad, c, hi1, hi2, rfl, rfl, ho, hb⟩ := hrel
    have HO := hide ho
    have HB := hide hb
    have hkl := kd_len D x i
    have hsz : w.heap.size ≤ wr.heap.size := hb.size
    by_cases hlt : i < n
    · obtain ⟨ad9, cp9, hc9, -⟩ := HR.out i (by rw [HD.out]; omega)
      obtain ⟨c0, c1, c2, c3⟩ := dcCells_go hc9 hbs hb
      have hin : (i : Int) < (n : Int) := by omega
      clear hc9 ho hb
      by_cases hu : D.U i = x
      · have e : kd D x (i + 1) = kd D x i ++ [(i : Int)] := kd_yes hu
        obtain ⟨L, hL⟩ : ∃ L, kd D x i = L := ⟨_, rfl⟩
        rw [hL] at e HO hkl ⊢
        have HE := hide e
        have hub : (D.U i == (x : Int)) = true := by simpa using hu
        clear e hL hu
        go_wp2_with (at_builtin; refine wpList_append_own _ rfl (.tmp 23) (.tmp 25) 33 rfl w.heap.size 2 i0 (.int .i64 0) 1 8 Tryz.underlying33 hi hz0 hz1 hz2 rfl (by decide) _ _ _ rfl (HO.out.alloc _) ⟨_, 0, none⟩ 1 1 [.int .i64 (i : Int)] rfl rfl (fun j u hj => one_new _ _ _ j u hj) (one_list _ _) (by unfold maxLen; omega) (by omega) (by simp; omega) ?_; intro v2 w2 hown2 hgrow2 _; obtain ⟨ad2, c2', hv2⟩ := own_shape hown2; rw [hv2] at hown2 ⊢; clear hv2; have HB2 := hide (below_step' HB.out HO.out hgrow2); have HO2 := hide hown2; clear hown2 hgrow2)
        go_roundw
        case rel =>
          refine ⟨i + 1, ad2, c2', by omega, by omega, by go_num, ?_, ?_, HB2.out⟩
          · rw [HE.out]; simp
          · have := HO2.out
            rw [HE.out]
            simpa using this
        case measure => simp [intOf]; omega
      · have e : kd D x (i + 1) = kd D x i := kd_no hu
        have HE := hide e
        have hub : (D.U i == (x : Int)) = false := by simpa using hu
        clear e hu
        go_wp2
        go_roundw
        case rel => exact ⟨i + 1, ad, c, by omega, by omega, by go_num, by rw [HE.out], by rw [HE.out]; exact HO.out, HB.out⟩
        case measure => simp [intOf]; omega
    · have hin : i = n := by omega
      subst hin
      go_wp2
      go_ret
      exact ⟨ad, c, rfl, ho, hb⟩
set_option maxHeartbeats 2000000 in
theorem s_text2 (D : Dc) (n b off cap : Nat) (w : World) (x : Nat) (hD : D.n = n) (hn : n ≤ 200) (hx : x < n) (hbs : b < w.heap.size) (hr : DcRow w b off D w.heap.size) (hdec : ∀ j, j < n → D.U j < j) (hsz : sumN (szD D) n ≤ 2500) :
    Calls Tryz.prog 85 #[.slice (some ⟨b, off, none⟩) n cap, .int .i64 x] w fun e w' => e = .returned (.string (txF D x n)) ∧ Below w.heap.size w w' := by
  have HD := hide hD
  have HR := hide hr
  have CK := hide (s_kids D n b off cap w x hD hn hx hbs hr hdec)
  have htx := txF_size D x n
  have hcat := cat_kd D x n
  have hmem := kd_mem (D := D) (x := (x : Int)) n
  have hlen := kd_len D x n
  obtain ⟨L, hL⟩ : ∃ L, kd D x n = L := ⟨_, rfl⟩
  rw [hL] at CK hcat hmem hlen
  rw [← hcat] at htx ⊢
  have HT : Hid ((catT D L).size ≤ 2500) := hide (by omega)
  have HM := hide hmem
  clear hr hdec htx hcat hmem hL hD
  go_enter Tryz.func85, Tryz.ntmps85
  go_wp2_with fail
  refine CK.out.mono ?_
  rintro e w1 ⟨ad, c, rfl, ho, hb⟩
  have hra := own_rowAt' rfl ho
  have HRA := hide hra
  have HB := hide hb
  clear ho hra hb
  go_wp2
  go_loop [5, 7] (fun s i => ∃ j : Nat, j ≤ L.length ∧ s = .string (catT D (L.take j)) ∧ i = .int .i64 j) (fun _ i => L.length - (intOf i).toNat)
  case atStart => exact ⟨0, Nat.zero_le _, rfl, rfl⟩
  case round =>
    obtain ⟨j, hj, rfl, rfl⟩ := hrel
    by_cases hlt : j < L.length
    · obtain ⟨b9, off9, rfl, hb9, hc9⟩ := HRA.out (fun h => by rw [h] at hlt; exact absurd hlt (Nat.not_lt_zero _))
      have k0 := hc9 j hlt
      obtain ⟨v, hv⟩ : ∃ v, L[j]?.getD 0 = v := ⟨_, rfl⟩
      have hvm := HM.out v (by rw [← hv, List.getElem?_eq_getElem hlt]; exact List.getElem_mem hlt)
      rw [hv] at k0
      obtain ⟨ad8, cp8, hc8, -⟩ := HR.out v.toNat (by rw [HD.out]; omega)
      obtain ⟨c0, c1, c2, c3⟩ := dcCells_go hc8 hbs HB.out
      have HTK := hide (catT_take D L j hlt)
      rw [hv] at HTK
      have hle := catT_le D L (j + 1)
      rw [HTK.out, ByteArray.size_append] at hle
      have hT := HT.out
      obtain ⟨S, hS⟩ : ∃ S, catT D (L.take j) = S := ⟨_, rfl⟩
      rw [hS] at HTK hle ⊢
      have hS1 : ¬ 9223372036854775807 < S.size + (D.TX v.toNat).size := by omega
      have hjl : (j : Int) < (L.length : Int) := by omega
      have hvn : v < (n : Int) := by omega
      have hv0 : 0 ≤ v := by omega
      clear hc9 hv hc8 hS hle hT
      go_wp2
      go_round
      case rel => exact ⟨j + 1, by omega, by rw [HTK.out], by go_num⟩
      case measure => simp [intOf]; omega
    · have hjn : j = L.length := by omega
      subst hjn
      go_wp2
      go_ret
      exact ⟨by first | rfl | rw [List.take_length], HB.out⟩
end Go.Proofs.YtdepgkpfibmbgaaGreatDoor

/-
  Contracts: the text of an element, by the program.
-/
namespace Go.Proofs.YtdepgkpfibmbgaaGreatDoor
open Go.RowKit Go.Joins
set_option linter.unusedVariables false
set_option linter.unusedSimpArgs false
def hasB' (D : Dc) (x : Int) : Bool := docokB D && decide (0 ≤ x ∧ x ≤ (D.n : Int) - 1)
set_option maxHeartbeats 2000000 in
theorem i_hasItem (D : Dc) (n : Nat) (a : Option Addr) (cap : Nat) (x : Int) (w : World) (hD : D.n = n) (hz : dcTot D ≤ 1048576) (hr : DcAt w a D w.heap.size) (hT : Tabs w) :
    Calls Tryz.prog 51 #[.slice a n cap, .int .i64 x] w fun e w' => e = .returned (.bool (hasB' D x)) ∧ Below w.heap.size w w' := by
  have HD := hide hD
  have hn : n ≤ 1048576 := by rw [← hD]; exact (dc_sz hz).1
  have CD := hide (i_docok D n a cap w hD hz hr hT)
  clear hr hD hz hT
  cases hd : docokB D
  · have HW : Hid (hasB' D x = false) := hide (by unfold hasB'; rw [hd]; rfl)
    rw [hd] at CD
    go_enter Tryz.func51, Tryz.ntmps51
    go_wp2_with (first | (go_at_call 35; refine CD.out.mono ?_; rintro e w1 ⟨rfl, hb1⟩; have HB := hide hb1; clear hb1))
    go_ret
    exact ⟨ret_bool HW.out.symm, HB.out⟩
  · rw [hd] at CD
    by_cases h0 : 0 ≤ x
    · by_cases h1 : x < (n : Int)
      · have HW : Hid (hasB' D x = true) := hide (by unfold hasB'; rw [hd, HD.out, decide_eq_true ⟨h0, by omega⟩]; rfl)
        go_enter Tryz.func51, Tryz.ntmps51
        go_wp2_with (first | (go_at_call 35; refine CD.out.mono ?_; rintro e w1 ⟨rfl, hb1⟩; have HB := hide hb1; clear hb1))
        go_ret
        exact ⟨ret_bool (by rw [HW.out]; try simp_all), HB.out⟩
      · have HW : Hid (hasB' D x = false) := hide (by unfold hasB'; rw [hd, HD.out, decide_eq_false (by omega)]; rfl)
        go_enter Tryz.func51, Tryz.ntmps51
        go_wp2_with (first | (go_at_call 35; refine CD.out.mono ?_; rintro e w1 ⟨rfl, hb1⟩; have HB := hide hb1; clear hb1))
        go_ret
        exact ⟨ret_bool (by rw [HW.out]; try simp_all), HB.out⟩
    · have HW : Hid (hasB' D x = false) := hide (by unfold hasB'; rw [hd, HD.out, decide_eq_false (by omega)]; rfl)
      go_enter Tryz.func51, Tryz.ntmps51
      go_wp2_with (first | (go_at_call 35; refine CD.out.mono ?_; rintro e w1 ⟨rfl, hb1⟩; have HB := hide hb1; clear hb1))
      go_ret
      exact ⟨ret_bool (by rw [HW.out]; try simp_all), HB.out⟩
theorem txI_no {D : Dc} {x : Int} (h : txOk D x = false) : txV D x = ⟨#[]⟩ := by unfold txV; rw [h]; rfl
theorem txI_yes {D : Dc} {x : Int} (h : txOk D x = true) : txV D x = txF D x D.n := by unfold txV; rw [h]; rfl
theorem txI_ret {a a' : ByteArray} {b b' : Bool} (h1 : a = a') (h2 : b = b') : Ending.returned (.tuple #[.string a, .bool b]) = .returned (.tuple #[.string a', .bool b']) := by rw [h1, h2]
end Go.Proofs.YtdepgkpfibmbgaaGreatDoor

/-
  Contracts: the kids of an item and the text right below it, by the program, which goes no further than what is below the item; that this is enough in a right document.
-/
namespace Go.Proofs.YtdepgkpfibmbgaaGreatDoor
open Go.RowKit Go.Joins
set_option linter.unusedVariables false
set_option linter.unusedSimpArgs false
theorem rcF_trans {U : Nat → Int} {t x : Int} : ∀ (f : Nat) (a : Int), (∀ j : Nat, (j : Int) ≤ a → U j < j) → rcF U t f a = true → rc U x t = true → rc U x a = true
  | 0, a, hd, h, h2 => by cases h
  | f + 1, a, hd, h, h2 => by
    rw [rcF] at h
    split at h
    · cases h
    · rename_i h0
      split at h
      · rename_i h1; rw [h1]; exact h2
      · have hu := hd a.toNat (by omega)
        have ih := rcF_trans f (U a.toNat) (fun j hj => hd j (by omega)) h h2
        by_cases e : a = x
        · exact rc_hit U x (by omega) e
        · rw [rc_step U x (by omega) e hd]; exact ih
theorem rc_trans {U : Nat → Int} {t x a : Int} (hd : ∀ j : Nat, (j : Int) ≤ a → U j < j) (h : rc U t a = true) (h2 : rc U x t = true) : rc U x a = true := rcF_trans _ a hd h h2
/-- Behind the first item that does not stand below x none does. -/
theorem out_of {D : Dc} {n x e : Nat} (hg : Good D n) (hxe : x < e) (hue : D.U e < x) : ∀ k, e + k < n → rc D.U x ((e + k : Nat) : Int) = false
  | 0, h => by
    have hd := good_dec n hg
    cases hr : rc D.U x ((e + 0 : Nat) : Int)
    · rfl
    · rw [rc_step D.U x (by omega) (by omega) (fun j hj => (hd j (by omega)).2), show (((e + 0 : Nat) : Int)).toNat = e by omega] at hr
      obtain ⟨p, q, -⟩ := rc_mem D.U x (fun j hj => (hd j (by omega)).2) hr
      omega
  | k + 1, h => by
    have hd := good_dec n hg
    have ih := out_of hg hxe hue k (by omega)
    cases hr : rc D.U x ((e + (k + 1) : Nat) : Int)
    · rfl
    · have h0 : e + (k + 1) ≠ 0 := by omega
      have hp := place_rc h0 (hg (e + (k + 1)) h)
      have hst := st_le h0 (good_less hg (by omega) : Good D (e + (k + 1)))
      rw [rc_step D.U x (by omega) (by omega) (fun j hj => (hd j (by omega)).2), show (((e + (k + 1) : Nat) : Int)).toNat = e + (k + 1) by omega] at hr
      have ht := rc_trans (fun j hj => (hd j (by omega)).2) hp hr
      have hs : stI D (e + (k + 1)) = ((e + k : Nat) : Int) ∨ stI D (e + (k + 1)) = D.U (e + k) := by
        unfold stI
        split
        · exact .inr (by rw [show e + (k + 1) - 1 = e + k by omega])
        · exact .inl (by omega)
      rcases hs with hs | hs
      · rw [hs, ih] at ht; cases ht
      · rw [hs] at ht
        rw [rc_step D.U x (by omega) (by omega) (fun j hj => (hd j (by omega)).2), show (((e + k : Nat) : Int)).toNat = e + k by omega, ht] at ih
        cases ih
theorem out_up {D : Dc} {n x e : Nat} (hg : Good D n) (hxe : x < e) (hue : D.U e < x) (j : Nat) (h1 : e ≤ j) (h2 : j < n) : D.U j ≠ x := by
  intro hu
  have hd := good_dec n hg
  have ho := out_of hg hxe hue (j - e) (by omega)
  rw [show e + (j - e) = j by omega, rc_step D.U x (by omega) (by omega) (fun k hk => (hd k (by omega)).2), show ((j : Int)).toNat = j by omega, hu, rc_hit D.U x (by omega) rfl] at ho
  cases ho
theorem kd_rest {D : Dc} {n x e : Nat} (hg : Good D n) (hxe : x < e) (hue : D.U e < x) : ∀ k, e + k ≤ n → kd D x (e + k) = kd D x e
  | 0, h => rfl
  | k + 1, h => by
    rw [show e + (k + 1) = (e + k) + 1 by omega, kd_no (out_up hg hxe hue (e + k) (by omega) (by omega)), kd_rest hg hxe hue k (by omega)]
theorem docok_good {D : Dc} (h : docokB D = true) : Good D D.n := itB_good (docok_facts h).2.1
theorem gOne_list (k : IntKind) (z : Int) : ∀ u ∈ [Value.int k z], u.oneCell' = true := by
  intro u hu
  simp at hu
  subst hu
  rfl
set_option maxRecDepth 100000 in
set_option maxHeartbeats 4000000 in
theorem i_kidsBelow (D : Dc) (n b off cap : Nat) (w : World) (x : Nat) (hD : D.n = n) (hn : n ≤ 200) (hx : x < n) (hbs : b < w.heap.size) (hr : DcRow w b off D w.heap.size) (hg : Good D n) :
    Calls Tryz.prog 88 #[.slice (some ⟨b, off, none⟩) n cap, .int .i64 x] w fun e w' => ∃ ad c, e = .returned (.slice ad (kd D x n).length c) ∧ w'.ownsRow w.heap.size 2 1 (.slice ad (kd D x n).length c) (kd D x n).length ((kd D x n).map (Value.int .i64)) ∧ Below w.heap.size w w' := by
  obtain ⟨i0, hi, hz0, hz1, hz2⟩ := info_parts info64
  have HD := hide hD
  have HR := hide hr
  have HG := hide hg
  have HC := hide (good_dec n hg)
  have hxn : (x : Int) < (n : Int) := by omega
  clear hr hD hg
  go_enter Tryz.func88, Tryz.ntmps88
  go_wp2
  go_loopw [5, 6] (fun v iv wr => ∃ (i : Nat) (ad : Option Addr) (c : Nat), x + 1 ≤ i ∧ i ≤ n ∧ iv = .int .i64 i ∧ v = .slice ad (kd D x i).length c ∧ wr.ownsRow w.heap.size 2 1 (.slice ad (kd D x i).length c) (kd D x i).length ((kd D x i).map (Value.int .i64)) ∧ Below w.heap.size w wr) (fun _ iv _ => n - (intOf iv).toNat)
  case atStart =>
    have e : kd D x (x + 1) = [] := kd_start (fun j hj => (HC.out j (by omega)).2) (x + 1) (Nat.le_refl _)
    refine ⟨x + 1, none, 0, Nat.le_refl _, by omega, by go_num, by rw [e]; rfl, ?_, Below.refl _ _⟩
    rw [e]
    exact ⟨rfl, .inl ⟨rfl, rfl⟩⟩
  case round =>
    obtain ⟨i, ad, c, hi1, hi2, rfl, rfl, ho, hb⟩ := hrel
    have HO := hide ho
    have HB := hide hb
    have hkl := kd_len D x i
    have hsz : w.heap.size ≤ wr.heap.size := hb.size
    by_cases hlt : i < n
    · obtain ⟨ad9, cp9, hc9, -⟩ := HR.out i (by rw [HD.out]; omega)
      obtain ⟨c0, c1, c2, c3⟩ := dcCells_go hc9 hbs hb
      have hin : (i : Int) < (n : Int) := by omega
      have hi00 : (0 : Int) ≤ (i : Int) := by omega
      clear hc9 ho hb
      by_cases hge : (x : Int) ≤ D.U i
      · by_cases hu : D.U i = x
        · have e : kd D x (i + 1) = kd D x i ++ [(i : Int)] := kd_yes hu
          obtain ⟨L, hL⟩ : ∃ L, kd D x i = L := ⟨_, rfl⟩
          rw [hL] at e HO hkl ⊢
          have HE := hide e
          have hub : (D.U i == (x : Int)) = true := by simpa using hu
          clear e hL hu
          go_wp2_with (at_builtin; refine wpList_append_own _ rfl (.tmp 31) (.tmp 33) 33 rfl w.heap.size 2 i0 (.int .i64 0) 1 8 Tryz.underlying33 hi hz0 hz1 hz2 rfl (by decide) _ _ _ rfl (HO.out.alloc _) ⟨wr.heap.size, 0, none⟩ 1 1 [.int .i64 (i : Int)] rfl rfl (fun j u hj => gOne_new wr _ _ j u hj) (gOne_list _ _) (by unfold maxLen; omega) (by omega) (by simp; omega) ?_; intro v2 w2 hown2 hgrow2 _; obtain ⟨ad2, c2', hv2⟩ := gOwn_shape hown2; rw [hv2] at hown2 ⊢; clear hv2; have HB3 := hide (gBelow_one HB.out HO.out hgrow2); have HO2 := hide hown2; clear hown2 hgrow2)
          go_roundw
          case rel =>
            refine ⟨i + 1, ad2, c2', by omega, by omega, by go_num, ?_, ?_, HB3.out⟩
            · rw [HE.out]; simp
            · have := HO2.out
              rw [HE.out]
              simpa using this
          case measure => simp [intOf]; omega
        · have e : kd D x (i + 1) = kd D x i := kd_no hu
          have HE := hide e
          have hub : (D.U i == (x : Int)) = false := by simpa using hu
          clear e hu
          go_wp2
          go_roundw
          case rel => exact ⟨i + 1, ad, c, by omega, by omega, by go_num, by rw [HE.out], by rw [HE.out]; exact HO.out, HB.out⟩
          case measure => simp [intOf]; omega
      · have e : kd D x n = kd D x i := by
          have := kd_rest HG.out (show x < i by omega) (by omega) (n - i) (by omega)
          rw [show i + (n - i) = n by omega] at this
          exact this
        have HE := hide e
        have hlo : D.U i < (x : Int) := by omega
        clear e hge
        go_wp2
        go_ret
        refine ⟨ad, c, by rw [HE.out]; rfl, by rw [HE.out]; exact HO.out, HB.out⟩
    · have hin : i = n := by omega
      subst hin
      go_wp2
      go_ret
      exact ⟨ad, c, rfl, ho, hb⟩
set_option maxHeartbeats 2000000 in
theorem i_textBelow (D : Dc) (n b off cap : Nat) (w : World) (x : Nat) (hD : D.n = n) (hn : n ≤ 200) (hx : x < n) (hbs : b < w.heap.size) (hr : DcRow w b off D w.heap.size) (hg : Good D n) (hsz : sumN (szD D) n ≤ 2500) :
    Calls Tryz.prog 93 #[.slice (some ⟨b, off, none⟩) n cap, .int .i64 x] w fun e w' => e = .returned (.string (txF D x n)) ∧ Below w.heap.size w w' := by
  have HD := hide hD
  have HR := hide hr
  have CK := hide (i_kidsBelow D n b off cap w x hD hn hx hbs hr hg)
  have htx := txF_size D x n
  have hcat := cat_kd D x n
  have hmem := kd_mem (D := D) (x := (x : Int)) n
  have hlen := kd_len D x n
  obtain ⟨L, hL⟩ : ∃ L, kd D x n = L := ⟨_, rfl⟩
  rw [hL] at CK hcat hmem hlen
  rw [← hcat] at htx ⊢
  have HT : Hid ((catT D L).size ≤ 2500) := hide (by omega)
  have HM := hide hmem
  clear hr hg htx hcat hmem hL hD
  go_enter Tryz.func93, Tryz.ntmps93
  go_wp2_with fail
  refine CK.out.mono ?_
  rintro e w1 ⟨ad, c, rfl, ho, hb⟩
  have hra := own_rowAt' rfl ho
  have HRA := hide hra
  have HB := hide hb
  clear ho hra hb
  go_wp2
  go_loop [5, 12] (fun s i => ∃ j : Nat, j ≤ L.length ∧ s = .string (catT D (L.take j)) ∧ i = .int .i64 j) (fun _ i => L.length - (intOf i).toNat)
  case atStart => exact ⟨0, Nat.zero_le _, rfl, rfl⟩
  case round =>
    obtain ⟨j, hj, rfl, rfl⟩ := hrel
    by_cases hlt : j < L.length
    · obtain ⟨b9, off9, rfl, hb9, hc9⟩ := HRA.out (fun h => by rw [h] at hlt; exact absurd hlt (Nat.not_lt_zero _))
      have k0 := hc9 j hlt
      obtain ⟨v, hv⟩ : ∃ v, L[j]?.getD 0 = v := ⟨_, rfl⟩
      have hvm := HM.out v (by rw [← hv, List.getElem?_eq_getElem hlt]; exact List.getElem_mem hlt)
      rw [hv] at k0
      obtain ⟨ad8, cp8, hc8, -⟩ := HR.out v.toNat (by rw [HD.out]; omega)
      obtain ⟨c0, c1, c2, c3⟩ := dcCells_go hc8 hbs HB.out
      have HTK := hide (catT_take D L j hlt)
      rw [hv] at HTK
      have hle := catT_le D L (j + 1)
      rw [HTK.out, ByteArray.size_append] at hle
      have hT := HT.out
      obtain ⟨S, hS⟩ : ∃ S, catT D (L.take j) = S := ⟨_, rfl⟩
      rw [hS] at HTK hle ⊢
      have hS1 : ¬ 9223372036854775807 < S.size + (D.TX v.toNat).size := by omega
      have hjl : (j : Int) < (L.length : Int) := by omega
      have hvn : v < (n : Int) := by omega
      have hv0 : 0 ≤ v := by omega
      clear hc9 hv hc8 hS hle hT
      go_wp2
      go_round
      case rel => exact ⟨j + 1, by omega, by rw [HTK.out], by go_num⟩
      case measure => simp [intOf]; omega
    · have hjn : j = L.length := by omega
      subst hjn
      go_wp2
      go_ret
      exact ⟨by first | rfl | rw [List.take_length], HB.out⟩
/-- There is such an element. -/
theorem i_hasElement (D : Dc) (n : Nat) (a : Option Addr) (cap : Nat) (x : Int) (w : World) (hD : D.n = n) (hz : dcTot D ≤ 1048576) (hr : DcAt w a D w.heap.size) (hT : Tabs w) :
    Calls Tryz.prog 25 #[.slice a n cap, .int .i64 x] w fun e w' => e = .returned (.bool (txOk D x)) ∧ Below w.heap.size w w' := by
  have HD := hide hD
  have HR := hide hr
  have hn : n ≤ 1048576 := by rw [← hD]; exact (dc_sz hz).1
  have CH := hide (i_hasItem D n a cap x w hD hz hr hT)
  have HTX : Hid (txOk D x = (hasB' D x && !(D.NM x.toNat).toList.isEmpty)) := hide (by unfold txOk hasB'; rw [Bool.and_assoc])
  clear hr hD hz hT
  cases hh : hasB' D x
  · rw [hh] at CH HTX
    go_enter Tryz.func25, Tryz.ntmps25
    go_wp2_with (first | (go_at_call 51; refine CH.out.mono ?_; rintro e w1 ⟨rfl, hb1⟩; have HB := hide hb1; clear hb1))
    go_ret
    exact ⟨ret_bool (by rw [HTX.out]; rfl), HB.out⟩
  · have hh2 := hh
    unfold hasB' at hh2
    simp only [Bool.and_eq_true, decide_eq_true_eq] at hh2
    obtain ⟨hd, h0, h1⟩ := hh2
    rw [HD.out] at h1
    rw [hh] at CH HTX
    obtain ⟨b, off, rfl, hbs, hrow⟩ := HR.out (by rw [HD.out]; omega)
    obtain ⟨ad, cp, hc, -⟩ := hrow x.toNat (by rw [HD.out]; omega)
    have HCC := hide hc
    have hxn : x < (n : Int) := by omega
    clear hrow hc hd
    cases he : (D.NM x.toNat).toList.isEmpty
    all_goals
      go_enter Tryz.func25, Tryz.ntmps25
      go_wp2_with fail
      refine CH.out.mono ?_
      rintro e w1 ⟨rfl, hb1⟩
      obtain ⟨c0, c1, c2, c3⟩ := dcCells_go HCC.out hbs hb1
      have HB := hide hb1
      clear hb1
      go_wp2
      go_ret
      exact ⟨ret_bool (by rw [HTX.out, he]; rfl), HB.out⟩
end Go.Proofs.YtdepgkpfibmbgaaGreatDoor
