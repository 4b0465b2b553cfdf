/-
  Texts put together: TeD, TeS.
-/
import Derived.Test.YtepommmmmfaihaaGreatDoorB9
import Derived.Laws.BytesArg
import Derived.OwnWalk
import Derived.Outline
import Derived.Laws.IdiomStrings
import Derived.Test.YtepommmmmfaihaaGreatDoorB1
/-
  Contracts of the specification: the bytes of a character, a small number in decimal.
-/
namespace Go.Proofs.YtepommmmmfaihaaGreatDoor
open Go.RowKit Go.Joins
set_option linter.unusedVariables false
set_option linter.unusedSimpArgs false
theorem bl_app (a b : ByteArray) : (a ++ b).data.toList = a.data.toList ++ b.data.toList := te_app a b
theorem ret_s9 {a b : ByteArray} (h : a = b) : Ending.returned (.string a) = .returned (.string b) := by rw [h]
theorem conv_new (w : World) (xs : List Int) :
    (convert 22 9 (.slice (some ⟨w.heap.size, 0, none⟩) xs.length xs.length)).run Tryz.prog (w.alloc (.cells (xs.map (Value.int .u8)).toArray 5)) = .ok (.string (strOfNums xs)) (w.alloc (.cells (xs.map (Value.int .u8)).toArray 5)) := by
  refine run_convert_bytes_arg _ 22 5 Tryz.underlying22 Tryz.underlying5 w.heap.size 0 xs.length xs.length xs rfl ?_ 9 Tryz.underlying9
  intro i hi
  rw [show (0 + i) = i by omega, cell_of_row _ w.heap.size i _ 5 (0, 0) (heap_alloc_new w _)]
  simp [List.getElem?_eq_getElem hi]
theorem s_bytes_of (r : Int) (w : World) (xs : List Int) (hx : Lib.encodeRuneZ r = xs)
    (h : Calls Tryz.prog 33 #[.int .i64 r] w fun e w' => e = .returned (.string (strOfNums xs)) ∧ w' = w.alloc (.cells (xs.map (Value.int .u8)).toArray 5)) :
    Calls Tryz.prog 33 #[.int .i64 r] w fun e w' => e = .returned (.string (strOfNums (Lib.encodeRuneZ r))) ∧ Below w.heap.size w w' := by
  rw [hx]
  refine h.mono ?_
  rintro e w' ⟨rfl, rfl⟩
  exact ⟨rfl, (Below.refl _ _).alloc (Nat.le_refl _) _⟩

set_option maxRecDepth 100000 in
set_option maxHeartbeats 1000000 in
theorem s_bytes (r : Int) (w : World) (hc : chB r = true) : Calls Tryz.prog 33 #[.int .i64 r] w fun e w' => e = .returned (.string (strOfNums (Lib.encodeRuneZ r))) ∧ Below w.heap.size w w' := by
  have hr : (0 ≤ r ∧ r ≤ 55295) ∨ (57344 ≤ r ∧ r ≤ 1114111) := of_decide_eq_true hc
  clear hc
  by_cases h1 : r ≤ 127
  · have h0 : 0 ≤ r := by omega
    clear hr
    refine s_bytes_of r w _ (Lib.encodeRuneZ_one h0 h1) ?_
    have hcv := conv_new w [r]
    simp only [List.map_cons, List.map_nil, List.length_cons, List.length_nil, Nat.zero_add] at hcv ⊢
    go_enter Tryz.func33, Tryz.ntmps33
    go_wp2
    go_ret
    exact ⟨rfl, rfl⟩
  · by_cases h2 : r ≤ 2047
    · have h0 : 128 ≤ r := by omega
      clear hr h1
      refine s_bytes_of r w _ (Lib.encodeRuneZ_two h0 h2) ?_
      have hcv := conv_new w [192 + r / 64, 128 + r % 64]
      simp only [List.map_cons, List.map_nil, List.length_cons, List.length_nil, Nat.zero_add] at hcv ⊢
      go_enter Tryz.func33, Tryz.ntmps33
      go_wp2
      go_ret
      exact ⟨rfl, rfl⟩
    · by_cases h3 : r ≤ 65535
      · have h0 : 2048 ≤ r := by omega
        have h4 : (2048 ≤ r ∧ r < 55296) ∨ (57343 < r ∧ r ≤ 65535) := by omega
        clear hr h1 h2
        refine s_bytes_of r w _ (Lib.encodeRuneZ_three h4) ?_
        clear h4
        have hcv := conv_new w [224 + r / 4096, 128 + r / 64 % 64, 128 + r % 64]
        simp only [List.map_cons, List.map_nil, List.length_cons, List.length_nil, Nat.zero_add] at hcv ⊢
        go_enter Tryz.func33, Tryz.ntmps33
        go_wp2
        go_ret
        exact ⟨rfl, rfl⟩
      · have h0 : 65536 ≤ r := by omega
        have h5 : r ≤ 1114111 := by omega
        clear hr h1 h2 h3
        refine s_bytes_of r w _ (Lib.encodeRuneZ_four h0 h5) ?_
        have hcv := conv_new w [240 + r / 262144, 128 + r / 4096 % 64, 128 + r / 64 % 64, 128 + r % 64]
        simp only [List.map_cons, List.map_nil, List.length_cons, List.length_nil, Nat.zero_add] at hcv ⊢
        go_enter Tryz.func33, Tryz.ntmps33
        go_wp2
        go_ret
        exact ⟨rfl, rfl⟩


theorem dec_one {n : Int} (h0 : 0 ≤ n) (h1 : n < 10) : (strOfNums [48 + n]).data.toList = Lib.itoa n := by
  unfold strOfNums Lib.itoa
  rw [if_neg (by omega), Lib.decDigits_one (by omega)]
  simp only [List.map_cons, List.map_nil]
  rw [show ((48 : Int) + n).toNat = 48 + n.toNat by omega]
theorem dec_two {n : Int} (h0 : 10 ≤ n) (h1 : n < 100) : (strOfNums [48 + n / 10] ++ strOfNums [48 + n % 10]).data.toList = Lib.itoa n := by
  rw [bl_app]
  unfold strOfNums Lib.itoa
  rw [if_neg (by omega), Lib.decDigits, dif_neg (by omega), Lib.decDigits_one (by omega)]
  simp only [List.map_cons, List.map_nil]
  rw [show ((48 : Int) + n / 10).toNat = 48 + n.toNat / 10 by omega, show ((48 : Int) + n % 10).toNat = 48 + n.toNat % 10 by omega]
theorem one_size (z : Int) : (strOfNums [z]).size = 1 := rfl
set_option maxRecDepth 100000 in
set_option maxHeartbeats 4000000 in
theorem s_dec0 (n : Int) (w : World) (h0 : 0 ≤ n) (h1 : n ≤ 30) : Calls Tryz.prog 89 #[.int .i64 n] w fun e w' => e = .returned (.string ⟨(Lib.itoa n).toArray⟩) ∧ Below w.heap.size w w' := by
  by_cases h9 : n < 10
  · have HD := hide (dec_one h0 h9)
    have hcv := conv_new w [48 + n]
    simp only [List.map_cons, List.map_nil, List.length_cons, List.length_nil, Nat.zero_add] at hcv
    have hsz := one_size (48 + n)
    obtain ⟨S, hS⟩ : ∃ S, strOfNums [48 + n] = S := ⟨_, rfl⟩
    rw [hS] at hcv HD hsz
    have hs1 : S.size ≤ 1 := by omega
    clear hS hsz
    go_enter Tryz.func89, Tryz.ntmps89
    go_wp2
    go_loopw [0, 3] (fun nv sv wr => nv = .int .i64 n ∧ sv = .string ⟨#[]⟩ ∧ wr = w) (fun _ _ _ => 0)
    case atStart => exact ⟨rfl, rfl, rfl⟩
    case round =>
      obtain ⟨rfl, rfl, rfl⟩ := hrel
      go_wp2
      go_ret
      refine ⟨ret_s9 (Go.WideShapes.bytes_inj ?_), (Below.refl _ _).alloc (Nat.le_refl _) _⟩
      first | (rw [bl_app, HD.out]; simp) | rw [HD.out]
  · have HD := hide (dec_two (show 10 ≤ n by omega) (by omega))
    have hcv := conv_new w [48 + n % 10]
    have hcv2 := conv_new (w.alloc (.cells (([48 + n % 10] : List Int).map (Value.int .u8)).toArray 5)) [48 + n / 10]
    simp only [List.map_cons, List.map_nil, List.length_cons, List.length_nil, Nat.zero_add, World.size_alloc] at hcv hcv2
    obtain ⟨S, hS⟩ : ∃ S, strOfNums [48 + n % 10] = S := ⟨_, rfl⟩
    obtain ⟨T, hT⟩ : ∃ T, strOfNums [48 + n / 10] = T := ⟨_, rfl⟩
    have hs1 : S.size ≤ 1 := by rw [← hS, one_size]; omega
    have ht1 : T.size ≤ 1 := by rw [← hT, one_size]; omega
    rw [hS] at hcv HD
    rw [hT] at hcv2 HD
    have hq : 0 ≤ n / 10 ∧ n / 10 < 10 := by omega
    have hq1 : 0 ≤ n / 10 := hq.1
    have hq2 : n / 10 < 10 := hq.2
    have hr1 : 0 ≤ n % 10 := by omega
    have hr2 : n % 10 < 10 := by omega
    clear hS hT hq
    go_enter Tryz.func89, Tryz.ntmps89
    go_wp2
    go_loopw [0, 3] (fun nv sv wr => (nv = .int .i64 n ∧ sv = .string ⟨#[]⟩ ∧ wr = w) ∨ (nv = .int .i64 (n / 10) ∧ (∃ s, sv = .string s ∧ s = S) ∧ wr = w.alloc (.cells #[.int .u8 (48 + n % 10)] 5))) (fun nv _ _ => (intOf nv).toNat)
    case atStart => exact .inl ⟨rfl, rfl, rfl⟩
    case round =>
      rcases hrel with ⟨rfl, rfl, rfl⟩ | ⟨rfl, ⟨s, rfl, rfl⟩, rfl⟩
      · have h10 : 10 ≤ n := by omega
        go_wp2
        go_roundw
        case rel => exact .inr ⟨rfl, ⟨_, rfl, by apply Go.WideShapes.bytes_inj; first | (rw [bl_app]; simp) | rfl⟩, by first | rfl | trivial⟩
        case measure => simp [intOf]; omega
      · go_wp2
        go_ret
        refine ⟨ret_s9 (Go.WideShapes.bytes_inj ?_), ((Below.refl _ _).alloc (Nat.le_refl _) _).alloc (by simp) _⟩
        rw [HD.out]
/-- The bytes of a character. -/
theorem s_enc (r : Int) (w : World) (h : chB r = true) : Calls Tryz.prog 33 #[.int .i64 r] w fun e w' => e = .returned (.string (Utf8.encode r)) ∧ Below w.heap.size w w' := by
  rw [← enc_nums h]
  exact s_bytes r w h
theorem s_decT (n : Int) (w : World) (h0 : 0 ≤ n) (h1 : n ≤ 20) : Calls Tryz.prog 89 #[.int .i64 n] w fun e w' => e = .returned (.string (itB n)) ∧ Below w.heap.size w w' := s_dec0 n w h0 (by omega)
end Go.Proofs.YtepommmmmfaihaaGreatDoor

/-
  Contracts of the specification: signs, characters' texts, classes' texts, counts' texts.
-/
namespace Go.Proofs.YtepommmmmfaihaaGreatDoor
open Go.RowKit Go.Joins
set_option linter.unusedVariables false
set_option linter.unusedSimpArgs false
set_option maxRecDepth 100000 in
set_option maxHeartbeats 2000000 in
theorem s_meta (c : Int) (w : World) : Calls Tryz.prog 100 #[.int .i64 c] w fun e w' => e = .returned (.bool (isS sgO c)) ∧ w' = w := by
  go_enter Tryz.func100, Tryz.ntmps100
  go_wp2
  go_loop [3] (fun i => ∃ k : Nat, k ≤ 12 ∧ i = .int .i64 k ∧ Hid (∀ j, j < k → ((sgO[j]?.getD 0).toNat : Int) ≠ c)) (fun i => 12 - (intOf i).toNat)
  case atStart => exact ⟨0, Nat.zero_le _, rfl, fun j h => by omega⟩
  case round =>
    obtain ⟨k, hk, rfl, HA⟩ := hrel
    by_cases hlt : k < 12
    · have hki : (k : Int) < 12 := by omega
      have hkb : k < (⟨#[46, 92, 63, 42, 43, 123, 125, 40, 41, 124, 91, 93]⟩ : ByteArray).size := hlt
      have hkb2 : (k : Int) < ((⟨#[46, 92, 63, 42, 43, 123, 125, 40, 41, 124, 91, 93]⟩ : ByteArray).size : Int) := hki
      obtain ⟨x, hx⟩ : ∃ x : UInt8, (⟨#[46, 92, 63, 42, 43, 123, 125, 40, 41, 124, 91, 93]⟩ : ByteArray)[k]'hkb = x := ⟨_, rfl⟩
      have hx2 : sgO[k]?.getD 0 = x := by
        rw [← hx]
        have hkl : k < sgO.length := hlt
        rw [List.getElem?_eq_getElem hkl]
        rfl
      have HX2 := hide hx2
      have hx8 : x.toNat < 256 := x.toNat_lt
      clear hx2
      by_cases he : (x.toNat : Int) = c
      · have heb : ((x.toNat : Int) == c) = true := by rw [beq_iff_eq]; exact he
        have HY : Hid (isS sgO c = true) := hide (isS_yes (j := k) hlt (by rw [HX2.out]; exact he))
        clear he
        go_wp2
        go_ret
        exact ⟨ret_bool HY.out.symm, rfl⟩
      · have heb : ((x.toNat : Int) == c) = false := by rw [beq_eq_false_iff_ne]; exact he
        have HA2 : Hid (∀ j, j < k + 1 → ((sgO[j]?.getD 0).toNat : Int) ≠ c) := hide (fun j hj => by
          by_cases e : j = k
          · subst e; rw [HX2.out]; exact he
          · exact HA.out j (by omega))
        clear he
        go_wp2
        go_round
        case rel => exact ⟨k + 1, by omega, by go_num, HA2⟩
        case measure => simp [intOf]; omega
    · have hkm : k = 12 := by omega
      subst hkm
      have HN : Hid (isS sgO c = false) := hide (isS_no HA.out)
      go_wp2
      go_ret
      exact ⟨ret_bool HN.out.symm, rfl⟩
theorem ch_sgI (c : Int) : isS sgI c = decide (c = 91 ∨ c = 93 ∨ c = 92 ∨ c = 45 ∨ c = 94) := by
  unfold isS sgI
  rw [Bool.eq_iff_iff]
  simp
  omega
/-- A character's text, written within brackets or not. -/
def sgOf (ins : Bool) : List UInt8 := if ins = true then sgI else sgO
set_option maxRecDepth 100000 in
set_option maxHeartbeats 4000000 in
theorem s_sign (c : Int) (ins : Bool) (w : World) (hc : chB c = true) : Calls Tryz.prog 88 #[.int .i64 c, .bool ins] w fun e w' => e = .returned (.string (chT (sgOf ins) c)) ∧ Below w.heap.size w w' := by
  by_cases h10 : c = 10
  · subst h10
    go_enter Tryz.func88, Tryz.ntmps88
    go_wp2
    go_ret
    exact ⟨rfl, Below.refl _ _⟩
  · by_cases h13 : c = 13
    · subst h13
      go_enter Tryz.func88, Tryz.ntmps88
      go_wp2
      go_ret
      exact ⟨rfl, Below.refl _ _⟩
    · by_cases h9 : c = 9
      · subst h9
        go_enter Tryz.func88, Tryz.ntmps88
        go_wp2
        go_ret
        exact ⟨rfl, Below.refl _ _⟩
      · have b10 : (c == 10) = false := by rw [beq_eq_false_iff_ne]; exact h10
        have b13 : (c == 13) = false := by rw [beq_eq_false_iff_ne]; exact h13
        have b9 : (c == 9) = false := by rw [beq_eq_false_iff_ne]; exact h9
        have HCH : Hid (∀ b, isS (sgOf ins) c = b → chT (sgOf ins) c = if b = true then ⟨#[92]⟩ ++ Utf8.encode c else Utf8.encode c) := hide (fun b hb => by
          unfold chT
          rw [if_neg h10, if_neg h13, if_neg h9, hb])
        have CE := hide (s_enc c w hc)
        have hes := enc_size c
        obtain ⟨E, hE⟩ : ∃ E, Utf8.encode c = E := ⟨_, rfl⟩
        rw [hE] at CE HCH hes
        have CM := hide (s_meta c w)
        clear hE hc
        cases ins
        · cases hm : isS sgO c
          · have HV := hide (HCH.out false hm)
            rw [hm] at CM
            clear h10 h13 h9
            go_enter Tryz.func88, Tryz.ntmps88
            go_wp2_with (first | (go_at_call 100; refine CM.out.mono ?_; rintro e w9 ⟨rfl, h9⟩; rw [h9]; clear h9 w9) | (go_at_call 33; refine CE.out.mono ?_; rintro e w2 ⟨rfl, hb2⟩; have HB2 := hide hb2; clear hb2))
            go_ret
            exact ⟨ret_s9 (by rw [HV.out]; rfl), HB2.out⟩
          · have HV := hide (HCH.out true hm)
            rw [hm] at CM
            clear h10 h13 h9
            go_enter Tryz.func88, Tryz.ntmps88
            go_wp2_with (first | (go_at_call 100; refine CM.out.mono ?_; rintro e w9 ⟨rfl, h9⟩; rw [h9]; clear h9 w9) | (go_at_call 33; refine CE.out.mono ?_; rintro e w2 ⟨rfl, hb2⟩; have HB2 := hide hb2; clear hb2))
            go_ret
            exact ⟨ret_s9 (by rw [HV.out]; rfl), HB2.out⟩
        · by_cases hx : c = 91 ∨ c = 93 ∨ c = 92 ∨ c = 45 ∨ c = 94
          · have HV := hide (HCH.out true (by show isS sgI c = true; rw [ch_sgI]; exact decide_eq_true hx))
            clear h10 h13 h9
            rcases hx with rfl | rfl | rfl | rfl | rfl
            all_goals
              go_enter Tryz.func88, Tryz.ntmps88
              go_wp2_with (first | (go_at_call 100; refine CM.out.mono ?_; rintro e w9 ⟨rfl, h9⟩; rw [h9]; clear h9 w9; simp only [isS, sgO, List.any_cons, List.any_nil]) | (go_at_call 33; refine CE.out.mono ?_; rintro e w2 ⟨rfl, hb2⟩; have HB2 := hide hb2; clear hb2))
              go_ret
              exact ⟨ret_s9 (by rw [HV.out]; rfl), HB2.out⟩
          · have HV := hide (HCH.out false (by show isS sgI c = false; rw [ch_sgI]; exact decide_eq_false hx))
            have b1 : (c == 91) = false := by rw [beq_eq_false_iff_ne]; omega
            have b2 : (c == 93) = false := by rw [beq_eq_false_iff_ne]; omega
            have b3 : (c == 92) = false := by rw [beq_eq_false_iff_ne]; omega
            have b4 : (c == 45) = false := by rw [beq_eq_false_iff_ne]; omega
            have b5 : (c == 94) = false := by rw [beq_eq_false_iff_ne]; omega
            clear hx h10 h13 h9
            cases hm : isS sgO c
            all_goals
              rw [hm] at CM
              go_enter Tryz.func88, Tryz.ntmps88
              go_wp2_with (first | (go_at_call 100; refine CM.out.mono ?_; rintro e w9 ⟨rfl, h9⟩; rw [h9]; clear h9 w9) | (go_at_call 33; refine CE.out.mono ?_; rintro e w2 ⟨rfl, hb2⟩; have HB2 := hide hb2; clear hb2))
              go_ret
              exact ⟨ret_s9 (by rw [HV.out]; rfl), HB2.out⟩
end Go.Proofs.YtepommmmmfaihaaGreatDoor
