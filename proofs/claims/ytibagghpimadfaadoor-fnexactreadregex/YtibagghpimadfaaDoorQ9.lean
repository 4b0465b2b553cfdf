/-
  Texts put together: TeD, TeS, RsA.
-/
import Derived.Test.YtibagghpimadfaaDoorQ7
import Derived.Laws.BytesArg
import Derived.OwnWalk
import Derived.Outline
import Derived.Laws.IdiomStrings
import Derived.Test.YtibagghpimadfaaDoorQ2
import Derived.Test.YtibagghpimadfaaDoorQ8
import Derived.Test.YtibagghpimadfaaDoorQ4
import Derived.Deep.QuietTactic
/-
  Contracts of the specification: the bytes of a character, a small number in decimal.
-/
namespace Go.Proofs.YtibagghpimadfaaDoor
open Go.RowKit Go.Joins
set_option linter.unusedVariables false
set_option linter.unusedSimpArgs false
theorem bl_app (a b : ByteArray) : (a ++ b).data.toList = a.data.toList ++ b.data.toList := te_app a b
theorem ret_s9 {a b : ByteArray} (h : a = b) : Ending.returned (.string a) = .returned (.string b) := by rw [h]
theorem conv_new (w : World) (xs : List Int) :
    (convert 22 9 (.slice (some ⟨w.heap.size, 0, none⟩) xs.length xs.length)).run Tryd.prog (w.alloc (.cells (xs.map (Value.int .u8)).toArray 5)) = .ok (.string (strOfNums xs)) (w.alloc (.cells (xs.map (Value.int .u8)).toArray 5)) := by
  refine run_convert_bytes_arg _ 22 5 Tryd.underlying22 Tryd.underlying5 w.heap.size 0 xs.length xs.length xs rfl ?_ 9 Tryd.underlying9
  intro i hi
  rw [show (0 + i) = i by omega, cell_of_row _ w.heap.size i _ 5 (0, 0) (heap_alloc_new w _)]
  simp [List.getElem?_eq_getElem hi]
theorem s_bytes_of (r : Int) (w : World) (xs : List Int) (hx : Lib.encodeRuneZ r = xs)
    (h : Calls Tryd.prog 87 #[.int .i64 r] w fun e w' => e = .returned (.string (strOfNums xs)) ∧ w' = w.alloc (.cells (xs.map (Value.int .u8)).toArray 5)) :
    Calls Tryd.prog 87 #[.int .i64 r] w fun e w' => e = .returned (.string (strOfNums (Lib.encodeRuneZ r))) ∧ Below w.heap.size w w' := by
  rw [hx]
  refine h.mono ?_
  rintro e w' ⟨rfl, rfl⟩
  exact ⟨rfl, (Below.refl _ _).alloc (Nat.le_refl _) _⟩

set_option maxRecDepth 100000 in
set_option maxHeartbeats 1000000 in
theorem s_bytes (r : Int) (w : World) (hc : chB r = true) : Calls Tryd.prog 87 #[.int .i64 r] w fun e w' => e = .returned (.string (strOfNums (Lib.encodeRuneZ r))) ∧ Below w.heap.size w w' := by
  have hr : (0 ≤ r ∧ r ≤ 55295) ∨ (57344 ≤ r ∧ r ≤ 1114111) := of_decide_eq_true hc
  clear hc
  by_cases h1 : r ≤ 127
  · have h0 : 0 ≤ r := by omega
    clear hr
    refine s_bytes_of r w _ (Lib.encodeRuneZ_one h0 h1) ?_
    have hcv := conv_new w [r]
    simp only [List.map_cons, List.map_nil, List.length_cons, List.length_nil, Nat.zero_add] at hcv ⊢
    go_enter Tryd.func87, Tryd.ntmps87
    go_wp2
    go_ret
    exact ⟨rfl, rfl⟩
  · by_cases h2 : r ≤ 2047
    · have h0 : 128 ≤ r := by omega
      clear hr h1
      refine s_bytes_of r w _ (Lib.encodeRuneZ_two h0 h2) ?_
      have hcv := conv_new w [192 + r / 64, 128 + r % 64]
      simp only [List.map_cons, List.map_nil, List.length_cons, List.length_nil, Nat.zero_add] at hcv ⊢
      go_enter Tryd.func87, Tryd.ntmps87
      go_wp2
      go_ret
      exact ⟨rfl, rfl⟩
    · by_cases h3 : r ≤ 65535
      · have h0 : 2048 ≤ r := by omega
        have h4 : (2048 ≤ r ∧ r < 55296) ∨ (57343 < r ∧ r ≤ 65535) := by omega
        clear hr h1 h2
        refine s_bytes_of r w _ (Lib.encodeRuneZ_three h4) ?_
        clear h4
        have hcv := conv_new w [224 + r / 4096, 128 + r / 64 % 64, 128 + r % 64]
        simp only [List.map_cons, List.map_nil, List.length_cons, List.length_nil, Nat.zero_add] at hcv ⊢
        go_enter Tryd.func87, Tryd.ntmps87
        go_wp2
        go_ret
        exact ⟨rfl, rfl⟩
      · have h0 : 65536 ≤ r := by omega
        have h5 : r ≤ 1114111 := by omega
        clear hr h1 h2 h3
        refine s_bytes_of r w _ (Lib.encodeRuneZ_four h0 h5) ?_
        have hcv := conv_new w [240 + r / 262144, 128 + r / 4096 % 64, 128 + r / 64 % 64, 128 + r % 64]
        simp only [List.map_cons, List.map_nil, List.length_cons, List.length_nil, Nat.zero_add] at hcv ⊢
        go_enter Tryd.func87, Tryd.ntmps87
        go_wp2
        go_ret
        exact ⟨rfl, rfl⟩


theorem dec_one {n : Int} (h0 : 0 ≤ n) (h1 : n < 10) : (strOfNums [48 + n]).data.toList = Lib.itoa n := by
  unfold strOfNums Lib.itoa
  rw [if_neg (by omega), Lib.decDigits_one (by omega)]
  simp only [List.map_cons, List.map_nil]
  rw [show ((48 : Int) + n).toNat = 48 + n.toNat by omega]
theorem dec_two {n : Int} (h0 : 10 ≤ n) (h1 : n < 100) : (strOfNums [48 + n / 10] ++ strOfNums [48 + n % 10]).data.toList = Lib.itoa n := by
  rw [bl_app]
  unfold strOfNums Lib.itoa
  rw [if_neg (by omega), Lib.decDigits, dif_neg (by omega), Lib.decDigits_one (by omega)]
  simp only [List.map_cons, List.map_nil]
  rw [show ((48 : Int) + n / 10).toNat = 48 + n.toNat / 10 by omega, show ((48 : Int) + n % 10).toNat = 48 + n.toNat % 10 by omega]
theorem one_size (z : Int) : (strOfNums [z]).size = 1 := rfl
set_option maxRecDepth 100000 in
set_option maxHeartbeats 4000000 in
theorem s_dec0 (n : Int) (w : World) (h0 : 0 ≤ n) (h1 : n ≤ 30) : Calls Tryd.prog 76 #[.int .i64 n] w fun e w' => e = .returned (.string ⟨(Lib.itoa n).toArray⟩) ∧ Below w.heap.size w w' := by
  by_cases h9 : n < 10
  · have HD := hide (dec_one h0 h9)
    have hcv := conv_new w [48 + n]
    simp only [List.map_cons, List.map_nil, List.length_cons, List.length_nil, Nat.zero_add] at hcv
    have hsz := one_size (48 + n)
    obtain ⟨S, hS⟩ : ∃ S, strOfNums [48 + n] = S := ⟨_, rfl⟩
    rw [hS] at hcv HD hsz
    have hs1 : S.size ≤ 1 := by omega
    clear hS hsz
    go_enter Tryd.func76, Tryd.ntmps76
    go_wp2
    go_loopw [0, 3] (fun nv sv wr => nv = .int .i64 n ∧ sv = .string ⟨#[]⟩ ∧ wr = w) (fun _ _ _ => 0)
    case atStart => exact ⟨rfl, rfl, rfl⟩
    case round =>
      obtain ⟨rfl, rfl, rfl⟩ := hrel
      go_wp2
      go_ret
      refine ⟨ret_s9 (Go.WideShapes.bytes_inj ?_), (Below.refl _ _).alloc (Nat.le_refl _) _⟩
      first | (rw [bl_app, HD.out]; simp) | rw [HD.out]
  · have HD := hide (dec_two (show 10 ≤ n by omega) (by omega))
    have hcv := conv_new w [48 + n % 10]
    have hcv2 := conv_new (w.alloc (.cells (([48 + n % 10] : List Int).map (Value.int .u8)).toArray 5)) [48 + n / 10]
    simp only [List.map_cons, List.map_nil, List.length_cons, List.length_nil, Nat.zero_add, World.size_alloc] at hcv hcv2
    obtain ⟨S, hS⟩ : ∃ S, strOfNums [48 + n % 10] = S := ⟨_, rfl⟩
    obtain ⟨T, hT⟩ : ∃ T, strOfNums [48 + n / 10] = T := ⟨_, rfl⟩
    have hs1 : S.size ≤ 1 := by rw [← hS, one_size]; omega
    have ht1 : T.size ≤ 1 := by rw [← hT, one_size]; omega
    rw [hS] at hcv HD
    rw [hT] at hcv2 HD
    have hq : 0 ≤ n / 10 ∧ n / 10 < 10 := by omega
    have hq1 : 0 ≤ n / 10 := hq.1
    have hq2 : n / 10 < 10 := hq.2
    have hr1 : 0 ≤ n % 10 := by omega
    have hr2 : n % 10 < 10 := by omega
    clear hS hT hq
    go_enter Tryd.func76, Tryd.ntmps76
    go_wp2
    go_loopw [0, 3] (fun nv sv wr => (nv = .int .i64 n ∧ sv = .string ⟨#[]⟩ ∧ wr = w) ∨ (nv = .int .i64 (n / 10) ∧ (∃ s, sv = .string s ∧ s = S) ∧ wr = w.alloc (.cells #[.int .u8 (48 + n % 10)] 5))) (fun nv _ _ => (intOf nv).toNat)
    case atStart => exact .inl ⟨rfl, rfl, rfl⟩
    case round =>
      rcases hrel with ⟨rfl, rfl, rfl⟩ | ⟨rfl, ⟨s, rfl, rfl⟩, rfl⟩
      · have h10 : 10 ≤ n := by omega
        go_wp2
        go_roundw
        case rel => exact .inr ⟨rfl, ⟨_, rfl, by apply Go.WideShapes.bytes_inj; first | (rw [bl_app]; simp) | rfl⟩, by first | rfl | trivial⟩
        case measure => simp [intOf]; omega
      · go_wp2
        go_ret
        refine ⟨ret_s9 (Go.WideShapes.bytes_inj ?_), ((Below.refl _ _).alloc (Nat.le_refl _) _).alloc (by simp) _⟩
        rw [HD.out]
/-- The bytes of a character. -/
theorem s_enc (r : Int) (w : World) (h : chB r = true) : Calls Tryd.prog 87 #[.int .i64 r] w fun e w' => e = .returned (.string (Utf8.encode r)) ∧ Below w.heap.size w w' := by
  rw [← enc_nums h]
  exact s_bytes r w h
theorem s_decT (n : Int) (w : World) (h0 : 0 ≤ n) (h1 : n ≤ 20) : Calls Tryd.prog 76 #[.int .i64 n] w fun e w' => e = .returned (.string (itB n)) ∧ Below w.heap.size w w' := s_dec0 n w h0 (by omega)
end Go.Proofs.YtibagghpimadfaaDoor

/-
  Contracts of the specification: signs, characters' texts, classes' texts, counts' texts.
-/
namespace Go.Proofs.YtibagghpimadfaaDoor
open Go.RowKit Go.Joins
set_option linter.unusedVariables false
set_option linter.unusedSimpArgs false
set_option maxRecDepth 100000 in
set_option maxHeartbeats 2000000 in
theorem s_meta (c : Int) (w : World) : Calls Tryd.prog 86 #[.int .i64 c] w fun e w' => e = .returned (.bool (isS sgO c)) ∧ w' = w := by
  go_enter Tryd.func86, Tryd.ntmps86
  go_wp2
  go_loop [3] (fun i => ∃ k : Nat, k ≤ 12 ∧ i = .int .i64 k ∧ Hid (∀ j, j < k → ((sgO[j]?.getD 0).toNat : Int) ≠ c)) (fun i => 12 - (intOf i).toNat)
  case atStart => exact ⟨0, Nat.zero_le _, rfl, fun j h => by omega⟩
  case round =>
    obtain ⟨k, hk, rfl, HA⟩ := hrel
    by_cases hlt : k < 12
    · have hki : (k : Int) < 12 := by omega
      have hkb : k < (⟨#[46, 92, 63, 42, 43, 123, 125, 40, 41, 124, 91, 93]⟩ : ByteArray).size := hlt
      have hkb2 : (k : Int) < ((⟨#[46, 92, 63, 42, 43, 123, 125, 40, 41, 124, 91, 93]⟩ : ByteArray).size : Int) := hki
      obtain ⟨x, hx⟩ : ∃ x : UInt8, (⟨#[46, 92, 63, 42, 43, 123, 125, 40, 41, 124, 91, 93]⟩ : ByteArray)[k]'hkb = x := ⟨_, rfl⟩
      have hx2 : sgO[k]?.getD 0 = x := by
        rw [← hx]
        have hkl : k < sgO.length := hlt
        rw [List.getElem?_eq_getElem hkl]
        rfl
      have HX2 := hide hx2
      have hx8 : x.toNat < 256 := x.toNat_lt
      clear hx2
      by_cases he : (x.toNat : Int) = c
      · have heb : ((x.toNat : Int) == c) = true := by rw [beq_iff_eq]; exact he
        have HY : Hid (isS sgO c = true) := hide (isS_yes (j := k) hlt (by rw [HX2.out]; exact he))
        clear he
        go_wp2
        go_ret
        exact ⟨ret_bool HY.out.symm, rfl⟩
      · have heb : ((x.toNat : Int) == c) = false := by rw [beq_eq_false_iff_ne]; exact he
        have HA2 : Hid (∀ j, j < k + 1 → ((sgO[j]?.getD 0).toNat : Int) ≠ c) := hide (fun j hj => by
          by_cases e : j = k
          · subst e; rw [HX2.out]; exact he
          · exact HA.out j (by omega))
        clear he
        go_wp2
        go_round
        case rel => exact ⟨k + 1, by omega, by go_num, HA2⟩
        case measure => simp [intOf]; omega
    · have hkm : k = 12 := by omega
      subst hkm
      have HN : Hid (isS sgO c = false) := hide (isS_no HA.out)
      go_wp2
      go_ret
      exact ⟨ret_bool HN.out.symm, rfl⟩
theorem ch_sgI (c : Int) : isS sgI c = decide (c = 91 ∨ c = 93 ∨ c = 92 ∨ c = 45 ∨ c = 94) := by
  unfold isS sgI
  rw [Bool.eq_iff_iff]
  simp
  omega
/-- A character's text, written within brackets or not. -/
def sgOf (ins : Bool) : List UInt8 := if ins = true then sgI else sgO
set_option maxRecDepth 100000 in
set_option maxHeartbeats 4000000 in
theorem s_sign (c : Int) (ins : Bool) (w : World) (hc : chB c = true) : Calls Tryd.prog 75 #[.int .i64 c, .bool ins] w fun e w' => e = .returned (.string (chT (sgOf ins) c)) ∧ Below w.heap.size w w' := by
  by_cases h10 : c = 10
  · subst h10
    go_enter Tryd.func75, Tryd.ntmps75
    go_wp2
    go_ret
    exact ⟨rfl, Below.refl _ _⟩
  · by_cases h13 : c = 13
    · subst h13
      go_enter Tryd.func75, Tryd.ntmps75
      go_wp2
      go_ret
      exact ⟨rfl, Below.refl _ _⟩
    · by_cases h9 : c = 9
      · subst h9
        go_enter Tryd.func75, Tryd.ntmps75
        go_wp2
        go_ret
        exact ⟨rfl, Below.refl _ _⟩
      · have b10 : (c == 10) = false := by rw [beq_eq_false_iff_ne]; exact h10
        have b13 : (c == 13) = false := by rw [beq_eq_false_iff_ne]; exact h13
        have b9 : (c == 9) = false := by rw [beq_eq_false_iff_ne]; exact h9
        have HCH : Hid (∀ b, isS (sgOf ins) c = b → chT (sgOf ins) c = if b = true then ⟨#[92]⟩ ++ Utf8.encode c else Utf8.encode c) := hide (fun b hb => by
          unfold chT
          rw [if_neg h10, if_neg h13, if_neg h9, hb])
        have CE := hide (s_enc c w hc)
        have hes := enc_size c
        obtain ⟨E, hE⟩ : ∃ E, Utf8.encode c = E := ⟨_, rfl⟩
        rw [hE] at CE HCH hes
        have CM := hide (s_meta c w)
        clear hE hc
        cases ins
        · cases hm : isS sgO c
          · have HV := hide (HCH.out false hm)
            rw [hm] at CM
            clear h10 h13 h9
            go_enter Tryd.func75, Tryd.ntmps75
            go_wp2_with (first | (go_at_call 86; refine CM.out.mono ?_; rintro e w9 ⟨rfl, h9⟩; rw [h9]; clear h9 w9) | (go_at_call 87; refine CE.out.mono ?_; rintro e w2 ⟨rfl, hb2⟩; have HB2 := hide hb2; clear hb2))
            go_ret
            exact ⟨ret_s9 (by rw [HV.out]; rfl), HB2.out⟩
          · have HV := hide (HCH.out true hm)
            rw [hm] at CM
            clear h10 h13 h9
            go_enter Tryd.func75, Tryd.ntmps75
            go_wp2_with (first | (go_at_call 86; refine CM.out.mono ?_; rintro e w9 ⟨rfl, h9⟩; rw [h9]; clear h9 w9) | (go_at_call 87; refine CE.out.mono ?_; rintro e w2 ⟨rfl, hb2⟩; have HB2 := hide hb2; clear hb2))
            go_ret
            exact ⟨ret_s9 (by rw [HV.out]; rfl), HB2.out⟩
        · by_cases hx : c = 91 ∨ c = 93 ∨ c = 92 ∨ c = 45 ∨ c = 94
          · have HV := hide (HCH.out true (by show isS sgI c = true; rw [ch_sgI]; exact decide_eq_true hx))
            clear h10 h13 h9
            rcases hx with rfl | rfl | rfl | rfl | rfl
            all_goals
              go_enter Tryd.func75, Tryd.ntmps75
              go_wp2_with (first | (go_at_call 86; refine CM.out.mono ?_; rintro e w9 ⟨rfl, h9⟩; rw [h9]; clear h9 w9; simp only [isS, sgO, List.any_cons, List.any_nil]) | (go_at_call 87; refine CE.out.mono ?_; rintro e w2 ⟨rfl, hb2⟩; have HB2 := hide hb2; clear hb2))
              go_ret
              exact ⟨ret_s9 (by rw [HV.out]; rfl), HB2.out⟩
          · have HV := hide (HCH.out false (by show isS sgI c = false; rw [ch_sgI]; exact decide_eq_false hx))
            have b1 : (c == 91) = false := by rw [beq_eq_false_iff_ne]; omega
            have b2 : (c == 93) = false := by rw [beq_eq_false_iff_ne]; omega
            have b3 : (c == 92) = false := by rw [beq_eq_false_iff_ne]; omega
            have b4 : (c == 45) = false := by rw [beq_eq_false_iff_ne]; omega
            have b5 : (c == 94) = false := by rw [beq_eq_false_iff_ne]; omega
            clear hx h10 h13 h9
            cases hm : isS sgO c
            all_goals
              rw [hm] at CM
              go_enter Tryd.func75, Tryd.ntmps75
              go_wp2_with (first | (go_at_call 86; refine CM.out.mono ?_; rintro e w9 ⟨rfl, h9⟩; rw [h9]; clear h9 w9) | (go_at_call 87; refine CE.out.mono ?_; rintro e w2 ⟨rfl, hb2⟩; have HB2 := hide hb2; clear hb2))
              go_ret
              exact ⟨ret_s9 (by rw [HV.out]; rfl), HB2.out⟩
end Go.Proofs.YtibagghpimadfaaDoor

/-
  Contracts of the specification's reader of expressions: its cells, one look at a sign.
-/
namespace Go.Proofs.YtibagghpimadfaaDoor
open Go.RowKit Go.Joins
set_option linter.unusedVariables false
set_option linter.unusedSimpArgs false
/-- The reader's cells. -/
def SX (w : World) (R : Nat) (ta : Option Addr) (n tc k : Nat) (bd : Bool) (ad : Option Addr) (m c : Nat) : Prop := w.heap[R]? = some (.cells #[.slice ta n tc, .int .i64 (k : Int), .bool bd, .slice ad m c] 49 (0, 0))
def SD (S : Nat → Prop) (B R : Nat) (w : World) (C : List Int) (k : Nat) (bd : Bool) (X : List Nd) : Prop := (B ≤ R ∧ k ≤ C.length ∧ C.length ≤ 400) ∧ ∃ ta tc ad c, SX w R ta C.length tc k bd ad X.length c ∧ Tx B w ta tc C ∧ XOZ 500 B S w ad c X ∧ ∀ k, (Value.slice ad X.length c).ownBlock = some k → S k
section
variable {w w' : World} {B R n tc k m c : Nat} {bd : Bool} {ta ad : Option Addr} {C : List Int} {X : List Nd} {S : Nat → Prop}
theorem sx_cells (h : SX w R ta n tc k bd ad m c) : w.cell? ⟨R, 0, none⟩ = some (.slice ta n tc) ∧ w.cell? ⟨R, 1, none⟩ = some (.int .i64 (k : Int)) ∧ w.cell? ⟨R, 2, none⟩ = some (.bool bd) ∧ w.cell? ⟨R, 3, none⟩ = some (.slice ad m c) := by
  have e : ∀ i, w.cell? ⟨R, i, none⟩ = (#[.slice ta n tc, .int .i64 (k : Int), .bool bd, .slice ad m c] : Array Value)[i]? := fun i => by rw [cell_of_row w R i _ _ (0, 0) h]
  exact ⟨e 0, e 1, e 2, e 3⟩
theorem sx_frozen (h : SX w R ta n tc k bd ad m c) (i : Nat) : w.frozen? ⟨R, i, none⟩ = false := frozen_of_row w R i _ _ h
theorem sx_lt (h : SX w R ta n tc k bd ad m c) : R < w.heap.size := (Array.getElem?_eq_some_iff.1 h).1
theorem sx_k (h : SX w R ta n tc k bd ad m c) (k' : Nat) : SX (w.setCell ⟨R, 1, none⟩ (.int .i64 (k' : Int))) R ta n tc k' bd ad m c := heap_setCell_same w R 1 _ _ _ h
theorem sx_b (h : SX w R ta n tc k bd ad m c) (b : Bool) : SX (w.setCell ⟨R, 2, none⟩ (.bool b)) R ta n tc k b ad m c := heap_setCell_same w R 2 _ _ _ h
theorem sx_o (h : SX w R ta n tc k bd ad m c) (ad' : Option Addr) (m' c' : Nat) : SX (w.setCell ⟨R, 3, none⟩ (.slice ad' m' c')) R ta n tc k bd ad' m' c' := heap_setCell_same w R 3 _ _ _ h
theorem xo_sr (hx : SX w R ta n tc k bd ad m c) {ad' : Option Addr} {c' : Nat} {Z : Nat} {S : Nat → Prop} (h : XOZ Z B S w ad' c' X) (k : Kp (fun j => j = R) w w') : XOZ Z B S w' ad' c' X := by
  obtain ⟨xs, h1, h2, h3⟩ := h
  refine ⟨xs, own_kp h1 k (fun j hj => type_ne h1 hj hx (by decide)), xits_kp h2 k (fun B' z n v ys j hv hj _ => type_ne hv hj hx (by decide)), h3⟩
theorem sd_lt (h : SD S B R w C k bd X) : B ≤ w.heap.size := by
  obtain ⟨h0, ta, tc, ad, c, h1, -⟩ := h
  have := sx_lt h1
  omega
theorem sd_ch (h : SD S B R w C k bd X) : ∀ c ∈ C, chB c = true := by
  obtain ⟨h0, ta, tc, ad, c, h1, h2, h3⟩ := h
  exact h2.2.2.2
theorem sd_kpB (h : SD S B R w C k bd X) (q : Kp (fun j => j = R) w w') : Below B w w' := kp_below q (sd_lt h) (fun j hj => by have := h.1.1; have hj' : j = R := hj; omega)
theorem sd_bl (h : SD S B R w C k bd X) (q : Below w.heap.size w w') : SD S B R w' C k bd X := by
  obtain ⟨h0, ta, tc, ad, c, h1, h2, h3, h4⟩ := h
  have hlt := sx_lt h1
  exact ⟨h0, ta, tc, ad, c, (q.block R hlt).trans h1, tx_go h2 (q.mono (by omega)), xo_below h3 q, h4⟩
theorem bl_drewN (w : World) (q : Nat) : Below w.heap.size w (w.drewN q) := ⟨rfl, rfl, rfl, Nat.le_refl _, fun _ _ => rfl⟩
theorem sd_dr (h : SD S B R w C k bd X) (q : Nat) : SD S B R (w.drewN q) C k bd X := sd_bl h (bl_drewN w q)
theorem sd_set (h : SD S B R w C k bd X) (i : Nat) (v : Value) {k' : Nat} {bd' : Bool} (hk : k' ≤ C.length) (hs : ∀ ta tc ad c, SX w R ta C.length tc k bd ad X.length c → SX (w.setCell ⟨R, i, none⟩ v) R ta C.length tc k' bd' ad X.length c) : SD S B R (w.setCell ⟨R, i, none⟩ v) C k' bd' X := by
  obtain ⟨⟨h0, h5, h6⟩, ta, tc, ad, c, h1, h2, h3, h4⟩ := h
  have hk9 := kp_r w R i v
  have hlt := sx_lt h1
  exact ⟨⟨h0, hk, h6⟩, ta, tc, ad, c, hs _ _ _ _ h1, tx_go h2 (kp_below hk9 (by omega) (fun j hj => by have hj' : j = R := hj; omega)), xo_sr h1 h3 hk9, h4⟩
theorem sd_k (h : SD S B R w C k bd X) {k' : Nat} (hk : k' ≤ C.length) : SD S B R (w.setCell ⟨R, 1, none⟩ (.int .i64 (k' : Int))) C k' bd X := sd_set h 1 _ hk (fun _ _ _ _ h1 => sx_k h1 k')
theorem sd_b (h : SD S B R w C k bd X) (b : Bool) : SD S B R (w.setCell ⟨R, 2, none⟩ (.bool b)) C k b X := sd_set h 2 _ h.1.2.1 (fun _ _ _ _ h1 => sx_b h1 b)
theorem sd_k1 (h : SD S B R w C k bd X) (hk : k < C.length) : SD S B R (w.setCell ⟨R, 1, none⟩ (.int .i64 ((k : Int) + 1))) C (k + 1) bd X := by
  have e : ((k + 1 : Nat) : Int) = (k : Int) + 1 := by omega
  rw [← e]
  exact sd_k h hk
/-- The reader's cells, and the character at its place. -/
theorem sd_cells (h : SD S B R w C k bd X) : ∃ ta tc ad c, (w.cell? ⟨R, 0, none⟩ = some (.slice ta C.length tc) ∧ w.cell? ⟨R, 1, none⟩ = some (.int .i64 (k : Int)) ∧ w.cell? ⟨R, 2, none⟩ = some (.bool bd) ∧ w.cell? ⟨R, 3, none⟩ = some (.slice ad X.length c)) ∧ (∀ i, w.frozen? ⟨R, i, none⟩ = false) ∧ (0 < C.length → ∃ b off, ta = some ⟨b, off, none⟩ ∧ ∀ (j : Nat) (d : Int), C[j]? = some d → w.cell? ⟨b, off + j, none⟩ = some (.int .i64 d)) := by
  obtain ⟨h0, ta, tc, ad, c, h1, h2, h3⟩ := h
  refine ⟨ta, tc, ad, c, sx_cells h1, sx_frozen h1, fun h9 => ?_⟩
  obtain ⟨b, off, e, -, hc⟩ := h2.2.2.1 h9
  exact ⟨b, off, e, hc⟩
theorem drop_at {c : Int} {r : List Int} (h : C.drop k = c :: r) : C[k]? = some c ∧ r = C.drop (k + 1) ∧ k < C.length := by
  have hlt : k < C.length := by
    rcases Nat.lt_or_ge k C.length with h9 | h9
    · exact h9
    · rw [List.drop_eq_nil_of_le h9] at h; cases h
  rw [List.drop_eq_getElem_cons hlt] at h
  simp only [List.cons.injEq] at h
  exact ⟨by rw [List.getElem?_eq_getElem hlt, h.1], h.2.symm, hlt⟩
end
/-- All that a walk wants to know of the reader at a character. -/
theorem sd_here {S : Nat → Prop} {B R : Nat} {w : World} {C : List Int} {k : Nat} {bd : Bool} {X : List Nd} {c : Int} {r : List Int} (h : SD S B R w C k bd X) (hc : C.drop k = c :: r) : ∃ b off tc ad cp, w.cell? ⟨R, 0, none⟩ = some (.slice (some ⟨b, off, none⟩) C.length tc) ∧ w.cell? ⟨R, 1, none⟩ = some (.int .i64 (k : Int)) ∧ w.cell? ⟨R, 2, none⟩ = some (.bool bd) ∧ w.cell? ⟨R, 3, none⟩ = some (.slice ad X.length cp) ∧ w.frozen? ⟨R, 1, none⟩ = false ∧ w.frozen? ⟨R, 2, none⟩ = false ∧ w.cell? ⟨b, off + k, none⟩ = some (.int .i64 c) ∧ k < C.length := by
  obtain ⟨h1, h2, h3⟩ := drop_at hc
  obtain ⟨ta, tc, ad, cp, ⟨c0, c1, c2, c3⟩, f, h4⟩ := sd_cells h
  obtain ⟨b, off, rfl, h5⟩ := h4 (by omega)
  exact ⟨b, off, tc, ad, cp, c0, c1, c2, c3, f 1, f 2, h5 k c h1, h3⟩
set_option maxHeartbeats 2000000 in
theorem s_isY {S : Nat → Prop} (B R : Nat) (C : List Int) (k : Nat) (s : Int) (r : List Int) (X : List Nd) (w : World) (h : SD S B R w C k false X) (hc : C.drop k = s :: r) :
    Calls Tryd.prog 44 #[.pointer (some ⟨R, 0, none⟩), .int .i64 s] w fun e w' => e = .returned (.bool true) ∧ SD S B R w' C (k + 1) false X ∧ Kp (fun j => j = R) w w' := by
  obtain ⟨b, off, tc, ad, cp, c0, c1, c2, c3, f1, f2, ck, hlt⟩ := sd_here h hc
  have H0 := hide h
  have h4 := h.1.2.2
  have hd : decide ((k : Int) ≥ (C.length : Int)) = false := decide_eq_false (by omega)
  have hi0 : (0 : Int) ≤ (k : Int) := by omega
  have hi1 : (k : Int) < (C.length : Int) := by omega
  have hi2 : ¬ (C.length : Int) ≤ (k : Int) := by omega
  have hw : IntKind.i64.wrap ((k : Int) + 1) = (k : Int) + 1 := by rw [IntKind.wrap_i64]; omega
  have hne : (s != s) = false := by simp
  clear h hc
  go_enter Tryd.func44, Tryd.ntmps44
  go_wp2
  go_quiet (fail)
  go_wp2
  go_ret
  exact ⟨rfl, sd_k1 (sd_dr H0.out _) hlt, (kp_drewN w _).trans (kp_r _ R 1 _) (fun j _ hj => hj)⟩
set_option maxHeartbeats 2000000 in
theorem s_isN {S : Nat → Prop} (B R : Nat) (C : List Int) (k : Nat) (s : Int) (X : List Nd) (w : World) (h : SD S B R w C k false X) (hc : (C.drop k).head? ≠ some s) :
    Calls Tryd.prog 44 #[.pointer (some ⟨R, 0, none⟩), .int .i64 s] w fun e w' => e = .returned (.bool false) ∧ SD S B R w' C k false X ∧ Kp (fun j => j = R) w w' := by
  have H0 := hide h
  have h4 := h.1.2.2
  have h5 := h.1.2.1
  cases hr : C.drop k with
  | nil =>
    have hk : C.length ≤ k := List.drop_eq_nil_iff.1 hr
    obtain ⟨ta, tc, ad, cp, ⟨c0, c1, c2, c3⟩, f, -⟩ := sd_cells h
    have hd : decide ((k : Int) ≥ (C.length : Int)) = true := decide_eq_true (by omega)
    have hi2 : (C.length : Int) ≤ (k : Int) := by omega
    clear h hc hr
    go_enter Tryd.func44, Tryd.ntmps44
    go_wp2
    go_quiet (fail)
    go_wp2
    go_ret
    exact ⟨rfl, sd_dr H0.out _, kp_drewN w _⟩
  | cons c r =>
    obtain ⟨b, off, tc, ad, cp, c0, c1, c2, c3, f1, f2, ck, hlt⟩ := sd_here h hr
    have hd : decide ((k : Int) ≥ (C.length : Int)) = false := decide_eq_false (by omega)
    have hi0 : (0 : Int) ≤ (k : Int) := by omega
    have hi1 : (k : Int) < (C.length : Int) := by omega
    have hi2 : ¬ (C.length : Int) ≤ (k : Int) := by omega
    have hne : (c != s) = true := by
      rw [hr] at hc
      simp only [List.head?_cons, ne_eq, Option.some.injEq] at hc
      simp [hc]
    clear h hc hr
    go_enter Tryd.func44, Tryd.ntmps44
    go_wp2
    go_quiet (fail)
    go_wp2
    go_ret
    exact ⟨rfl, sd_dr H0.out _, kp_drewN w _⟩
set_option maxHeartbeats 2000000 in
theorem s_isB {S : Nat → Prop} (B R : Nat) (C : List Int) (k : Nat) (s : Int) (X : List Nd) (w : World) (h : SD S B R w C k true X) :
    Calls Tryd.prog 44 #[.pointer (some ⟨R, 0, none⟩), .int .i64 s] w fun e w' => e = .returned (.bool false) ∧ SD S B R w' C k true X ∧ Kp (fun j => j = R) w w' := by
  have H0 := hide h
  obtain ⟨ta, tc, ad, cp, ⟨c0, c1, c2, c3⟩, f, -⟩ := sd_cells h
  clear h
  go_enter Tryd.func44, Tryd.ntmps44
  go_wp2
  go_quiet (fail)
  go_wp2
  go_ret
  exact ⟨rfl, sd_dr H0.out _, kp_drewN w _⟩
/-- The character that stands behind a backslash, or -1. -/
def esC (c : Int) : Int := if c = 110 then 10 else if c = 114 then 13 else if c = 116 then 9 else if isS sgE c = true then c else -1
theorem isS_E (c : Int) : isS sgE c = (isS sgO c || (decide ((45 : Int) = c) || decide ((94 : Int) = c))) := by
  unfold isS sgE sgO
  simp only [List.any_cons, List.any_nil, Bool.or_false, Bool.or_assoc]
  rfl
set_option maxHeartbeats 2000000 in
theorem s_esc (c : Int) (w : World) : Calls Tryd.prog 92 #[.int .i64 c] w fun e w' => e = .returned (.int .i64 (esC c)) ∧ w' = w := by
  by_cases e1 : c = 110
  · subst e1
    go_enter Tryd.func92, Tryd.ntmps92
    go_wp2
    go_ret
    exact ⟨rfl, rfl⟩
  · by_cases e2 : c = 114
    · subst e2
      go_enter Tryd.func92, Tryd.ntmps92
      go_wp2
      go_ret
      exact ⟨rfl, rfl⟩
    · by_cases e3 : c = 116
      · subst e3
        go_enter Tryd.func92, Tryd.ntmps92
        go_wp2
        go_ret
        exact ⟨rfl, rfl⟩
      · have b1 : (c == 110) = false := by simp [e1]
        have b2 : (c == 114) = false := by simp [e2]
        have b3 : (c == 116) = false := by simp [e3]
        by_cases e4 : c = 45
        · subst e4
          go_enter Tryd.func92, Tryd.ntmps92
          go_wp2
          go_ret
          exact ⟨rfl, rfl⟩
        · by_cases e5 : c = 94
          · subst e5
            go_enter Tryd.func92, Tryd.ntmps92
            go_wp2
            go_ret
            exact ⟨rfl, rfl⟩
          · have b4 : (c == 45) = false := by simp [e4]
            have b5 : (c == 94) = false := by simp [e5]
            have HE : Hid (esC c = if isS sgO c = true then c else -1) := hide (by
              unfold esC
              rw [if_neg e1, if_neg e2, if_neg e3, isS_E, decide_eq_false (fun h => e4 h.symm), decide_eq_false (fun h => e5 h.symm), Bool.or_false, Bool.or_false])
            have HM := hide (s_meta c w)
            obtain ⟨q, hq⟩ : ∃ q, isS sgO c = q := ⟨_, rfl⟩
            rw [hq] at HE HM
            clear e1 e2 e3 e4 e5 hq
            cases q
            all_goals
              go_enter Tryd.func92, Tryd.ntmps92
              go_wp2_with (go_at_call 86; refine HM.out.mono ?_; rintro e w9 ⟨rfl, h9⟩; rw [h9]; clear h9 w9)
              go_ret
              rw [HE.out]
              exact ⟨rfl, rfl⟩
theorem es_of {c : Int} {r : List Int} (hc : 0 ≤ c) : (esP (c :: r) = none ∧ esC c < 0) ∨ (esP (c :: r) = some (esC c, r) ∧ 0 ≤ esC c) := by
  rw [esP]
  unfold esC
  split
  · exact .inr ⟨rfl, by decide⟩
  · split
    · exact .inr ⟨rfl, by decide⟩
    · split
      · exact .inr ⟨rfl, by decide⟩
      · split
        · exact .inr ⟨rfl, hc⟩
        · exact .inl ⟨rfl, by decide⟩
end Go.Proofs.YtibagghpimadfaaDoor
