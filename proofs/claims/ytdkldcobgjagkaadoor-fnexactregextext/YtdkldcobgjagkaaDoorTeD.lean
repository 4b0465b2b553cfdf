/-
  Contracts of the specification: the bytes of a character, a small number in decimal.
-/
import Derived.Test.YtdkldcobgjagkaaDoorTeM
import Derived.Laws.BytesArg
import Derived.OwnWalk
import Derived.Outline
import Derived.Laws.IdiomStrings
namespace Go.Proofs.YtdkldcobgjagkaaDoor
open Go.RowKit Go.Joins
set_option linter.unusedVariables false
set_option linter.unusedSimpArgs false
theorem bl_app (a b : ByteArray) : (a ++ b).data.toList = a.data.toList ++ b.data.toList := te_app a b
theorem ret_s9 {a b : ByteArray} (h : a = b) : Ending.returned (.string a) = .returned (.string b) := by rw [h]
theorem conv_new (w : World) (xs : List Int) :
    (convert 97 9 (.slice (some ⟨w.heap.size, 0, none⟩) xs.length xs.length)).run Tryd.prog (w.alloc (.cells (xs.map (Value.int .u8)).toArray 5)) = .ok (.string (strOfNums xs)) (w.alloc (.cells (xs.map (Value.int .u8)).toArray 5)) := by
  refine run_convert_bytes_arg _ 97 5 Tryd.underlying97 Tryd.underlying5 w.heap.size 0 xs.length xs.length xs rfl ?_ 9 Tryd.underlying9
  intro i hi
  rw [show (0 + i) = i by omega, cell_of_row _ w.heap.size i _ 5 (0, 0) (heap_alloc_new w _)]
  simp [List.getElem?_eq_getElem hi]
theorem s_bytes_of (r : Int) (w : World) (xs : List Int) (hx : Lib.encodeRuneZ r = xs)
    (h : Calls Tryd.prog 75 #[.int .i64 r] w fun e w' => e = .returned (.string (strOfNums xs)) ∧ w' = w.alloc (.cells (xs.map (Value.int .u8)).toArray 5)) :
    Calls Tryd.prog 75 #[.int .i64 r] w fun e w' => e = .returned (.string (strOfNums (Lib.encodeRuneZ r))) ∧ Below w.heap.size w w' := by
  rw [hx]
  refine h.mono ?_
  rintro e w' ⟨rfl, rfl⟩
  exact ⟨rfl, (Below.refl _ _).alloc (Nat.le_refl _) _⟩

set_option maxRecDepth 100000 in
set_option maxHeartbeats 1000000 in
theorem s_bytes (r : Int) (w : World) (hc : chB r = true) : Calls Tryd.prog 75 #[.int .i64 r] w fun e w' => e = .returned (.string (strOfNums (Lib.encodeRuneZ r))) ∧ Below w.heap.size w w' := by
  have hr : (0 ≤ r ∧ r ≤ 55295) ∨ (57344 ≤ r ∧ r ≤ 1114111) := of_decide_eq_true hc
  clear hc
  by_cases h1 : r ≤ 127
  · have h0 : 0 ≤ r := by omega
    clear hr
    refine s_bytes_of r w _ (Lib.encodeRuneZ_one h0 h1) ?_
    have hcv := conv_new w [r]
    simp only [List.map_cons, List.map_nil, List.length_cons, List.length_nil, Nat.zero_add] at hcv ⊢
    go_enter Tryd.func75, Tryd.ntmps75
    go_wp2
    go_ret
    exact ⟨rfl, rfl⟩
  · by_cases h2 : r ≤ 2047
    · have h0 : 128 ≤ r := by omega
      clear hr h1
      refine s_bytes_of r w _ (Lib.encodeRuneZ_two h0 h2) ?_
      have hcv := conv_new w [192 + r / 64, 128 + r % 64]
      simp only [List.map_cons, List.map_nil, List.length_cons, List.length_nil, Nat.zero_add] at hcv ⊢
      go_enter Tryd.func75, Tryd.ntmps75
      go_wp2
      go_ret
      exact ⟨rfl, rfl⟩
    · by_cases h3 : r ≤ 65535
      · have h0 : 2048 ≤ r := by omega
        have h4 : (2048 ≤ r ∧ r < 55296) ∨ (57343 < r ∧ r ≤ 65535) := by omega
        clear hr h1 h2
        refine s_bytes_of r w _ (Lib.encodeRuneZ_three h4) ?_
        clear h4
        have hcv := conv_new w [224 + r / 4096, 128 + r / 64 % 64, 128 + r % 64]
        simp only [List.map_cons, List.map_nil, List.length_cons, List.length_nil, Nat.zero_add] at hcv ⊢
        go_enter Tryd.func75, Tryd.ntmps75
        go_wp2
        go_ret
        exact ⟨rfl, rfl⟩
      · have h0 : 65536 ≤ r := by omega
        have h5 : r ≤ 1114111 := by omega
        clear hr h1 h2 h3
        refine s_bytes_of r w _ (Lib.encodeRuneZ_four h0 h5) ?_
        have hcv := conv_new w [240 + r / 262144, 128 + r / 4096 % 64, 128 + r / 64 % 64, 128 + r % 64]
        simp only [List.map_cons, List.map_nil, List.length_cons, List.length_nil, Nat.zero_add] at hcv ⊢
        go_enter Tryd.func75, Tryd.ntmps75
        go_wp2
        go_ret
        exact ⟨rfl, rfl⟩


theorem dec_one {n : Int} (h0 : 0 ≤ n) (h1 : n < 10) : (strOfNums [48 + n]).data.toList = Lib.itoa n := by
  unfold strOfNums Lib.itoa
  rw [if_neg (by omega), Lib.decDigits_one (by omega)]
  simp only [List.map_cons, List.map_nil]
  rw [show ((48 : Int) + n).toNat = 48 + n.toNat by omega]
theorem dec_two {n : Int} (h0 : 10 ≤ n) (h1 : n < 100) : (strOfNums [48 + n / 10] ++ strOfNums [48 + n % 10]).data.toList = Lib.itoa n := by
  rw [bl_app]
  unfold strOfNums Lib.itoa
  rw [if_neg (by omega), Lib.decDigits, dif_neg (by omega), Lib.decDigits_one (by omega)]
  simp only [List.map_cons, List.map_nil]
  rw [show ((48 : Int) + n / 10).toNat = 48 + n.toNat / 10 by omega, show ((48 : Int) + n % 10).toNat = 48 + n.toNat % 10 by omega]
theorem one_size (z : Int) : (strOfNums [z]).size = 1 := rfl
set_option maxRecDepth 100000 in
set_option maxHeartbeats 4000000 in
theorem s_dec0 (n : Int) (w : World) (h0 : 0 ≤ n) (h1 : n ≤ 30) : Calls Tryd.prog 62 #[.int .i64 n] w fun e w' => e = .returned (.string ⟨(Lib.itoa n).toArray⟩) ∧ Below w.heap.size w w' := by
  by_cases h9 : n < 10
  · have HD := hide (dec_one h0 h9)
    have hcv := conv_new w [48 + n]
    simp only [List.map_cons, List.map_nil, List.length_cons, List.length_nil, Nat.zero_add] at hcv
    have hsz := one_size (48 + n)
    obtain ⟨S, hS⟩ : ∃ S, strOfNums [48 + n] = S := ⟨_, rfl⟩
    rw [hS] at hcv HD hsz
    have hs1 : S.size ≤ 1 := by omega
    clear hS hsz
    go_enter Tryd.func62, Tryd.ntmps62
    go_wp2
    go_loopw [0, 3] (fun nv sv wr => nv = .int .i64 n ∧ sv = .string ⟨#[]⟩ ∧ wr = w) (fun _ _ _ => 0)
    case atStart => exact ⟨rfl, rfl, rfl⟩
    case round =>
      obtain ⟨rfl, rfl, rfl⟩ := hrel
      go_wp2
      go_ret
      refine ⟨ret_s9 (Go.WideShapes.bytes_inj ?_), (Below.refl _ _).alloc (Nat.le_refl _) _⟩
      first | (rw [bl_app, HD.out]; simp) | rw [HD.out]
  · have HD := hide (dec_two (show 10 ≤ n by omega) (by omega))
    have hcv := conv_new w [48 + n % 10]
    have hcv2 := conv_new (w.alloc (.cells (([48 + n % 10] : List Int).map (Value.int .u8)).toArray 5)) [48 + n / 10]
    simp only [List.map_cons, List.map_nil, List.length_cons, List.length_nil, Nat.zero_add, World.size_alloc] at hcv hcv2
    obtain ⟨S, hS⟩ : ∃ S, strOfNums [48 + n % 10] = S := ⟨_, rfl⟩
    obtain ⟨T, hT⟩ : ∃ T, strOfNums [48 + n / 10] = T := ⟨_, rfl⟩
    have hs1 : S.size ≤ 1 := by rw [← hS, one_size]; omega
    have ht1 : T.size ≤ 1 := by rw [← hT, one_size]; omega
    rw [hS] at hcv HD
    rw [hT] at hcv2 HD
    have hq : 0 ≤ n / 10 ∧ n / 10 < 10 := by omega
    have hq1 : 0 ≤ n / 10 := hq.1
    have hq2 : n / 10 < 10 := hq.2
    have hr1 : 0 ≤ n % 10 := by omega
    have hr2 : n % 10 < 10 := by omega
    clear hS hT hq
    go_enter Tryd.func62, Tryd.ntmps62
    go_wp2
    go_loopw [0, 3] (fun nv sv wr => (nv = .int .i64 n ∧ sv = .string ⟨#[]⟩ ∧ wr = w) ∨ (nv = .int .i64 (n / 10) ∧ (∃ s, sv = .string s ∧ s = S) ∧ wr = w.alloc (.cells #[.int .u8 (48 + n % 10)] 5))) (fun nv _ _ => (intOf nv).toNat)
    case atStart => exact .inl ⟨rfl, rfl, rfl⟩
    case round =>
      rcases hrel with ⟨rfl, rfl, rfl⟩ | ⟨rfl, ⟨s, rfl, rfl⟩, rfl⟩
      · have h10 : 10 ≤ n := by omega
        go_wp2
        go_roundw
        case rel => exact .inr ⟨rfl, ⟨_, rfl, by apply Go.WideShapes.bytes_inj; first | (rw [bl_app]; simp) | rfl⟩, by first | rfl | trivial⟩
        case measure => simp [intOf]; omega
      · go_wp2
        go_ret
        refine ⟨ret_s9 (Go.WideShapes.bytes_inj ?_), ((Below.refl _ _).alloc (Nat.le_refl _) _).alloc (by simp) _⟩
        rw [HD.out]
/-- The bytes of a character. -/
theorem s_enc (r : Int) (w : World) (h : chB r = true) : Calls Tryd.prog 75 #[.int .i64 r] w fun e w' => e = .returned (.string (Utf8.encode r)) ∧ Below w.heap.size w w' := by
  rw [← enc_nums h]
  exact s_bytes r w h
theorem s_decT (n : Int) (w : World) (h0 : 0 ≤ n) (h1 : n ≤ 20) : Calls Tryd.prog 62 #[.int .i64 n] w fun e w' => e = .returned (.string (itB n)) ∧ Below w.heap.size w w' := s_dec0 n w h0 (by omega)
end Go.Proofs.YtdkldcobgjagkaaDoor
