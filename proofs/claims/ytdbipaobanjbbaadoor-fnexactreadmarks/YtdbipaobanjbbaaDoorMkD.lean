/-
  Contract: a small number in decimal, by the specification.
-/
import Derived.Test.YtdbipaobanjbbaaDoorMkS
import Derived.Laws.BytesArg
import Derived.OwnWalk
namespace Go.Proofs.YtdbipaobanjbbaaDoor
open Go.RowKit Go.Joins
set_option linter.unusedVariables false
set_option linter.unusedSimpArgs false
theorem conv_new (w : World) (xs : List Int) :
    (convert 61 9 (.slice (some ⟨w.heap.size, 0, none⟩) xs.length xs.length)).run Tryd.prog (w.alloc (.cells (xs.map (Value.int .u8)).toArray 5)) = .ok (.string (strOfNums xs)) (w.alloc (.cells (xs.map (Value.int .u8)).toArray 5)) := by
  refine run_convert_bytes_arg _ 61 5 Tryd.underlying61 Tryd.underlying5 w.heap.size 0 xs.length xs.length xs rfl ?_ 9 Tryd.underlying9
  intro i hi
  rw [show (0 + i) = i by omega, cell_of_row _ w.heap.size i _ 5 (0, 0) (heap_alloc_new w _)]
  simp [List.getElem?_eq_getElem hi]
theorem dec_one {n : Int} (h0 : 0 ≤ n) (h1 : n < 10) : (strOfNums [48 + n]).data.toList = Lib.itoa n := by
  unfold strOfNums Lib.itoa
  rw [if_neg (by omega), Lib.decDigits_one (by omega)]
  simp only [List.map_cons, List.map_nil]
  rw [show ((48 : Int) + n).toNat = 48 + n.toNat by omega]
theorem dec_two {n : Int} (h0 : 10 ≤ n) (h1 : n < 100) : (strOfNums [48 + n / 10] ++ strOfNums [48 + n % 10]).data.toList = Lib.itoa n := by
  rw [bl_app]
  unfold strOfNums Lib.itoa
  rw [if_neg (by omega), Lib.decDigits, dif_neg (by omega), Lib.decDigits_one (by omega)]
  simp only [List.map_cons, List.map_nil]
  rw [show ((48 : Int) + n / 10).toNat = 48 + n.toNat / 10 by omega, show ((48 : Int) + n % 10).toNat = 48 + n.toNat % 10 by omega]
theorem one_size (z : Int) : (strOfNums [z]).size = 1 := rfl
set_option maxRecDepth 100000 in
set_option maxHeartbeats 4000000 in
theorem s_dec0 (n : Int) (w : World) (h0 : 0 ≤ n) (h1 : n ≤ 30) : Calls Tryd.prog 22 #[.int .i64 n] w fun e w' => e = .returned (.string ⟨(Lib.itoa n).toArray⟩) ∧ Below w.heap.size w w' := by
  by_cases h9 : n < 10
  · have HD := hide (dec_one h0 h9)
    have hcv := conv_new w [48 + n]
    simp only [List.map_cons, List.map_nil, List.length_cons, List.length_nil, Nat.zero_add] at hcv
    have hsz := one_size (48 + n)
    obtain ⟨S, hS⟩ : ∃ S, strOfNums [48 + n] = S := ⟨_, rfl⟩
    rw [hS] at hcv HD hsz
    have hs1 : S.size ≤ 1 := by omega
    clear hS hsz
    go_enter Tryd.func22, Tryd.ntmps22
    go_wp2
    go_loopw [0, 3] (fun nv sv wr => nv = .int .i64 n ∧ sv = .string ⟨#[]⟩ ∧ wr = w) (fun _ _ _ => 0)
    case atStart => exact ⟨rfl, rfl, rfl⟩
    case round =>
      obtain ⟨rfl, rfl, rfl⟩ := hrel
      go_wp2
      go_ret
      refine ⟨ret_s9 (Go.WideShapes.bytes_inj ?_), (Below.refl _ _).alloc (Nat.le_refl _) _⟩
      first | (rw [bl_app, HD.out]; simp) | rw [HD.out]
  · have HD := hide (dec_two (show 10 ≤ n by omega) (by omega))
    have hcv := conv_new w [48 + n % 10]
    have hcv2 := conv_new (w.alloc (.cells (([48 + n % 10] : List Int).map (Value.int .u8)).toArray 5)) [48 + n / 10]
    simp only [List.map_cons, List.map_nil, List.length_cons, List.length_nil, Nat.zero_add, World.size_alloc] at hcv hcv2
    obtain ⟨S, hS⟩ : ∃ S, strOfNums [48 + n % 10] = S := ⟨_, rfl⟩
    obtain ⟨T, hT⟩ : ∃ T, strOfNums [48 + n / 10] = T := ⟨_, rfl⟩
    have hs1 : S.size ≤ 1 := by rw [← hS, one_size]; omega
    have ht1 : T.size ≤ 1 := by rw [← hT, one_size]; omega
    rw [hS] at hcv HD
    rw [hT] at hcv2 HD
    have hq : 0 ≤ n / 10 ∧ n / 10 < 10 := by omega
    have hq1 : 0 ≤ n / 10 := hq.1
    have hq2 : n / 10 < 10 := hq.2
    have hr1 : 0 ≤ n % 10 := by omega
    have hr2 : n % 10 < 10 := by omega
    clear hS hT hq
    go_enter Tryd.func22, Tryd.ntmps22
    go_wp2
    go_loopw [0, 3] (fun nv sv wr => (nv = .int .i64 n ∧ sv = .string ⟨#[]⟩ ∧ wr = w) ∨ (nv = .int .i64 (n / 10) ∧ (∃ s, sv = .string s ∧ s = S) ∧ wr = w.alloc (.cells #[.int .u8 (48 + n % 10)] 5))) (fun nv _ _ => (intOf nv).toNat)
    case atStart => exact .inl ⟨rfl, rfl, rfl⟩
    case round =>
      rcases hrel with ⟨rfl, rfl, rfl⟩ | ⟨rfl, ⟨s, rfl, rfl⟩, rfl⟩
      · have h10 : 10 ≤ n := by omega
        go_wp2
        go_roundw
        case rel => exact .inr ⟨rfl, ⟨_, rfl, by apply Go.WideShapes.bytes_inj; first | (rw [bl_app]; simp) | rfl⟩, by first | rfl | trivial⟩
        case measure => simp [intOf]; omega
      · go_wp2
        go_ret
        refine ⟨ret_s9 (Go.WideShapes.bytes_inj ?_), ((Below.refl _ _).alloc (Nat.le_refl _) _).alloc (by simp) _⟩
        rw [HD.out]
set_option maxHeartbeats 2000000 in
theorem s_dec (n : Int) (w : World) (h : -1 ≤ n ∧ n ≤ 30) : Calls Tryd.prog 22 #[.int .i64 n] w fun e w' => e = .returned (.string ⟨(Lib.itoa n).toArray⟩) ∧ Below w.heap.size w w' := by
  obtain ⟨h0, h1⟩ := h
  by_cases hn : n = -1
  · subst hn
    have CD := hide (s_dec0 1 w (by omega) (by omega))
    have HE : Hid (Lib.itoa 1 = [49]) := hide (by unfold Lib.itoa; rw [if_neg (by decide), Lib.decDigits_one (by decide)]; rfl)
    have HE2 : Hid (Lib.itoa (-1) = [45, 49]) := hide (by unfold Lib.itoa; rw [if_pos (by decide), Lib.decDigits_one (by decide)]; rfl)
    rw [HE.out] at CD
    go_enter Tryd.func22, Tryd.ntmps22
    go_wp2_with (first | (go_at_call 22; refine CD.out.mono ?_; rintro e w2 ⟨rfl, hb2⟩; have HB := hide hb2; clear hb2))
    go_ret
    exact ⟨ret_s9 (by rw [HE2.out]; rfl), HB.out⟩
  · exact s_dec0 n w (by omega) h1
end Go.Proofs.YtdbipaobanjbbaaDoor
