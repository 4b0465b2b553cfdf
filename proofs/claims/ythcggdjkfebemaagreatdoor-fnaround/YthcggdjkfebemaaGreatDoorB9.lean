/-
  Texts put together: UnByt, Esc.
-/
import Derived.Test.YthcggdjkfebemaaGreatDoorB8
import Derived.Outline
import Derived.Laws.IdiomStrings
import Derived.Test.YthcggdjkfebemaaGreatDoorB6
import Derived.Lib.Strings
import Derived.Laws.Strings2
/-
  Contracts: the specification's bytes of a character.
-/
namespace Go.Proofs.YthcggdjkfebemaaGreatDoor
open Go.RowKit
set_option linter.unusedVariables false
set_option linter.unusedSimpArgs false
theorem conv_new (w : World) (xs : List Int) :
    (convert 22 9 (.slice (some ⟨w.heap.size, 0, none⟩) xs.length xs.length)).run Tryz.prog (w.alloc (.cells (xs.map (Value.int .u8)).toArray 5)) = .ok (.string (strOfNums xs)) (w.alloc (.cells (xs.map (Value.int .u8)).toArray 5)) := by
  refine run_convert_bytes_arg _ 22 5 Tryz.underlying22 Tryz.underlying5 w.heap.size 0 xs.length xs.length xs rfl ?_ 9 Tryz.underlying9
  intro i hi
  rw [show (0 + i) = i by omega, cell_of_row _ w.heap.size i _ 5 (0, 0) (heap_alloc_new w _)]
  simp [List.getElem?_eq_getElem hi]

theorem s_bytes_of (r : Int) (w : World) (xs : List Int) (hx : Lib.encodeRuneZ r = xs)
    (h : Calls Tryz.prog 129 #[.int .i64 r] w fun e w' => e = .returned (.string (strOfNums xs)) ∧ w' = w.alloc (.cells (xs.map (Value.int .u8)).toArray 5)) :
    Calls Tryz.prog 129 #[.int .i64 r] w fun e w' => e = .returned (.string (strOfNums (Lib.encodeRuneZ r))) ∧ Below w.heap.size w w' := by
  rw [hx]
  refine h.mono ?_
  rintro e w' ⟨rfl, rfl⟩
  exact ⟨rfl, (Below.refl _ _).alloc (Nat.le_refl _) _⟩

set_option maxRecDepth 100000 in
set_option maxHeartbeats 1000000 in
theorem s_bytes (r : Int) (w : World) (hc : charB r = true) : Calls Tryz.prog 129 #[.int .i64 r] w fun e w' => e = .returned (.string (strOfNums (Lib.encodeRuneZ r))) ∧ Below w.heap.size w w' := by
  have hr : (0 ≤ r ∧ r ≤ 55295) ∨ (57344 ≤ r ∧ r ≤ 1114111) := of_decide_eq_true hc
  clear hc
  by_cases h1 : r ≤ 127
  · have h0 : 0 ≤ r := by omega
    clear hr
    refine s_bytes_of r w _ (Lib.encodeRuneZ_one h0 h1) ?_
    have hcv := conv_new w [r]
    simp only [List.map_cons, List.map_nil, List.length_cons, List.length_nil, Nat.zero_add] at hcv ⊢
    go_enter Tryz.func129, Tryz.ntmps129
    go_wp2
    go_ret
    exact ⟨rfl, rfl⟩
  · by_cases h2 : r ≤ 2047
    · have h0 : 128 ≤ r := by omega
      clear hr h1
      refine s_bytes_of r w _ (Lib.encodeRuneZ_two h0 h2) ?_
      have hcv := conv_new w [192 + r / 64, 128 + r % 64]
      simp only [List.map_cons, List.map_nil, List.length_cons, List.length_nil, Nat.zero_add] at hcv ⊢
      go_enter Tryz.func129, Tryz.ntmps129
      go_wp2
      go_ret
      exact ⟨rfl, rfl⟩
    · by_cases h3 : r ≤ 65535
      · have h0 : 2048 ≤ r := by omega
        have h4 : (2048 ≤ r ∧ r < 55296) ∨ (57343 < r ∧ r ≤ 65535) := by omega
        clear hr h1 h2
        refine s_bytes_of r w _ (Lib.encodeRuneZ_three h4) ?_
        clear h4
        have hcv := conv_new w [224 + r / 4096, 128 + r / 64 % 64, 128 + r % 64]
        simp only [List.map_cons, List.map_nil, List.length_cons, List.length_nil, Nat.zero_add] at hcv ⊢
        go_enter Tryz.func129, Tryz.ntmps129
        go_wp2
        go_ret
        exact ⟨rfl, rfl⟩
      · have h0 : 65536 ≤ r := by omega
        have h5 : r ≤ 1114111 := by omega
        clear hr h1 h2 h3
        refine s_bytes_of r w _ (Lib.encodeRuneZ_four h0 h5) ?_
        have hcv := conv_new w [240 + r / 262144, 128 + r / 4096 % 64, 128 + r / 64 % 64, 128 + r % 64]
        simp only [List.map_cons, List.map_nil, List.length_cons, List.length_nil, Nat.zero_add] at hcv ⊢
        go_enter Tryz.func129, Tryz.ntmps129
        go_wp2
        go_ret
        exact ⟨rfl, rfl⟩


theorem doc_char {r : Int} (h : docB r = true) : charB r = true := by
  have := of_decide_eq_true h
  exact decide_eq_true (by omega)
theorem s_enc (v : Nat) (w : World) (h : docB (v : Int) = true) : Calls Tryz.prog 129 #[.int .i64 (v : Int)] w fun e w' => e = .returned (.string ⟨(encL v).toArray⟩) ∧ Below w.heap.size w w' := by
  refine (s_bytes (v : Int) w (doc_char h)).mono ?_
  rintro e w' ⟨rfl, hb⟩
  exact ⟨by simp [encL], hb⟩
end Go.Proofs.YthcggdjkfebemaaGreatDoor

/-
  Contracts of the specification's escaping: at every text of at most 1048576 bytes the bytes with their marks; the world is as it was.
-/
namespace Go.Proofs.YthcggdjkfebemaaGreatDoor
open Go.RowKit
set_option linter.unusedVariables false
set_option linter.unusedSimpArgs false
def escB (attr : Bool) (c : UInt8) : List UInt8 :=
  if c = 38 then [38, 97, 109, 112, 59] else if c = 60 then [38, 108, 116, 59] else if c = 62 then [38, 103, 116, 59] else if c = 13 then [38, 35, 49, 51, 59]
  else if attr = true ∧ c = 34 then [38, 113, 117, 111, 116, 59] else if attr = true ∧ c = 9 then [38, 35, 57, 59] else if attr = true ∧ c = 10 then [38, 35, 49, 48, 59] else [c]
def escL (attr : Bool) (l : List UInt8) : List UInt8 := l.flatMap (escB attr)
theorem escB_len (attr : Bool) (c : UInt8) : (escB attr c).length ≤ 6 := by
  unfold escB
  repeat' split
  all_goals simp
theorem u8i {b c : UInt8} : ((b.toNat : Int) = (c.toNat : Int)) ↔ b = c := by
  constructor
  · intro h; exact UInt8.toNat_inj.1 (by omega)
  · intro h; rw [h]
theorem take_byte (s : ByteArray) (k : Nat) (h : k < s.size) : s.data.toList.take (k + 1) = s.data.toList.take k ++ [s[k]] := by
  rw [List.take_succ_eq_append_getElem (by simpa using h)]; rfl
theorem esc_step (attr : Bool) (s : ByteArray) (k : Nat) (h : k < s.size) : escL attr (s.data.toList.take (k + 1)) = escL attr (s.data.toList.take k) ++ escB attr s[k] := by
  rw [take_byte s k h]; simp [escL]
theorem slice_mid (s : ByteArray) (k : Nat) (h : k < s.size) (w : World) : (Instr.slice 9 (.string s) (some (.int .i64 (k : Int))) (some (.int .i64 ((k : Int) + 1))) none).run Tryz.prog w = .ok (.string (s.extract k (k + 1))) w := by
  have := run_slice_string (P := Tryz.prog) w 9 s .i64 .i64 (k : Int) ((k : Int) + 1) Tryz.underlying9 (by omega) (by omega) (by omega)
  simpa using this
theorem drop_byte1 (s : ByteArray) (k : Nat) (h : k < s.size) : (s.data.toList.drop k).take (k + 1 - k) = [s[k]] := by
  have h' : k < s.data.toList.length := by simpa using h
  rw [List.drop_eq_getElem_cons h', show k + 1 - k = 1 by omega]; rfl
/-- The round's relation. -/
def EscRel (attr : Bool) (s t : ByteArray) (k : Nat) : Prop := t.data.toList = escL attr (s.data.toList.take k) ∧ t.size ≤ 6 * k
theorem esc_next {attr : Bool} {s t x : ByteArray} {k : Nat} (h : EscRel attr s t k) (hk : k < s.size) (hx : x.data.toList = escB attr s[k]) : EscRel attr s (t ++ x) (k + 1) := by
  have hl := escB_len attr s[k]
  have e : x.size = (escB attr s[k]).length := by rw [← hx, Array.length_toList]; rfl
  refine ⟨?_, ?_⟩
  · rw [ByteArray.data_append, Array.toList_append, h.1, hx, esc_step attr s k hk]
  · rw [ByteArray.size_append, e]; have := h.2; omega
theorem esc_end {attr : Bool} {s t : ByteArray} {k : Nat} (h : EscRel attr s t k) (hk : s.size ≤ k) : t = ⟨(escL attr s.data.toList).toArray⟩ := by
  apply Go.WideShapes.bytes_inj
  rw [h.1, List.take_of_length_le (by rw [Array.length_toList]; exact hk)]

set_option maxRecDepth 100000 in
set_option maxHeartbeats 4000000 in
theorem s_esc_false (s : ByteArray) (w : World) (hs : s.size ≤ 1048576) :
    Calls Tryz.prog 48 #[.string s, .bool false] w fun e w' => e = .returned (.string ⟨(escL false s.data.toList).toArray⟩) ∧ w' = w := by
  go_enter Tryz.func48, Tryz.ntmps48
  go_wp2
  go_loop [5, 6] (fun v i => ∃ (k : Nat) (t : ByteArray), k ≤ s.size ∧ i = .int .i64 k ∧ v = .string t ∧ Hid (EscRel false s t k) ∧ t.size ≤ 6 * k) (fun _ i => s.size - (intOf i).toNat)
  case atStart => exact ⟨0, ⟨#[]⟩, Nat.zero_le _, rfl, rfl, hide ⟨rfl, Nat.zero_le _⟩, Nat.zero_le _⟩
  case round =>
    obtain ⟨k, t, hk, rfl, rfl, HR, ht⟩ := hrel
    by_cases hlt : k < s.size
    · by_cases h38 : (s[k].toNat : Int) = 38
      · have f38 : ((s[k].toNat : Int) == 38) = true := by simp [h38]
        have HX := hide (show (⟨#[38, 97, 109, 112, 59]⟩ : ByteArray).data.toList = escB false s[k] by rw [show s[k] = 38 from u8i.1 h38]; rfl)
        clear h38
        go_wp2
        go_round
        case rel => exact ⟨k + 1, t ++ ⟨#[38, 97, 109, 112, 59]⟩, by omega, by go_num, rfl, hide (esc_next HR.out hlt HX.out), (esc_next HR.out hlt HX.out).2⟩
        case measure => simp [intOf]; omega
      · by_cases h60 : (s[k].toNat : Int) = 60
        · have f60 : ((s[k].toNat : Int) == 60) = true := by simp [h60]
          have f38 : ((s[k].toNat : Int) == 38) = false := by simp [h38]
          have HX := hide (show (⟨#[38, 108, 116, 59]⟩ : ByteArray).data.toList = escB false s[k] by rw [show s[k] = 60 from u8i.1 h60]; rfl)
          clear h38 h60
          go_wp2
          go_round
          case rel => exact ⟨k + 1, t ++ ⟨#[38, 108, 116, 59]⟩, by omega, by go_num, rfl, hide (esc_next HR.out hlt HX.out), (esc_next HR.out hlt HX.out).2⟩
          case measure => simp [intOf]; omega
        · by_cases h62 : (s[k].toNat : Int) = 62
          · have f62 : ((s[k].toNat : Int) == 62) = true := by simp [h62]
            have f38 : ((s[k].toNat : Int) == 38) = false := by simp [h38]
            have f60 : ((s[k].toNat : Int) == 60) = false := by simp [h60]
            have HX := hide (show (⟨#[38, 103, 116, 59]⟩ : ByteArray).data.toList = escB false s[k] by rw [show s[k] = 62 from u8i.1 h62]; rfl)
            clear h38 h60 h62
            go_wp2
            go_round
            case rel => exact ⟨k + 1, t ++ ⟨#[38, 103, 116, 59]⟩, by omega, by go_num, rfl, hide (esc_next HR.out hlt HX.out), (esc_next HR.out hlt HX.out).2⟩
            case measure => simp [intOf]; omega
          · by_cases h13 : (s[k].toNat : Int) = 13
            · have f13 : ((s[k].toNat : Int) == 13) = true := by simp [h13]
              have f38 : ((s[k].toNat : Int) == 38) = false := by simp [h38]
              have f60 : ((s[k].toNat : Int) == 60) = false := by simp [h60]
              have f62 : ((s[k].toNat : Int) == 62) = false := by simp [h62]
              have HX := hide (show (⟨#[38, 35, 49, 51, 59]⟩ : ByteArray).data.toList = escB false s[k] by rw [show s[k] = 13 from u8i.1 h13]; rfl)
              clear h38 h60 h62 h13
              go_wp2
              go_round
              case rel => exact ⟨k + 1, t ++ ⟨#[38, 35, 49, 51, 59]⟩, by omega, by go_num, rfl, hide (esc_next HR.out hlt HX.out), (esc_next HR.out hlt HX.out).2⟩
              case measure => simp [intOf]; omega
            · have f38 : ((s[k].toNat : Int) == 38) = false := by simp [h38]
              have f60 : ((s[k].toNat : Int) == 60) = false := by simp [h60]
              have f62 : ((s[k].toNat : Int) == 62) = false := by simp [h62]
              have f13 : ((s[k].toNat : Int) == 13) = false := by simp [h13]
              have HX := hide (show (s.extract k (k + 1)).data.toList = escB false s[k] by rw [Lib.extract_data, drop_byte1 s k hlt, escB, if_neg (fun e => h38 (u8i.2 e)), if_neg (fun e => h60 (u8i.2 e)), if_neg (fun e => h62 (u8i.2 e)), if_neg (fun e => h13 (u8i.2 e)), if_neg (fun e => by cases e.1), if_neg (fun e => by cases e.1), if_neg (fun e => by cases e.1)])
              have hz : (s.extract k (k + 1)).size ≤ 1 := by rw [ByteArray.size_extract]; omega
              have c1 : (0 : Int) ≤ ↑k := by omega
              have c2 : (↑k : Int) ≤ ↑k + 1 := by omega
              have c3 : (↑k + 1 : Int) ≤ ↑s.size := by omega
              have hsl := fun wx => slice_mid s k hlt wx
              clear h38 h60 h62 h13
              go_wp2
              go_round
              case rel => exact ⟨k + 1, t ++ s.extract k (k + 1), by omega, by go_num, rfl, hide (esc_next HR.out hlt HX.out), (esc_next HR.out hlt HX.out).2⟩
              case measure => simp [intOf]; omega
    · go_wp2
      go_ret
      exact ⟨by rw [esc_end HR.out (by omega)]; rfl, rfl⟩

set_option maxRecDepth 100000 in
set_option maxHeartbeats 4000000 in
theorem s_esc_true (s : ByteArray) (w : World) (hs : s.size ≤ 1048576) :
    Calls Tryz.prog 48 #[.string s, .bool true] w fun e w' => e = .returned (.string ⟨(escL true s.data.toList).toArray⟩) ∧ w' = w := by
  go_enter Tryz.func48, Tryz.ntmps48
  go_wp2
  go_loop [5, 6] (fun v i => ∃ (k : Nat) (t : ByteArray), k ≤ s.size ∧ i = .int .i64 k ∧ v = .string t ∧ Hid (EscRel true s t k) ∧ t.size ≤ 6 * k) (fun _ i => s.size - (intOf i).toNat)
  case atStart => exact ⟨0, ⟨#[]⟩, Nat.zero_le _, rfl, rfl, hide ⟨rfl, Nat.zero_le _⟩, Nat.zero_le _⟩
  case round =>
    obtain ⟨k, t, hk, rfl, rfl, HR, ht⟩ := hrel
    by_cases hlt : k < s.size
    · by_cases h38 : (s[k].toNat : Int) = 38
      · have f38 : ((s[k].toNat : Int) == 38) = true := by simp [h38]
        have HX := hide (show (⟨#[38, 97, 109, 112, 59]⟩ : ByteArray).data.toList = escB true s[k] by rw [show s[k] = 38 from u8i.1 h38]; rfl)
        clear h38
        go_wp2
        go_round
        case rel => exact ⟨k + 1, t ++ ⟨#[38, 97, 109, 112, 59]⟩, by omega, by go_num, rfl, hide (esc_next HR.out hlt HX.out), (esc_next HR.out hlt HX.out).2⟩
        case measure => simp [intOf]; omega
      · by_cases h60 : (s[k].toNat : Int) = 60
        · have f60 : ((s[k].toNat : Int) == 60) = true := by simp [h60]
          have f38 : ((s[k].toNat : Int) == 38) = false := by simp [h38]
          have HX := hide (show (⟨#[38, 108, 116, 59]⟩ : ByteArray).data.toList = escB true s[k] by rw [show s[k] = 60 from u8i.1 h60]; rfl)
          clear h38 h60
          go_wp2
          go_round
          case rel => exact ⟨k + 1, t ++ ⟨#[38, 108, 116, 59]⟩, by omega, by go_num, rfl, hide (esc_next HR.out hlt HX.out), (esc_next HR.out hlt HX.out).2⟩
          case measure => simp [intOf]; omega
        · by_cases h62 : (s[k].toNat : Int) = 62
          · have f62 : ((s[k].toNat : Int) == 62) = true := by simp [h62]
            have f38 : ((s[k].toNat : Int) == 38) = false := by simp [h38]
            have f60 : ((s[k].toNat : Int) == 60) = false := by simp [h60]
            have HX := hide (show (⟨#[38, 103, 116, 59]⟩ : ByteArray).data.toList = escB true s[k] by rw [show s[k] = 62 from u8i.1 h62]; rfl)
            clear h38 h60 h62
            go_wp2
            go_round
            case rel => exact ⟨k + 1, t ++ ⟨#[38, 103, 116, 59]⟩, by omega, by go_num, rfl, hide (esc_next HR.out hlt HX.out), (esc_next HR.out hlt HX.out).2⟩
            case measure => simp [intOf]; omega
          · by_cases h13 : (s[k].toNat : Int) = 13
            · have f13 : ((s[k].toNat : Int) == 13) = true := by simp [h13]
              have f38 : ((s[k].toNat : Int) == 38) = false := by simp [h38]
              have f60 : ((s[k].toNat : Int) == 60) = false := by simp [h60]
              have f62 : ((s[k].toNat : Int) == 62) = false := by simp [h62]
              have HX := hide (show (⟨#[38, 35, 49, 51, 59]⟩ : ByteArray).data.toList = escB true s[k] by rw [show s[k] = 13 from u8i.1 h13]; rfl)
              clear h38 h60 h62 h13
              go_wp2
              go_round
              case rel => exact ⟨k + 1, t ++ ⟨#[38, 35, 49, 51, 59]⟩, by omega, by go_num, rfl, hide (esc_next HR.out hlt HX.out), (esc_next HR.out hlt HX.out).2⟩
              case measure => simp [intOf]; omega
            · by_cases h34 : (s[k].toNat : Int) = 34
              · have f34 : ((s[k].toNat : Int) == 34) = true := by simp [h34]
                have f38 : ((s[k].toNat : Int) == 38) = false := by simp [h38]
                have f60 : ((s[k].toNat : Int) == 60) = false := by simp [h60]
                have f62 : ((s[k].toNat : Int) == 62) = false := by simp [h62]
                have f13 : ((s[k].toNat : Int) == 13) = false := by simp [h13]
                have HX := hide (show (⟨#[38, 113, 117, 111, 116, 59]⟩ : ByteArray).data.toList = escB true s[k] by rw [show s[k] = 34 from u8i.1 h34]; rfl)
                clear h38 h60 h62 h13 h34
                go_wp2
                go_round
                case rel => exact ⟨k + 1, t ++ ⟨#[38, 113, 117, 111, 116, 59]⟩, by omega, by go_num, rfl, hide (esc_next HR.out hlt HX.out), (esc_next HR.out hlt HX.out).2⟩
                case measure => simp [intOf]; omega
              · by_cases h9 : (s[k].toNat : Int) = 9
                · have f9 : ((s[k].toNat : Int) == 9) = true := by simp [h9]
                  have f38 : ((s[k].toNat : Int) == 38) = false := by simp [h38]
                  have f60 : ((s[k].toNat : Int) == 60) = false := by simp [h60]
                  have f62 : ((s[k].toNat : Int) == 62) = false := by simp [h62]
                  have f13 : ((s[k].toNat : Int) == 13) = false := by simp [h13]
                  have f34 : ((s[k].toNat : Int) == 34) = false := by simp [h34]
                  have HX := hide (show (⟨#[38, 35, 57, 59]⟩ : ByteArray).data.toList = escB true s[k] by rw [show s[k] = 9 from u8i.1 h9]; rfl)
                  clear h38 h60 h62 h13 h34 h9
                  go_wp2
                  go_round
                  case rel => exact ⟨k + 1, t ++ ⟨#[38, 35, 57, 59]⟩, by omega, by go_num, rfl, hide (esc_next HR.out hlt HX.out), (esc_next HR.out hlt HX.out).2⟩
                  case measure => simp [intOf]; omega
                · by_cases h10 : (s[k].toNat : Int) = 10
                  · have f10 : ((s[k].toNat : Int) == 10) = true := by simp [h10]
                    have f38 : ((s[k].toNat : Int) == 38) = false := by simp [h38]
                    have f60 : ((s[k].toNat : Int) == 60) = false := by simp [h60]
                    have f62 : ((s[k].toNat : Int) == 62) = false := by simp [h62]
                    have f13 : ((s[k].toNat : Int) == 13) = false := by simp [h13]
                    have f34 : ((s[k].toNat : Int) == 34) = false := by simp [h34]
                    have f9 : ((s[k].toNat : Int) == 9) = false := by simp [h9]
                    have HX := hide (show (⟨#[38, 35, 49, 48, 59]⟩ : ByteArray).data.toList = escB true s[k] by rw [show s[k] = 10 from u8i.1 h10]; rfl)
                    clear h38 h60 h62 h13 h34 h9 h10
                    go_wp2
                    go_round
                    case rel => exact ⟨k + 1, t ++ ⟨#[38, 35, 49, 48, 59]⟩, by omega, by go_num, rfl, hide (esc_next HR.out hlt HX.out), (esc_next HR.out hlt HX.out).2⟩
                    case measure => simp [intOf]; omega
                  · have f38 : ((s[k].toNat : Int) == 38) = false := by simp [h38]
                    have f60 : ((s[k].toNat : Int) == 60) = false := by simp [h60]
                    have f62 : ((s[k].toNat : Int) == 62) = false := by simp [h62]
                    have f13 : ((s[k].toNat : Int) == 13) = false := by simp [h13]
                    have f34 : ((s[k].toNat : Int) == 34) = false := by simp [h34]
                    have f9 : ((s[k].toNat : Int) == 9) = false := by simp [h9]
                    have f10 : ((s[k].toNat : Int) == 10) = false := by simp [h10]
                    have HX := hide (show (s.extract k (k + 1)).data.toList = escB true s[k] by rw [Lib.extract_data, drop_byte1 s k hlt, escB, if_neg (fun e => h38 (u8i.2 e)), if_neg (fun e => h60 (u8i.2 e)), if_neg (fun e => h62 (u8i.2 e)), if_neg (fun e => h13 (u8i.2 e)), if_neg (fun e => h34 (u8i.2 e.2)), if_neg (fun e => h9 (u8i.2 e.2)), if_neg (fun e => h10 (u8i.2 e.2))])
                    have hz : (s.extract k (k + 1)).size ≤ 1 := by rw [ByteArray.size_extract]; omega
                    have c1 : (0 : Int) ≤ ↑k := by omega
                    have c2 : (↑k : Int) ≤ ↑k + 1 := by omega
                    have c3 : (↑k + 1 : Int) ≤ ↑s.size := by omega
                    have hsl := fun wx => slice_mid s k hlt wx
                    clear h38 h60 h62 h13 h34 h9 h10
                    go_wp2
                    go_round
                    case rel => exact ⟨k + 1, t ++ s.extract k (k + 1), by omega, by go_num, rfl, hide (esc_next HR.out hlt HX.out), (esc_next HR.out hlt HX.out).2⟩
                    case measure => simp [intOf]; omega
    · go_wp2
      go_ret
      exact ⟨by rw [esc_end HR.out (by omega)]; rfl, rfl⟩

end Go.Proofs.YthcggdjkfebemaaGreatDoor
