/-
  strings.ContainsRune at the signs within brackets, for every character.
-/
import Derived.Test.YtibagghpimadfaaGreatDoorV13
namespace Go.Proofs.YtibagghpimadfaaGreatDoor
open Go.RowKit
set_option linter.unusedVariables false
set_option linter.unusedSimpArgs false
set_option maxRecDepth 100000 in
set_option maxHeartbeats 8000000 in
theorem r_errI (w : World) : Calls Tryz.prog 82 #[.string ⟨#[91, 93, 92, 45, 94]⟩, .int .i32 65533] w (NoAns w) := by
  go_enter Tryz.func82, Tryz.ntmps82
  go_wp2_with fail
  go_loopw [] (fun wr => ∃ pos : Nat, pos ≤ 5 ∧ Hid (wr.heap[w.heap.size]? = some (.stringIter ⟨#[91, 93, 92, 45, 94]⟩ pos)) ∧ Hid (Below w.heap.size w wr)) (fun wr => match wr.heap[w.heap.size]? with | some (.stringIter _ p) => 5 - p | _ => 0)
  case atStart => exact ⟨0, by omega, hide (World.iter_heap w _ 0), hide ((Below.refl _ _).alloc (Nat.le_refl _) _)⟩
  case round =>
    obtain ⟨pos, hp, HI, HB⟩ := hrel
    by_cases hlt : pos < 5
    · have hlt' : pos < (⟨#[91, 93, 92, 45, 94]⟩ : ByteArray).size := hlt
      have ha : ((⟨#[91, 93, 92, 45, 94]⟩ : ByteArray)[pos]'hlt').toNat < 128 := by
        rcases (show pos = 0 ∨ pos = 1 ∨ pos = 2 ∨ pos = 3 ∨ pos = 4 by omega) with e | e | e | e | e <;> subst e <;> (first | (show _ < _; decide) | exact of_decide_eq_true rfl)
      have hnx := fun ty => Lib.run_next_ascii_at (P := Tryz.prog) wr w.heap.size ⟨#[91, 93, 92, 45, 94]⟩ pos ty HI.out hlt' ha
      obtain ⟨x, hx⟩ : ∃ x : Nat, ((⟨#[91, 93, 92, 45, 94]⟩ : ByteArray)[pos]'hlt').toNat = x := ⟨_, rfl⟩
      rw [hx] at hnx ha
      have e1 : ((x : Int) == 65533) = false := by
        have : ¬ (x : Int) = 65533 := by omega
        simpa using this
      have HI2 := hide (Lib.iterAt_heap wr w.heap.size _ pos (pos + 1) HI.out)
      have HB2 := hide (Lib.below_iterAt HB.out (k := w.heap.size) (Nat.le_refl _) ⟨#[91, 93, 92, 45, 94]⟩ (pos + 1))
      clear hx
      go_wp2
      go_roundw
      case rel => exact ⟨pos + 1, by omega, HI2, HB2⟩
      case measure => rw [HI2.out, HI.out]; simp; omega
    · have hnx := fun ty => Lib.run_next_end_at (P := Tryz.prog) wr w.heap.size ⟨#[91, 93, 92, 45, 94]⟩ pos ty HI.out (fun h9 => hlt h9)
      go_wp2
      go_ret
      exact ⟨rfl, HB.out⟩
set_option maxRecDepth 100000 in
set_option maxHeartbeats 8000000 in
theorem r_long2I (r : Int) (w : World) (h : 128 ≤ r) (h2 : r ≤ 1114111) (hv : Lib.validRune r = true) (he : r ≠ 65533) (a b : UInt8) (hN : Utf8.encode r = ⟨#[a, b]⟩) (hb : 128 ≤ b.toNat) : Calls Tryz.prog 82 #[.string ⟨#[91, 93, 92, 45, 94]⟩, .int .i32 r] w (NoAns w) := by
  have CV := hide (Tryz.utf8_ValidRune r w)
  rw [hv] at CV
  have hcv := enc_run r
  rw [hN] at hcv
  have hnot : ∀ (x : Bool) (w : World), (Op.unary .not (.bool x)).run Tryz.prog w = .ok (.bool (!x)) w := fun _ _ => rfl
  have h0 : (0 : Int) ≤ r := by omega
  have h1 : ¬ r < 128 := by omega
  have e1 : (r == 65533) = false := by simpa using he
  have hne : (((⟨#[91, 93, 92, 45, 94]⟩ : ByteArray)[1]'(by decide)).toNat : Int) ≠ (((⟨#[a, b]⟩ : ByteArray)[1]'(Nat.le_refl 2)).toNat : Int) := by
    have e1 : ((⟨#[91, 93, 92, 45, 94]⟩ : ByteArray)[1]'(by decide)).toNat < 128 := by decide
    have e2 : 128 ≤ ((⟨#[a, b]⟩ : ByteArray)[1]'(Nat.le_refl 2)).toNat := hb
    omega
  have hne2 : ((((⟨#[91, 93, 92, 45, 94]⟩ : ByteArray)[1]'(by decide)).toNat : Int) != (((⟨#[a, b]⟩ : ByteArray)[1]'(Nat.le_refl 2)).toNat : Int)) = true := by
    rw [bne_iff_ne]
    exact hne
  go_enter Tryz.func82, Tryz.ntmps82
  go_wp2_with (first | (go_at_call 98; refine CV.out.mono ?_; rintro e w9 ⟨rfl, h9⟩; rw [h9]; clear h9 w9))
  go_step3
  go_wp2
  go_loopw [9] (fun v9 wr => v9 = .int .i64 1 ∧ wr = w) (fun _ _ => 0)
  case atStart => exact ⟨rfl, rfl⟩
  case round =>
    obtain ⟨rfl, rfl⟩ := hrel
    go_wp2
    go_step3
    go_wp2
    go_region
    go_wp2
    go_region_with (go_at_call 97; refine (Tryz.strings_IndexByte _ _ _).mono ?_; rintro e w9 ⟨he9, h9⟩; have e9 : e = .returned (.int .i64 (-1)) := he9.trans (by rw [hi_none _ _ (by decide) (by rw [u8_back]; exact hb)]); rw [e9, h9]; clear he9 e9 h9)
    all_goals (go_wp2; rw [Exit.noGoto_ret]; go_ret; exact ⟨rfl, (((Below.refl _ _).drew).drew)⟩)
set_option maxRecDepth 100000 in
set_option maxHeartbeats 8000000 in
theorem r_long3I (r : Int) (w : World) (h : 128 ≤ r) (h2 : r ≤ 1114111) (hv : Lib.validRune r = true) (he : r ≠ 65533) (a b c : UInt8) (hN : Utf8.encode r = ⟨#[a, b, c]⟩) (hb : 128 ≤ c.toNat) : Calls Tryz.prog 82 #[.string ⟨#[91, 93, 92, 45, 94]⟩, .int .i32 r] w (NoAns w) := by
  have CV := hide (Tryz.utf8_ValidRune r w)
  rw [hv] at CV
  have hcv := enc_run r
  rw [hN] at hcv
  have hnot : ∀ (x : Bool) (w : World), (Op.unary .not (.bool x)).run Tryz.prog w = .ok (.bool (!x)) w := fun _ _ => rfl
  have h0 : (0 : Int) ≤ r := by omega
  have h1 : ¬ r < 128 := by omega
  have e1 : (r == 65533) = false := by simpa using he
  have hne : (((⟨#[91, 93, 92, 45, 94]⟩ : ByteArray)[2]'(by decide)).toNat : Int) ≠ (((⟨#[a, b, c]⟩ : ByteArray)[2]'(Nat.le_refl 3)).toNat : Int) := by
    have e1 : ((⟨#[91, 93, 92, 45, 94]⟩ : ByteArray)[2]'(by decide)).toNat < 128 := by decide
    have e2 : 128 ≤ ((⟨#[a, b, c]⟩ : ByteArray)[2]'(Nat.le_refl 3)).toNat := hb
    omega
  have hne2 : ((((⟨#[91, 93, 92, 45, 94]⟩ : ByteArray)[2]'(by decide)).toNat : Int) != (((⟨#[a, b, c]⟩ : ByteArray)[2]'(Nat.le_refl 3)).toNat : Int)) = true := by
    rw [bne_iff_ne]
    exact hne
  go_enter Tryz.func82, Tryz.ntmps82
  go_wp2_with (first | (go_at_call 98; refine CV.out.mono ?_; rintro e w9 ⟨rfl, h9⟩; rw [h9]; clear h9 w9))
  go_step3
  go_wp2
  go_loopw [9] (fun v9 wr => v9 = .int .i64 2 ∧ wr = w) (fun _ _ => 0)
  case atStart => exact ⟨rfl, rfl⟩
  case round =>
    obtain ⟨rfl, rfl⟩ := hrel
    go_wp2
    go_step3
    go_wp2
    go_region
    go_wp2
    go_region_with (go_at_call 97; refine (Tryz.strings_IndexByte _ _ _).mono ?_; rintro e w9 ⟨he9, h9⟩; have e9 : e = .returned (.int .i64 (-1)) := he9.trans (by rw [hi_none _ _ (by decide) (by rw [u8_back]; exact hb)]); rw [e9, h9]; clear he9 e9 h9)
    all_goals (go_wp2; rw [Exit.noGoto_ret]; go_ret; exact ⟨rfl, (((Below.refl _ _).drew).drew)⟩)
set_option maxRecDepth 100000 in
set_option maxHeartbeats 8000000 in
theorem r_long4I (r : Int) (w : World) (h : 128 ≤ r) (h2 : r ≤ 1114111) (hv : Lib.validRune r = true) (he : r ≠ 65533) (a b c d : UInt8) (hN : Utf8.encode r = ⟨#[a, b, c, d]⟩) (hb : 128 ≤ d.toNat) : Calls Tryz.prog 82 #[.string ⟨#[91, 93, 92, 45, 94]⟩, .int .i32 r] w (NoAns w) := by
  have CV := hide (Tryz.utf8_ValidRune r w)
  rw [hv] at CV
  have hcv := enc_run r
  rw [hN] at hcv
  have hnot : ∀ (x : Bool) (w : World), (Op.unary .not (.bool x)).run Tryz.prog w = .ok (.bool (!x)) w := fun _ _ => rfl
  have h0 : (0 : Int) ≤ r := by omega
  have h1 : ¬ r < 128 := by omega
  have e1 : (r == 65533) = false := by simpa using he
  have hne : (((⟨#[91, 93, 92, 45, 94]⟩ : ByteArray)[3]'(by decide)).toNat : Int) ≠ (((⟨#[a, b, c, d]⟩ : ByteArray)[3]'(Nat.le_refl 4)).toNat : Int) := by
    have e1 : ((⟨#[91, 93, 92, 45, 94]⟩ : ByteArray)[3]'(by decide)).toNat < 128 := by decide
    have e2 : 128 ≤ ((⟨#[a, b, c, d]⟩ : ByteArray)[3]'(Nat.le_refl 4)).toNat := hb
    omega
  have hne2 : ((((⟨#[91, 93, 92, 45, 94]⟩ : ByteArray)[3]'(by decide)).toNat : Int) != (((⟨#[a, b, c, d]⟩ : ByteArray)[3]'(Nat.le_refl 4)).toNat : Int)) = true := by
    rw [bne_iff_ne]
    exact hne
  go_enter Tryz.func82, Tryz.ntmps82
  go_wp2_with (first | (go_at_call 98; refine CV.out.mono ?_; rintro e w9 ⟨rfl, h9⟩; rw [h9]; clear h9 w9))
  go_step3
  go_wp2
  go_loopw [9] (fun v9 wr => v9 = .int .i64 3 ∧ wr = w) (fun _ _ => 0)
  case atStart => exact ⟨rfl, rfl⟩
  case round =>
    obtain ⟨rfl, rfl⟩ := hrel
    go_wp2
    go_step3
    go_wp2
    go_region
    go_wp2
    go_region_with (go_at_call 97; refine (Tryz.strings_IndexByte _ _ _).mono ?_; rintro e w9 ⟨he9, h9⟩; have e9 : e = .returned (.int .i64 (-1)) := he9.trans (by rw [hi_none _ _ (by decide) (by rw [u8_back]; exact hb)]); rw [e9, h9]; clear he9 e9 h9)
    all_goals (go_wp2; rw [Exit.noGoto_ret]; go_ret; exact ⟨rfl, (((Below.refl _ _).drew).drew)⟩)
set_option maxHeartbeats 4000000 in
theorem r_idxI (c : Int) (w : World) (h : 128 ≤ c) (hc : chB c = true) : Calls Tryz.prog 82 #[.string ⟨#[91, 93, 92, 45, 94]⟩, .int .i32 c] w (NoAns w) := by
  have h2 := chB_cases hc
  by_cases he : c = 65533
  · subst he
    exact r_errI w
  · have hv : Lib.validRune c = true := by unfold Lib.validRune; simp; omega
    rcases enc_hi c h hv with ⟨a, b, hN, hb⟩ | ⟨a, b, d, hN, hb⟩ | ⟨a, b, d, f, hN, hb⟩
    · exact r_long2I c w h (by omega) hv he a b hN hb
    · exact r_long3I c w h (by omega) hv he a b d hN hb
    · exact r_long4I c w h (by omega) hv he a b d f hN hb
theorem isS_hiI {c : Int} (h : 128 ≤ c) : isS sgI c = false := by
  unfold isS sgI
  simp
  omega
theorem idx_isI (c : Int) (h0 : 0 ≤ c) (h1 : c < 128) : decide (0 ≤ Lib.indexByte sgI c.toNat.toUInt8) = isS sgI c := by
  obtain ⟨k, rfl⟩ : ∃ k : Nat, c = k := ⟨c.toNat, by omega⟩
  have hk : k < 128 := by omega
  have hall : ∀ k : Fin 128, decide (0 ≤ Lib.indexByte sgI ((k.val : Int)).toNat.toUInt8) = isS sgI (k.val : Int) := by decide +kernel
  exact hall ⟨k, hk⟩
set_option maxHeartbeats 4000000 in
theorem i_signI (c : Int) (w : World) (hc : chB c = true) : Calls Tryz.prog 64 #[.int .i64 c, .string ⟨#[91, 93, 92, 45, 94]⟩] w fun e w' => e = .returned (.bool (isS sgI c)) ∧ Below w.heap.size w w' := by
  have h2 := chB_cases hc
  have hw : IntKind.i32.wrap c = c := by rw [IntKind.wrap_i32]; omega
  by_cases h : c < 128
  · have C := hide (Tryz.strings_ContainsRune_ascii ⟨#[91, 93, 92, 45, 94]⟩ c w (by omega) h)
    rw [show (⟨#[91, 93, 92, 45, 94]⟩ : ByteArray).data.toList = sgI from rfl, idx_isI c (by omega) h] at C
    go_enter Tryz.func64, Tryz.ntmps64
    go_wp2_with (go_at_call 73; refine C.out.mono ?_; rintro e w9 ⟨rfl, h9⟩; rw [h9]; clear h9 w9)
    go_ret
    exact ⟨rfl, Below.refl _ _⟩
  · have HS := hide (isS_hiI (c := c) (by omega))
    have C := hide (r_idxI c w (by omega) hc)
    have CR : Hid (Calls Tryz.prog 73 #[.string ⟨#[91, 93, 92, 45, 94]⟩, .int .i32 c] w fun e w' => e = .returned (.bool false) ∧ Below w.heap.size w w') := hide (by
      go_enter Tryz.func73, Tryz.ntmps73
      go_wp2_with (go_at_call 82; refine C.out.mono ?_; rintro e w2 ⟨rfl, hb2⟩; have HB := hide hb2; clear hb2)
      go_ret
      exact ⟨rfl, HB.out⟩)
    go_enter Tryz.func64, Tryz.ntmps64
    go_wp2_with (go_at_call 73; refine CR.out.mono ?_; rintro e w2 ⟨rfl, hb2⟩; have HB := hide hb2; clear hb2)
    go_ret
    exact ⟨ret_bool HS.out.symm, HB.out⟩
end Go.Proofs.YtibagghpimadfaaGreatDoor
