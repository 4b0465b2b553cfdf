/-
  Texts put together: TeR, TeRI.
-/
import Derived.Test.YtepommmmmfaihaaGreatDoorB9
import Derived.Test.YtepommmmmfaihaaGreatDoorB16
import Derived.Lib.OthersKept
import Derived.Deep.DeepCutAuto
import Derived.WalkMore
/-
  strings.ContainsRune at the signs of expressions, for every character.
-/
namespace Go.Proofs.YtepommmmmfaihaaGreatDoor
open Go.RowKit
set_option linter.unusedVariables false
set_option linter.unusedSimpArgs false
theorem hi_none : ∀ (l : List UInt8) (c : UInt8), (∀ b ∈ l, b.toNat < 128) → 128 ≤ c.toNat → Lib.indexByte l c = -1
  | [], _, _, _ => rfl
  | b :: l, c, h, hc => by
    have h0 := h b (List.mem_cons_self ..)
    have hne : (b == c) = false := beq_eq_false_iff_ne.2 (fun e => by rw [e] at h0; omega)
    have ih := hi_none l c (fun d hd => h d (List.mem_cons_of_mem _ hd)) hc
    unfold Lib.indexByte
    rw [hne, ih]
    rfl
theorem enc_hi (r : Int) (h : 128 ≤ r) (hv : Lib.validRune r = true) : (∃ a b : UInt8, Utf8.encode r = ⟨#[a, b]⟩ ∧ 128 ≤ b.toNat) ∨ (∃ a b c : UInt8, Utf8.encode r = ⟨#[a, b, c]⟩ ∧ 128 ≤ c.toNat) ∨ (∃ a b c d : UInt8, Utf8.encode r = ⟨#[a, b, c, d]⟩ ∧ 128 ≤ d.toNat) := by
  have hv2 : Utf8.valid r = true := by
    unfold Lib.validRune at hv
    unfold Utf8.valid
    simp at hv ⊢
    omega
  have hb : ∀ n : Nat, 128 ≤ (UInt8.ofNat (0x80 + n % 64)).toNat := fun n => by
    rw [UInt8.toNat_ofNat']
    omega
  unfold Utf8.encode
  simp only [hv2, if_true]
  rw [if_neg (by omega)]
  by_cases h1 : r.toNat < 0x800
  · rw [if_pos h1]
    exact .inl ⟨_, _, rfl, hb _⟩
  · rw [if_neg h1]
    by_cases h2 : r.toNat < 0x10000
    · rw [if_pos h2]
      exact .inr (.inl ⟨_, _, _, rfl, hb _⟩)
    · rw [if_neg h2]
      exact .inr (.inr ⟨_, _, _, _, rfl, hb _⟩)
theorem enc_run (r : Int) (w : World) : (convert 21 9 (.int .i32 r)).run Tryz.prog w = .ok (.string (Utf8.encode r)) w := by kernel_rfl
theorem u8_back (x : UInt8) : (x.toNat : Int).toNat.toUInt8 = x := by simp
/-- None of them. -/
def NoAns (w : World) (e : Ending) (w' : World) : Prop := e = .returned (.int .i64 (-1)) ∧ Below w.heap.size w w'
set_option maxRecDepth 100000 in
set_option maxHeartbeats 8000000 in
theorem r_errO (w : World) : Calls Tryz.prog 144 #[.string ⟨#[46, 92, 63, 42, 43, 123, 125, 40, 41, 124, 91, 93]⟩, .int .i32 65533] w (NoAns w) := by
  go_enter Tryz.func144, Tryz.ntmps144
  go_wp2_with fail
  go_loopw [] (fun wr => ∃ pos : Nat, pos ≤ 12 ∧ Hid (wr.heap[w.heap.size]? = some (.stringIter ⟨#[46, 92, 63, 42, 43, 123, 125, 40, 41, 124, 91, 93]⟩ pos)) ∧ Hid (Below w.heap.size w wr)) (fun wr => match wr.heap[w.heap.size]? with | some (.stringIter _ p) => 12 - p | _ => 0)
  case atStart => exact ⟨0, by omega, hide (World.iter_heap w _ 0), hide ((Below.refl _ _).alloc (Nat.le_refl _) _)⟩
  case round =>
    obtain ⟨pos, hp, HI, HB⟩ := hrel
    by_cases hlt : pos < 12
    · have hlt' : pos < (⟨#[46, 92, 63, 42, 43, 123, 125, 40, 41, 124, 91, 93]⟩ : ByteArray).size := hlt
      have ha : ((⟨#[46, 92, 63, 42, 43, 123, 125, 40, 41, 124, 91, 93]⟩ : ByteArray)[pos]'hlt').toNat < 128 := by
        rcases (show pos = 0 ∨ pos = 1 ∨ pos = 2 ∨ pos = 3 ∨ pos = 4 ∨ pos = 5 ∨ pos = 6 ∨ pos = 7 ∨ pos = 8 ∨ pos = 9 ∨ pos = 10 ∨ pos = 11 by omega) with e | e | e | e | e | e | e | e | e | e | e | e <;> subst e <;> (first | (show _ < _; decide) | exact of_decide_eq_true rfl)
      have hnx := fun ty => Lib.run_next_ascii_at (P := Tryz.prog) wr w.heap.size ⟨#[46, 92, 63, 42, 43, 123, 125, 40, 41, 124, 91, 93]⟩ pos ty HI.out hlt' ha
      obtain ⟨x, hx⟩ : ∃ x : Nat, ((⟨#[46, 92, 63, 42, 43, 123, 125, 40, 41, 124, 91, 93]⟩ : ByteArray)[pos]'hlt').toNat = x := ⟨_, rfl⟩
      rw [hx] at hnx ha
      have e1 : ((x : Int) == 65533) = false := by
        have : ¬ (x : Int) = 65533 := by omega
        simpa using this
      have HI2 := hide (Lib.iterAt_heap wr w.heap.size _ pos (pos + 1) HI.out)
      have HB2 := hide (Lib.below_iterAt HB.out (k := w.heap.size) (Nat.le_refl _) ⟨#[46, 92, 63, 42, 43, 123, 125, 40, 41, 124, 91, 93]⟩ (pos + 1))
      clear hx
      go_wp2
      go_roundw
      case rel => exact ⟨pos + 1, by omega, HI2, HB2⟩
      case measure => rw [HI2.out, HI.out]; simp; omega
    · have hnx := fun ty => Lib.run_next_end_at (P := Tryz.prog) wr w.heap.size ⟨#[46, 92, 63, 42, 43, 123, 125, 40, 41, 124, 91, 93]⟩ pos ty HI.out (fun h9 => hlt h9)
      go_wp2
      go_ret
      exact ⟨rfl, HB.out⟩
set_option maxRecDepth 100000 in
set_option maxHeartbeats 8000000 in
theorem r_long2O (r : Int) (w : World) (h : 128 ≤ r) (h2 : r ≤ 1114111) (hv : Lib.validRune r = true) (he : r ≠ 65533) (a b : UInt8) (hN : Utf8.encode r = ⟨#[a, b]⟩) (hb : 128 ≤ b.toNat) : Calls Tryz.prog 144 #[.string ⟨#[46, 92, 63, 42, 43, 123, 125, 40, 41, 124, 91, 93]⟩, .int .i32 r] w (NoAns w) := by
  have CV := hide (Tryz.utf8_ValidRune r w)
  rw [hv] at CV
  have hcv := enc_run r
  rw [hN] at hcv
  have hnot : ∀ (x : Bool) (w : World), (Op.unary .not (.bool x)).run Tryz.prog w = .ok (.bool (!x)) w := fun _ _ => rfl
  have h0 : (0 : Int) ≤ r := by omega
  have h1 : ¬ r < 128 := by omega
  have e1 : (r == 65533) = false := by simpa using he
  have hne : (((⟨#[46, 92, 63, 42, 43, 123, 125, 40, 41, 124, 91, 93]⟩ : ByteArray)[1]'(by decide)).toNat : Int) ≠ (((⟨#[a, b]⟩ : ByteArray)[1]'(Nat.le_refl 2)).toNat : Int) := by
    have e1 : ((⟨#[46, 92, 63, 42, 43, 123, 125, 40, 41, 124, 91, 93]⟩ : ByteArray)[1]'(by decide)).toNat < 128 := by decide
    have e2 : 128 ≤ ((⟨#[a, b]⟩ : ByteArray)[1]'(Nat.le_refl 2)).toNat := hb
    omega
  have hne2 : ((((⟨#[46, 92, 63, 42, 43, 123, 125, 40, 41, 124, 91, 93]⟩ : ByteArray)[1]'(by decide)).toNat : Int) != (((⟨#[a, b]⟩ : ByteArray)[1]'(Nat.le_refl 2)).toNat : Int)) = true := by
    rw [bne_iff_ne]
    exact hne
  go_enter Tryz.func144, Tryz.ntmps144
  go_wp2_with (first | (go_at_call 146; refine CV.out.mono ?_; rintro e w9 ⟨rfl, h9⟩; rw [h9]; clear h9 w9))
  go_step3
  go_wp2
  go_loopw [9] (fun v9 wr => v9 = .int .i64 1 ∧ wr = w) (fun _ _ => 0)
  case atStart => exact ⟨rfl, rfl⟩
  case round =>
    obtain ⟨rfl, rfl⟩ := hrel
    go_wp2
    go_step3
    go_wp2
    go_region
    go_wp2
    go_region_with (go_at_call 145; refine (Tryz.strings_IndexByte _ _ _).mono ?_; rintro e w9 ⟨he9, h9⟩; have e9 : e = .returned (.int .i64 (-1)) := he9.trans (by rw [hi_none _ _ (by decide) (by rw [u8_back]; exact hb)]); rw [e9, h9]; clear he9 e9 h9)
    all_goals (go_wp2; rw [Exit.noGoto_ret]; go_ret; exact ⟨rfl, (((Below.refl _ _).drew).drew)⟩)
set_option maxRecDepth 100000 in
set_option maxHeartbeats 8000000 in
theorem r_long3O (r : Int) (w : World) (h : 128 ≤ r) (h2 : r ≤ 1114111) (hv : Lib.validRune r = true) (he : r ≠ 65533) (a b c : UInt8) (hN : Utf8.encode r = ⟨#[a, b, c]⟩) (hb : 128 ≤ c.toNat) : Calls Tryz.prog 144 #[.string ⟨#[46, 92, 63, 42, 43, 123, 125, 40, 41, 124, 91, 93]⟩, .int .i32 r] w (NoAns w) := by
  have CV := hide (Tryz.utf8_ValidRune r w)
  rw [hv] at CV
  have hcv := enc_run r
  rw [hN] at hcv
  have hnot : ∀ (x : Bool) (w : World), (Op.unary .not (.bool x)).run Tryz.prog w = .ok (.bool (!x)) w := fun _ _ => rfl
  have h0 : (0 : Int) ≤ r := by omega
  have h1 : ¬ r < 128 := by omega
  have e1 : (r == 65533) = false := by simpa using he
  have hne : (((⟨#[46, 92, 63, 42, 43, 123, 125, 40, 41, 124, 91, 93]⟩ : ByteArray)[2]'(by decide)).toNat : Int) ≠ (((⟨#[a, b, c]⟩ : ByteArray)[2]'(Nat.le_refl 3)).toNat : Int) := by
    have e1 : ((⟨#[46, 92, 63, 42, 43, 123, 125, 40, 41, 124, 91, 93]⟩ : ByteArray)[2]'(by decide)).toNat < 128 := by decide
    have e2 : 128 ≤ ((⟨#[a, b, c]⟩ : ByteArray)[2]'(Nat.le_refl 3)).toNat := hb
    omega
  have hne2 : ((((⟨#[46, 92, 63, 42, 43, 123, 125, 40, 41, 124, 91, 93]⟩ : ByteArray)[2]'(by decide)).toNat : Int) != (((⟨#[a, b, c]⟩ : ByteArray)[2]'(Nat.le_refl 3)).toNat : Int)) = true := by
    rw [bne_iff_ne]
    exact hne
  go_enter Tryz.func144, Tryz.ntmps144
  go_wp2_with (first | (go_at_call 146; refine CV.out.mono ?_; rintro e w9 ⟨rfl, h9⟩; rw [h9]; clear h9 w9))
  go_step3
  go_wp2
  go_loopw [9] (fun v9 wr => v9 = .int .i64 2 ∧ wr = w) (fun _ _ => 0)
  case atStart => exact ⟨rfl, rfl⟩
  case round =>
    obtain ⟨rfl, rfl⟩ := hrel
    go_wp2
    go_step3
    go_wp2
    go_region
    go_wp2
    go_region_with (go_at_call 145; refine (Tryz.strings_IndexByte _ _ _).mono ?_; rintro e w9 ⟨he9, h9⟩; have e9 : e = .returned (.int .i64 (-1)) := he9.trans (by rw [hi_none _ _ (by decide) (by rw [u8_back]; exact hb)]); rw [e9, h9]; clear he9 e9 h9)
    all_goals (go_wp2; rw [Exit.noGoto_ret]; go_ret; exact ⟨rfl, (((Below.refl _ _).drew).drew)⟩)
set_option maxRecDepth 100000 in
set_option maxHeartbeats 8000000 in
theorem r_long4O (r : Int) (w : World) (h : 128 ≤ r) (h2 : r ≤ 1114111) (hv : Lib.validRune r = true) (he : r ≠ 65533) (a b c d : UInt8) (hN : Utf8.encode r = ⟨#[a, b, c, d]⟩) (hb : 128 ≤ d.toNat) : Calls Tryz.prog 144 #[.string ⟨#[46, 92, 63, 42, 43, 123, 125, 40, 41, 124, 91, 93]⟩, .int .i32 r] w (NoAns w) := by
  have CV := hide (Tryz.utf8_ValidRune r w)
  rw [hv] at CV
  have hcv := enc_run r
  rw [hN] at hcv
  have hnot : ∀ (x : Bool) (w : World), (Op.unary .not (.bool x)).run Tryz.prog w = .ok (.bool (!x)) w := fun _ _ => rfl
  have h0 : (0 : Int) ≤ r := by omega
  have h1 : ¬ r < 128 := by omega
  have e1 : (r == 65533) = false := by simpa using he
  have hne : (((⟨#[46, 92, 63, 42, 43, 123, 125, 40, 41, 124, 91, 93]⟩ : ByteArray)[3]'(by decide)).toNat : Int) ≠ (((⟨#[a, b, c, d]⟩ : ByteArray)[3]'(Nat.le_refl 4)).toNat : Int) := by
    have e1 : ((⟨#[46, 92, 63, 42, 43, 123, 125, 40, 41, 124, 91, 93]⟩ : ByteArray)[3]'(by decide)).toNat < 128 := by decide
    have e2 : 128 ≤ ((⟨#[a, b, c, d]⟩ : ByteArray)[3]'(Nat.le_refl 4)).toNat := hb
    omega
  have hne2 : ((((⟨#[46, 92, 63, 42, 43, 123, 125, 40, 41, 124, 91, 93]⟩ : ByteArray)[3]'(by decide)).toNat : Int) != (((⟨#[a, b, c, d]⟩ : ByteArray)[3]'(Nat.le_refl 4)).toNat : Int)) = true := by
    rw [bne_iff_ne]
    exact hne
  go_enter Tryz.func144, Tryz.ntmps144
  go_wp2_with (first | (go_at_call 146; refine CV.out.mono ?_; rintro e w9 ⟨rfl, h9⟩; rw [h9]; clear h9 w9))
  go_step3
  go_wp2
  go_loopw [9] (fun v9 wr => v9 = .int .i64 3 ∧ wr = w) (fun _ _ => 0)
  case atStart => exact ⟨rfl, rfl⟩
  case round =>
    obtain ⟨rfl, rfl⟩ := hrel
    go_wp2
    go_step3
    go_wp2
    go_region
    go_wp2
    go_region_with (go_at_call 145; refine (Tryz.strings_IndexByte _ _ _).mono ?_; rintro e w9 ⟨he9, h9⟩; have e9 : e = .returned (.int .i64 (-1)) := he9.trans (by rw [hi_none _ _ (by decide) (by rw [u8_back]; exact hb)]); rw [e9, h9]; clear he9 e9 h9)
    all_goals (go_wp2; rw [Exit.noGoto_ret]; go_ret; exact ⟨rfl, (((Below.refl _ _).drew).drew)⟩)
set_option maxHeartbeats 4000000 in
theorem r_idxO (c : Int) (w : World) (h : 128 ≤ c) (hc : chB c = true) : Calls Tryz.prog 144 #[.string ⟨#[46, 92, 63, 42, 43, 123, 125, 40, 41, 124, 91, 93]⟩, .int .i32 c] w (NoAns w) := by
  have h2 := chB_cases hc
  by_cases he : c = 65533
  · subst he
    exact r_errO w
  · have hv : Lib.validRune c = true := by unfold Lib.validRune; simp; omega
    rcases enc_hi c h hv with ⟨a, b, hN, hb⟩ | ⟨a, b, d, hN, hb⟩ | ⟨a, b, d, f, hN, hb⟩
    · exact r_long2O c w h (by omega) hv he a b hN hb
    · exact r_long3O c w h (by omega) hv he a b d hN hb
    · exact r_long4O c w h (by omega) hv he a b d f hN hb
theorem isS_hiO {c : Int} (h : 128 ≤ c) : isS sgO c = false := by
  unfold isS sgO
  simp
  omega
theorem idx_isO (c : Int) (h0 : 0 ≤ c) (h1 : c < 128) : decide (0 ≤ Lib.indexByte sgO c.toNat.toUInt8) = isS sgO c := by
  obtain ⟨k, rfl⟩ : ∃ k : Nat, c = k := ⟨c.toNat, by omega⟩
  have hk : k < 128 := by omega
  have hall : ∀ k : Fin 128, decide (0 ≤ Lib.indexByte sgO ((k.val : Int)).toNat.toUInt8) = isS sgO (k.val : Int) := by decide +kernel
  exact hall ⟨k, hk⟩
set_option maxHeartbeats 4000000 in
theorem i_signO (c : Int) (w : World) (hc : chB c = true) : Calls Tryz.prog 135 #[.int .i64 c, .string ⟨#[46, 92, 63, 42, 43, 123, 125, 40, 41, 124, 91, 93]⟩] w fun e w' => e = .returned (.bool (isS sgO c)) ∧ Below w.heap.size w w' := by
  have h2 := chB_cases hc
  have hw : IntKind.i32.wrap c = c := by rw [IntKind.wrap_i32]; omega
  by_cases h : c < 128
  · have C := hide (Tryz.strings_ContainsRune_ascii ⟨#[46, 92, 63, 42, 43, 123, 125, 40, 41, 124, 91, 93]⟩ c w (by omega) h)
    rw [show (⟨#[46, 92, 63, 42, 43, 123, 125, 40, 41, 124, 91, 93]⟩ : ByteArray).data.toList = sgO from rfl, idx_isO c (by omega) h] at C
    go_enter Tryz.func135, Tryz.ntmps135
    go_wp2_with (go_at_call 142; refine C.out.mono ?_; rintro e w9 ⟨rfl, h9⟩; rw [h9]; clear h9 w9)
    go_ret
    exact ⟨rfl, Below.refl _ _⟩
  · have HS := hide (isS_hiO (c := c) (by omega))
    have C := hide (r_idxO c w (by omega) hc)
    have CR : Hid (Calls Tryz.prog 142 #[.string ⟨#[46, 92, 63, 42, 43, 123, 125, 40, 41, 124, 91, 93]⟩, .int .i32 c] w fun e w' => e = .returned (.bool false) ∧ Below w.heap.size w w') := hide (by
      go_enter Tryz.func142, Tryz.ntmps142
      go_wp2_with (go_at_call 144; refine C.out.mono ?_; rintro e w2 ⟨rfl, hb2⟩; have HB := hide hb2; clear hb2)
      go_ret
      exact ⟨rfl, HB.out⟩)
    go_enter Tryz.func135, Tryz.ntmps135
    go_wp2_with (go_at_call 142; refine CR.out.mono ?_; rintro e w2 ⟨rfl, hb2⟩; have HB := hide hb2; clear hb2)
    go_ret
    exact ⟨ret_bool HS.out.symm, HB.out⟩
end Go.Proofs.YtepommmmmfaihaaGreatDoor

/-
  strings.ContainsRune at the signs within brackets, for every character.
-/
namespace Go.Proofs.YtepommmmmfaihaaGreatDoor
open Go.RowKit
set_option linter.unusedVariables false
set_option linter.unusedSimpArgs false
set_option maxRecDepth 100000 in
set_option maxHeartbeats 8000000 in
theorem r_errI (w : World) : Calls Tryz.prog 144 #[.string ⟨#[91, 93, 92, 45, 94]⟩, .int .i32 65533] w (NoAns w) := by
  go_enter Tryz.func144, Tryz.ntmps144
  go_wp2_with fail
  go_loopw [] (fun wr => ∃ pos : Nat, pos ≤ 5 ∧ Hid (wr.heap[w.heap.size]? = some (.stringIter ⟨#[91, 93, 92, 45, 94]⟩ pos)) ∧ Hid (Below w.heap.size w wr)) (fun wr => match wr.heap[w.heap.size]? with | some (.stringIter _ p) => 5 - p | _ => 0)
  case atStart => exact ⟨0, by omega, hide (World.iter_heap w _ 0), hide ((Below.refl _ _).alloc (Nat.le_refl _) _)⟩
  case round =>
    obtain ⟨pos, hp, HI, HB⟩ := hrel
    by_cases hlt : pos < 5
    · have hlt' : pos < (⟨#[91, 93, 92, 45, 94]⟩ : ByteArray).size := hlt
      have ha : ((⟨#[91, 93, 92, 45, 94]⟩ : ByteArray)[pos]'hlt').toNat < 128 := by
        rcases (show pos = 0 ∨ pos = 1 ∨ pos = 2 ∨ pos = 3 ∨ pos = 4 by omega) with e | e | e | e | e <;> subst e <;> (first | (show _ < _; decide) | exact of_decide_eq_true rfl)
      have hnx := fun ty => Lib.run_next_ascii_at (P := Tryz.prog) wr w.heap.size ⟨#[91, 93, 92, 45, 94]⟩ pos ty HI.out hlt' ha
      obtain ⟨x, hx⟩ : ∃ x : Nat, ((⟨#[91, 93, 92, 45, 94]⟩ : ByteArray)[pos]'hlt').toNat = x := ⟨_, rfl⟩
      rw [hx] at hnx ha
      have e1 : ((x : Int) == 65533) = false := by
        have : ¬ (x : Int) = 65533 := by omega
        simpa using this
      have HI2 := hide (Lib.iterAt_heap wr w.heap.size _ pos (pos + 1) HI.out)
      have HB2 := hide (Lib.below_iterAt HB.out (k := w.heap.size) (Nat.le_refl _) ⟨#[91, 93, 92, 45, 94]⟩ (pos + 1))
      clear hx
      go_wp2
      go_roundw
      case rel => exact ⟨pos + 1, by omega, HI2, HB2⟩
      case measure => rw [HI2.out, HI.out]; simp; omega
    · have hnx := fun ty => Lib.run_next_end_at (P := Tryz.prog) wr w.heap.size ⟨#[91, 93, 92, 45, 94]⟩ pos ty HI.out (fun h9 => hlt h9)
      go_wp2
      go_ret
      exact ⟨rfl, HB.out⟩
set_option maxRecDepth 100000 in
set_option maxHeartbeats 8000000 in
theorem r_long2I (r : Int) (w : World) (h : 128 ≤ r) (h2 : r ≤ 1114111) (hv : Lib.validRune r = true) (he : r ≠ 65533) (a b : UInt8) (hN : Utf8.encode r = ⟨#[a, b]⟩) (hb : 128 ≤ b.toNat) : Calls Tryz.prog 144 #[.string ⟨#[91, 93, 92, 45, 94]⟩, .int .i32 r] w (NoAns w) := by
  have CV := hide (Tryz.utf8_ValidRune r w)
  rw [hv] at CV
  have hcv := enc_run r
  rw [hN] at hcv
  have hnot : ∀ (x : Bool) (w : World), (Op.unary .not (.bool x)).run Tryz.prog w = .ok (.bool (!x)) w := fun _ _ => rfl
  have h0 : (0 : Int) ≤ r := by omega
  have h1 : ¬ r < 128 := by omega
  have e1 : (r == 65533) = false := by simpa using he
  have hne : (((⟨#[91, 93, 92, 45, 94]⟩ : ByteArray)[1]'(by decide)).toNat : Int) ≠ (((⟨#[a, b]⟩ : ByteArray)[1]'(Nat.le_refl 2)).toNat : Int) := by
    have e1 : ((⟨#[91, 93, 92, 45, 94]⟩ : ByteArray)[1]'(by decide)).toNat < 128 := by decide
    have e2 : 128 ≤ ((⟨#[a, b]⟩ : ByteArray)[1]'(Nat.le_refl 2)).toNat := hb
    omega
  have hne2 : ((((⟨#[91, 93, 92, 45, 94]⟩ : ByteArray)[1]'(by decide)).toNat : Int) != (((⟨#[a, b]⟩ : ByteArray)[1]'(Nat.le_refl 2)).toNat : Int)) = true := by
    rw [bne_iff_ne]
    exact hne
  go_enter Tryz.func144, Tryz.ntmps144
  go_wp2_with (first | (go_at_call 146; refine CV.out.mono ?_; rintro e w9 ⟨rfl, h9⟩; rw [h9]; clear h9 w9))
  go_step3
  go_wp2
  go_loopw [9] (fun v9 wr => v9 = .int .i64 1 ∧ wr = w) (fun _ _ => 0)
  case atStart => exact ⟨rfl, rfl⟩
  case round =>
    obtain ⟨rfl, rfl⟩ := hrel
    go_wp2
    go_step3
    go_wp2
    go_region
    go_wp2
    go_region_with (go_at_call 145; refine (Tryz.strings_IndexByte _ _ _).mono ?_; rintro e w9 ⟨he9, h9⟩; have e9 : e = .returned (.int .i64 (-1)) := he9.trans (by rw [hi_none _ _ (by decide) (by rw [u8_back]; exact hb)]); rw [e9, h9]; clear he9 e9 h9)
    all_goals (go_wp2; rw [Exit.noGoto_ret]; go_ret; exact ⟨rfl, (((Below.refl _ _).drew).drew)⟩)
set_option maxRecDepth 100000 in
set_option maxHeartbeats 8000000 in
theorem r_long3I (r : Int) (w : World) (h : 128 ≤ r) (h2 : r ≤ 1114111) (hv : Lib.validRune r = true) (he : r ≠ 65533) (a b c : UInt8) (hN : Utf8.encode r = ⟨#[a, b, c]⟩) (hb : 128 ≤ c.toNat) : Calls Tryz.prog 144 #[.string ⟨#[91, 93, 92, 45, 94]⟩, .int .i32 r] w (NoAns w) := by
  have CV := hide (Tryz.utf8_ValidRune r w)
  rw [hv] at CV
  have hcv := enc_run r
  rw [hN] at hcv
  have hnot : ∀ (x : Bool) (w : World), (Op.unary .not (.bool x)).run Tryz.prog w = .ok (.bool (!x)) w := fun _ _ => rfl
  have h0 : (0 : Int) ≤ r := by omega
  have h1 : ¬ r < 128 := by omega
  have e1 : (r == 65533) = false := by simpa using he
  have hne : (((⟨#[91, 93, 92, 45, 94]⟩ : ByteArray)[2]'(by decide)).toNat : Int) ≠ (((⟨#[a, b, c]⟩ : ByteArray)[2]'(Nat.le_refl 3)).toNat : Int) := by
    have e1 : ((⟨#[91, 93, 92, 45, 94]⟩ : ByteArray)[2]'(by decide)).toNat < 128 := by decide
    have e2 : 128 ≤ ((⟨#[a, b, c]⟩ : ByteArray)[2]'(Nat.le_refl 3)).toNat := hb
    omega
  have hne2 : ((((⟨#[91, 93, 92, 45, 94]⟩ : ByteArray)[2]'(by decide)).toNat : Int) != (((⟨#[a, b, c]⟩ : ByteArray)[2]'(Nat.le_refl 3)).toNat : Int)) = true := by
    rw [bne_iff_ne]
    exact hne
  go_enter Tryz.func144, Tryz.ntmps144
  go_wp2_with (first | (go_at_call 146; refine CV.out.mono ?_; rintro e w9 ⟨rfl, h9⟩; rw [h9]; clear h9 w9))
  go_step3
  go_wp2
  go_loopw [9] (fun v9 wr => v9 = .int .i64 2 ∧ wr = w) (fun _ _ => 0)
  case atStart => exact ⟨rfl, rfl⟩
  case round =>
    obtain ⟨rfl, rfl⟩ := hrel
    go_wp2
    go_step3
    go_wp2
    go_region
    go_wp2
    go_region_with (go_at_call 145; refine (Tryz.strings_IndexByte _ _ _).mono ?_; rintro e w9 ⟨he9, h9⟩; have e9 : e = .returned (.int .i64 (-1)) := he9.trans (by rw [hi_none _ _ (by decide) (by rw [u8_back]; exact hb)]); rw [e9, h9]; clear he9 e9 h9)
    all_goals (go_wp2; rw [Exit.noGoto_ret]; go_ret; exact ⟨rfl, (((Below.refl _ _).drew).drew)⟩)
set_option maxRecDepth 100000 in
set_option maxHeartbeats 8000000 in
theorem r_long4I (r : Int) (w : World) (h : 128 ≤ r) (h2 : r ≤ 1114111) (hv : Lib.validRune r = true) (he : r ≠ 65533) (a b c d : UInt8) (hN : Utf8.encode r = ⟨#[a, b, c, d]⟩) (hb : 128 ≤ d.toNat) : Calls Tryz.prog 144 #[.string ⟨#[91, 93, 92, 45, 94]⟩, .int .i32 r] w (NoAns w) := by
  have CV := hide (Tryz.utf8_ValidRune r w)
  rw [hv] at CV
  have hcv := enc_run r
  rw [hN] at hcv
  have hnot : ∀ (x : Bool) (w : World), (Op.unary .not (.bool x)).run Tryz.prog w = .ok (.bool (!x)) w := fun _ _ => rfl
  have h0 : (0 : Int) ≤ r := by omega
  have h1 : ¬ r < 128 := by omega
  have e1 : (r == 65533) = false := by simpa using he
  have hne : (((⟨#[91, 93, 92, 45, 94]⟩ : ByteArray)[3]'(by decide)).toNat : Int) ≠ (((⟨#[a, b, c, d]⟩ : ByteArray)[3]'(Nat.le_refl 4)).toNat : Int) := by
    have e1 : ((⟨#[91, 93, 92, 45, 94]⟩ : ByteArray)[3]'(by decide)).toNat < 128 := by decide
    have e2 : 128 ≤ ((⟨#[a, b, c, d]⟩ : ByteArray)[3]'(Nat.le_refl 4)).toNat := hb
    omega
  have hne2 : ((((⟨#[91, 93, 92, 45, 94]⟩ : ByteArray)[3]'(by decide)).toNat : Int) != (((⟨#[a, b, c, d]⟩ : ByteArray)[3]'(Nat.le_refl 4)).toNat : Int)) = true := by
    rw [bne_iff_ne]
    exact hne
  go_enter Tryz.func144, Tryz.ntmps144
  go_wp2_with (first | (go_at_call 146; refine CV.out.mono ?_; rintro e w9 ⟨rfl, h9⟩; rw [h9]; clear h9 w9))
  go_step3
  go_wp2
  go_loopw [9] (fun v9 wr => v9 = .int .i64 3 ∧ wr = w) (fun _ _ => 0)
  case atStart => exact ⟨rfl, rfl⟩
  case round =>
    obtain ⟨rfl, rfl⟩ := hrel
    go_wp2
    go_step3
    go_wp2
    go_region
    go_wp2
    go_region_with (go_at_call 145; refine (Tryz.strings_IndexByte _ _ _).mono ?_; rintro e w9 ⟨he9, h9⟩; have e9 : e = .returned (.int .i64 (-1)) := he9.trans (by rw [hi_none _ _ (by decide) (by rw [u8_back]; exact hb)]); rw [e9, h9]; clear he9 e9 h9)
    all_goals (go_wp2; rw [Exit.noGoto_ret]; go_ret; exact ⟨rfl, (((Below.refl _ _).drew).drew)⟩)
set_option maxHeartbeats 4000000 in
theorem r_idxI (c : Int) (w : World) (h : 128 ≤ c) (hc : chB c = true) : Calls Tryz.prog 144 #[.string ⟨#[91, 93, 92, 45, 94]⟩, .int .i32 c] w (NoAns w) := by
  have h2 := chB_cases hc
  by_cases he : c = 65533
  · subst he
    exact r_errI w
  · have hv : Lib.validRune c = true := by unfold Lib.validRune; simp; omega
    rcases enc_hi c h hv with ⟨a, b, hN, hb⟩ | ⟨a, b, d, hN, hb⟩ | ⟨a, b, d, f, hN, hb⟩
    · exact r_long2I c w h (by omega) hv he a b hN hb
    · exact r_long3I c w h (by omega) hv he a b d hN hb
    · exact r_long4I c w h (by omega) hv he a b d f hN hb
theorem isS_hiI {c : Int} (h : 128 ≤ c) : isS sgI c = false := by
  unfold isS sgI
  simp
  omega
theorem idx_isI (c : Int) (h0 : 0 ≤ c) (h1 : c < 128) : decide (0 ≤ Lib.indexByte sgI c.toNat.toUInt8) = isS sgI c := by
  obtain ⟨k, rfl⟩ : ∃ k : Nat, c = k := ⟨c.toNat, by omega⟩
  have hk : k < 128 := by omega
  have hall : ∀ k : Fin 128, decide (0 ≤ Lib.indexByte sgI ((k.val : Int)).toNat.toUInt8) = isS sgI (k.val : Int) := by decide +kernel
  exact hall ⟨k, hk⟩
set_option maxHeartbeats 4000000 in
theorem i_signI (c : Int) (w : World) (hc : chB c = true) : Calls Tryz.prog 135 #[.int .i64 c, .string ⟨#[91, 93, 92, 45, 94]⟩] w fun e w' => e = .returned (.bool (isS sgI c)) ∧ Below w.heap.size w w' := by
  have h2 := chB_cases hc
  have hw : IntKind.i32.wrap c = c := by rw [IntKind.wrap_i32]; omega
  by_cases h : c < 128
  · have C := hide (Tryz.strings_ContainsRune_ascii ⟨#[91, 93, 92, 45, 94]⟩ c w (by omega) h)
    rw [show (⟨#[91, 93, 92, 45, 94]⟩ : ByteArray).data.toList = sgI from rfl, idx_isI c (by omega) h] at C
    go_enter Tryz.func135, Tryz.ntmps135
    go_wp2_with (go_at_call 142; refine C.out.mono ?_; rintro e w9 ⟨rfl, h9⟩; rw [h9]; clear h9 w9)
    go_ret
    exact ⟨rfl, Below.refl _ _⟩
  · have HS := hide (isS_hiI (c := c) (by omega))
    have C := hide (r_idxI c w (by omega) hc)
    have CR : Hid (Calls Tryz.prog 142 #[.string ⟨#[91, 93, 92, 45, 94]⟩, .int .i32 c] w fun e w' => e = .returned (.bool false) ∧ Below w.heap.size w w') := hide (by
      go_enter Tryz.func142, Tryz.ntmps142
      go_wp2_with (go_at_call 144; refine C.out.mono ?_; rintro e w2 ⟨rfl, hb2⟩; have HB := hide hb2; clear hb2)
      go_ret
      exact ⟨rfl, HB.out⟩)
    go_enter Tryz.func135, Tryz.ntmps135
    go_wp2_with (go_at_call 142; refine CR.out.mono ?_; rintro e w2 ⟨rfl, hb2⟩; have HB := hide hb2; clear hb2)
    go_ret
    exact ⟨ret_bool HS.out.symm, HB.out⟩
end Go.Proofs.YtepommmmmfaihaaGreatDoor
