/-
  Texts put together: WhV, WhX, WhY, FoI.
-/
import Derived.Test.YtdepgkpfibmbgaaGreatDoorF29
import Derived.Test.YtdepgkpfibmbgaaGreatDoorF2
import Derived.Lib.OthersKept
import Derived.Deep.DeepCutAuto
import Derived.WalkMore
import Derived.Test.YtdepgkpfibmbgaaGreatDoorF6
import Derived.Test.YtdepgkpfibmbgaaGreatDoorF23
import Derived.Deep.RegionHeld3
/-
  strings.ContainsRune at the four blanks, for every rune.
-/
namespace Go.Proofs.YtdepgkpfibmbgaaGreatDoor
open Go.RowKit
set_option linter.unusedVariables false
set_option linter.unusedSimpArgs false
theorem hi_none : ∀ (l : List UInt8) (c : UInt8), (∀ b ∈ l, b.toNat < 128) → 128 ≤ c.toNat → Lib.indexByte l c = -1
  | [], _, _, _ => rfl
  | b :: l, c, h, hc => by
    have h0 := h b (List.mem_cons_self ..)
    have hne : (b == c) = false := beq_eq_false_iff_ne.2 (fun e => by rw [e] at h0; omega)
    have ih := hi_none l c (fun d hd => h d (List.mem_cons_of_mem _ hd)) hc
    unfold Lib.indexByte
    rw [hne, ih]
    rfl
theorem enc_hi (r : Int) (h : 128 ≤ r) (hv : Lib.validRune r = true) : (∃ a b : UInt8, Utf8.encode r = ⟨#[a, b]⟩ ∧ 128 ≤ b.toNat) ∨ (∃ a b c : UInt8, Utf8.encode r = ⟨#[a, b, c]⟩ ∧ 128 ≤ c.toNat) ∨ (∃ a b c d : UInt8, Utf8.encode r = ⟨#[a, b, c, d]⟩ ∧ 128 ≤ d.toNat) := by
  have hv2 : Utf8.valid r = true := by
    unfold Lib.validRune at hv
    unfold Utf8.valid
    simp at hv ⊢
    omega
  have hb : ∀ n : Nat, 128 ≤ (UInt8.ofNat (0x80 + n % 64)).toNat := fun n => by
    rw [UInt8.toNat_ofNat']
    omega
  unfold Utf8.encode
  simp only [hv2, if_true]
  rw [if_neg (by omega)]
  by_cases h1 : r.toNat < 0x800
  · rw [if_pos h1]
    exact .inl ⟨_, _, rfl, hb _⟩
  · rw [if_neg h1]
    by_cases h2 : r.toNat < 0x10000
    · rw [if_pos h2]
      exact .inr (.inl ⟨_, _, _, rfl, hb _⟩)
    · rw [if_neg h2]
      exact .inr (.inr ⟨_, _, _, _, rfl, hb _⟩)
theorem enc_run (r : Int) (w : World) : (convert 21 9 (.int .i32 r)).run Tryz.prog w = .ok (.string (Utf8.encode r)) w := by kernel_rfl
/-- None of the four. -/
def NoAns (w : World) (e : Ending) (w' : World) : Prop := e = .returned (.int .i64 (-1)) ∧ Below w.heap.size w w'
set_option maxRecDepth 100000 in
set_option maxHeartbeats 8000000 in
theorem r_bad (r : Int) (w : World) (h : 128 ≤ r) (h2 : r ≤ 1114111) (hv : Lib.validRune r = false) (he : r ≠ 65533) : Calls Tryz.prog 161 #[.string ⟨#[32, 9, 10, 13]⟩, .int .i32 r] w (NoAns w) := by
  have CV := hide (Tryz.utf8_ValidRune r w)
  rw [hv] at CV
  have hnot : ∀ (x : Bool) (w : World), (Op.unary .not (.bool x)).run Tryz.prog w = .ok (.bool (!x)) w := fun _ _ => rfl
  have h0 : (0 : Int) ≤ r := by omega
  have h1 : ¬ r < 128 := by omega
  have e1 : (r == 65533) = false := by simpa using he
  go_enter Tryz.func161, Tryz.ntmps161
  go_wp2_with (go_at_call 176; refine CV.out.mono ?_; rintro e w9 ⟨rfl, h9⟩; rw [h9]; clear h9 w9)
  go_ret
  exact ⟨rfl, Below.refl _ _⟩
set_option maxRecDepth 100000 in
set_option maxHeartbeats 8000000 in
theorem r_err (w : World) : Calls Tryz.prog 161 #[.string ⟨#[32, 9, 10, 13]⟩, .int .i32 65533] w (NoAns w) := by
  go_enter Tryz.func161, Tryz.ntmps161
  go_wp2_with fail
  go_loopw [] (fun wr => ∃ pos : Nat, pos ≤ 4 ∧ Hid (wr.heap[w.heap.size]? = some (.stringIter ⟨#[32, 9, 10, 13]⟩ pos)) ∧ Hid (Below w.heap.size w wr)) (fun wr => match wr.heap[w.heap.size]? with | some (.stringIter _ p) => 4 - p | _ => 0)
  case atStart => exact ⟨0, by omega, hide (World.iter_heap w _ 0), hide ((Below.refl _ _).alloc (Nat.le_refl _) _)⟩
  case round =>
    obtain ⟨pos, hp, HI, HB⟩ := hrel
    by_cases hlt : pos < 4
    · have hlt' : pos < (⟨#[32, 9, 10, 13]⟩ : ByteArray).size := hlt
      have ha : ((⟨#[32, 9, 10, 13]⟩ : ByteArray)[pos]'hlt').toNat < 128 := by
        rcases (show pos = 0 ∨ pos = 1 ∨ pos = 2 ∨ pos = 3 by omega) with e | e | e | e <;> subst e <;> (first | (show _ < _; decide) | exact of_decide_eq_true rfl)
      have hnx := fun ty => Lib.run_next_ascii_at (P := Tryz.prog) wr w.heap.size ⟨#[32, 9, 10, 13]⟩ pos ty HI.out hlt' ha
      obtain ⟨x, hx⟩ : ∃ x : Nat, ((⟨#[32, 9, 10, 13]⟩ : ByteArray)[pos]'hlt').toNat = x := ⟨_, rfl⟩
      rw [hx] at hnx ha
      have e1 : ((x : Int) == 65533) = false := by
        have : ¬ (x : Int) = 65533 := by omega
        simpa using this
      have HI2 := hide (Lib.iterAt_heap wr w.heap.size _ pos (pos + 1) HI.out)
      have HB2 := hide (Lib.below_iterAt HB.out (k := w.heap.size) (Nat.le_refl _) ⟨#[32, 9, 10, 13]⟩ (pos + 1))
      clear hx
      go_wp2
      go_roundw
      case rel => exact ⟨pos + 1, by omega, HI2, HB2⟩
      case measure => rw [HI2.out, HI.out]; simp; omega
    · have hnx := fun ty => Lib.run_next_end_at (P := Tryz.prog) wr w.heap.size ⟨#[32, 9, 10, 13]⟩ pos ty HI.out (fun h9 => hlt h9)
      go_wp2
      go_ret
      exact ⟨rfl, HB.out⟩
end Go.Proofs.YtdepgkpfibmbgaaGreatDoor

/-
  strings.IndexRune at the four blanks, for a rune of more than one byte.
-/
namespace Go.Proofs.YtdepgkpfibmbgaaGreatDoor
open Go.RowKit
set_option linter.unusedVariables false
set_option linter.unusedSimpArgs false
theorem u8_back (x : UInt8) : (x.toNat : Int).toNat.toUInt8 = x := by simp
set_option maxRecDepth 100000 in
set_option maxHeartbeats 8000000 in
theorem r_long2 (r : Int) (w : World) (h : 128 ≤ r) (h2 : r ≤ 1114111) (hv : Lib.validRune r = true) (he : r ≠ 65533) (a b : UInt8) (hN : Utf8.encode r = ⟨#[a, b]⟩) (hb : 128 ≤ b.toNat) : Calls Tryz.prog 161 #[.string ⟨#[32, 9, 10, 13]⟩, .int .i32 r] w (NoAns w) := by
  have CV := hide (Tryz.utf8_ValidRune r w)
  rw [hv] at CV
  have hcv := enc_run r
  rw [hN] at hcv
  have hnot : ∀ (x : Bool) (w : World), (Op.unary .not (.bool x)).run Tryz.prog w = .ok (.bool (!x)) w := fun _ _ => rfl
  have h0 : (0 : Int) ≤ r := by omega
  have h1 : ¬ r < 128 := by omega
  have e1 : (r == 65533) = false := by simpa using he
  have hne : (((⟨#[32, 9, 10, 13]⟩ : ByteArray)[1]'(by decide)).toNat : Int) ≠ (((⟨#[a, b]⟩ : ByteArray)[1]'(Nat.le_refl 2)).toNat : Int) := by
    have e1 : ((⟨#[32, 9, 10, 13]⟩ : ByteArray)[1]'(by decide)).toNat < 128 := by decide
    have e2 : 128 ≤ ((⟨#[a, b]⟩ : ByteArray)[1]'(Nat.le_refl 2)).toNat := hb
    omega
  have hne2 : ((((⟨#[32, 9, 10, 13]⟩ : ByteArray)[1]'(by decide)).toNat : Int) != (((⟨#[a, b]⟩ : ByteArray)[1]'(Nat.le_refl 2)).toNat : Int)) = true := by
    rw [bne_iff_ne]
    exact hne
  go_enter Tryz.func161, Tryz.ntmps161
  go_wp2_with (first | (go_at_call 176; refine CV.out.mono ?_; rintro e w9 ⟨rfl, h9⟩; rw [h9]; clear h9 w9))
  go_step3
  go_wp2
  go_loopw [9] (fun v9 wr => v9 = .int .i64 1 ∧ wr = w) (fun _ _ => 0)
  case atStart => exact ⟨rfl, rfl⟩
  case round =>
    obtain ⟨rfl, rfl⟩ := hrel
    go_wp2
    go_step3
    go_wp2
    go_region
    go_wp2
    go_region_with (go_at_call 175; refine (Tryz.strings_IndexByte _ _ _).mono ?_; rintro e w9 ⟨he9, h9⟩; have e9 : e = .returned (.int .i64 (-1)) := he9.trans (by rw [hi_none _ _ (by decide) (by rw [u8_back]; exact hb)]); rw [e9, h9]; clear he9 e9 h9)
    all_goals (go_wp2; rw [Exit.noGoto_ret]; go_ret; exact ⟨rfl, (((Below.refl _ _).drew).drew)⟩)
set_option maxRecDepth 100000 in
set_option maxHeartbeats 8000000 in
theorem r_long3 (r : Int) (w : World) (h : 128 ≤ r) (h2 : r ≤ 1114111) (hv : Lib.validRune r = true) (he : r ≠ 65533) (a b c : UInt8) (hN : Utf8.encode r = ⟨#[a, b, c]⟩) (hb : 128 ≤ c.toNat) : Calls Tryz.prog 161 #[.string ⟨#[32, 9, 10, 13]⟩, .int .i32 r] w (NoAns w) := by
  have CV := hide (Tryz.utf8_ValidRune r w)
  rw [hv] at CV
  have hcv := enc_run r
  rw [hN] at hcv
  have hnot : ∀ (x : Bool) (w : World), (Op.unary .not (.bool x)).run Tryz.prog w = .ok (.bool (!x)) w := fun _ _ => rfl
  have h0 : (0 : Int) ≤ r := by omega
  have h1 : ¬ r < 128 := by omega
  have e1 : (r == 65533) = false := by simpa using he
  have hne : (((⟨#[32, 9, 10, 13]⟩ : ByteArray)[2]'(by decide)).toNat : Int) ≠ (((⟨#[a, b, c]⟩ : ByteArray)[2]'(Nat.le_refl 3)).toNat : Int) := by
    have e1 : ((⟨#[32, 9, 10, 13]⟩ : ByteArray)[2]'(by decide)).toNat < 128 := by decide
    have e2 : 128 ≤ ((⟨#[a, b, c]⟩ : ByteArray)[2]'(Nat.le_refl 3)).toNat := hb
    omega
  have hne2 : ((((⟨#[32, 9, 10, 13]⟩ : ByteArray)[2]'(by decide)).toNat : Int) != (((⟨#[a, b, c]⟩ : ByteArray)[2]'(Nat.le_refl 3)).toNat : Int)) = true := by
    rw [bne_iff_ne]
    exact hne
  go_enter Tryz.func161, Tryz.ntmps161
  go_wp2_with (first | (go_at_call 176; refine CV.out.mono ?_; rintro e w9 ⟨rfl, h9⟩; rw [h9]; clear h9 w9))
  go_step3
  go_wp2
  go_loopw [9] (fun v9 wr => v9 = .int .i64 2 ∧ wr = w) (fun _ _ => 0)
  case atStart => exact ⟨rfl, rfl⟩
  case round =>
    obtain ⟨rfl, rfl⟩ := hrel
    go_wp2
    go_step3
    go_wp2
    go_region
    go_wp2
    go_region_with (go_at_call 175; refine (Tryz.strings_IndexByte _ _ _).mono ?_; rintro e w9 ⟨he9, h9⟩; have e9 : e = .returned (.int .i64 (-1)) := he9.trans (by rw [hi_none _ _ (by decide) (by rw [u8_back]; exact hb)]); rw [e9, h9]; clear he9 e9 h9)
    all_goals (go_wp2; rw [Exit.noGoto_ret]; go_ret; exact ⟨rfl, (((Below.refl _ _).drew).drew)⟩)
set_option maxRecDepth 100000 in
set_option maxHeartbeats 8000000 in
theorem r_long4 (r : Int) (w : World) (h : 128 ≤ r) (h2 : r ≤ 1114111) (hv : Lib.validRune r = true) (he : r ≠ 65533) (a b c d : UInt8) (hN : Utf8.encode r = ⟨#[a, b, c, d]⟩) (hb : 128 ≤ d.toNat) : Calls Tryz.prog 161 #[.string ⟨#[32, 9, 10, 13]⟩, .int .i32 r] w (NoAns w) := by
  have CV := hide (Tryz.utf8_ValidRune r w)
  rw [hv] at CV
  have hcv := enc_run r
  rw [hN] at hcv
  have hnot : ∀ (x : Bool) (w : World), (Op.unary .not (.bool x)).run Tryz.prog w = .ok (.bool (!x)) w := fun _ _ => rfl
  have h0 : (0 : Int) ≤ r := by omega
  have h1 : ¬ r < 128 := by omega
  have e1 : (r == 65533) = false := by simpa using he
  have hne : (((⟨#[32, 9, 10, 13]⟩ : ByteArray)[3]'(by decide)).toNat : Int) ≠ (((⟨#[a, b, c, d]⟩ : ByteArray)[3]'(Nat.le_refl 4)).toNat : Int) := by
    have e1 : ((⟨#[32, 9, 10, 13]⟩ : ByteArray)[3]'(by decide)).toNat < 128 := by decide
    have e2 : 128 ≤ ((⟨#[a, b, c, d]⟩ : ByteArray)[3]'(Nat.le_refl 4)).toNat := hb
    omega
  have hne2 : ((((⟨#[32, 9, 10, 13]⟩ : ByteArray)[3]'(by decide)).toNat : Int) != (((⟨#[a, b, c, d]⟩ : ByteArray)[3]'(Nat.le_refl 4)).toNat : Int)) = true := by
    rw [bne_iff_ne]
    exact hne
  go_enter Tryz.func161, Tryz.ntmps161
  go_wp2_with (first | (go_at_call 176; refine CV.out.mono ?_; rintro e w9 ⟨rfl, h9⟩; rw [h9]; clear h9 w9))
  go_step3
  go_wp2
  go_loopw [9] (fun v9 wr => v9 = .int .i64 3 ∧ wr = w) (fun _ _ => 0)
  case atStart => exact ⟨rfl, rfl⟩
  case round =>
    obtain ⟨rfl, rfl⟩ := hrel
    go_wp2
    go_step3
    go_wp2
    go_region
    go_wp2
    go_region_with (go_at_call 175; refine (Tryz.strings_IndexByte _ _ _).mono ?_; rintro e w9 ⟨he9, h9⟩; have e9 : e = .returned (.int .i64 (-1)) := he9.trans (by rw [hi_none _ _ (by decide) (by rw [u8_back]; exact hb)]); rw [e9, h9]; clear he9 e9 h9)
    all_goals (go_wp2; rw [Exit.noGoto_ret]; go_ret; exact ⟨rfl, (((Below.refl _ _).drew).drew)⟩)
end Go.Proofs.YtdepgkpfibmbgaaGreatDoor

/-
  impl.White, whole, and the law's walk.
-/
namespace Go.Proofs.YtdepgkpfibmbgaaGreatDoor
open Go.RowKit
set_option linter.unusedVariables false
set_option linter.unusedSimpArgs false
theorem four_byte (x : Nat) (h : x < 128) : decide (0 ≤ Lib.indexByte [32, 9, 10, 13] (x : Int).toNat.toUInt8) = blR x := by
  have : ∀ y : Fin 128, decide (0 ≤ Lib.indexByte [32, 9, 10, 13] ((y.val : Nat) : Int).toNat.toUInt8) = blR y.val := by decide
  exact this ⟨x, h⟩
theorem blR_hi (x : Nat) (h : 128 ≤ x) : blR x = false := by
  unfold blR
  have : ∀ m : Nat, m < 128 → (x == m) = false := fun m hm => by simp; omega
  rw [this 32 (by omega), this 9 (by omega), this 10 (by omega), this 13 (by omega)]
  rfl
theorem r_any (x : Nat) (w : World) (h : 128 ≤ x) (h2 : x ≤ 1114111) : Calls Tryz.prog 161 #[.string ⟨#[32, 9, 10, 13]⟩, .int .i32 x] w (NoAns w) := by
  by_cases he : x = 65533
  · subst he
    exact r_err w
  · cases hv : Lib.validRune (x : Int)
    · exact r_bad x w (by omega) (by omega) hv (by omega)
    · rcases enc_hi x (by omega) hv with ⟨a, b, e, hb⟩ | ⟨a, b, c, e, hb⟩ | ⟨a, b, c, d, e, hb⟩
      · exact r_long2 x w (by omega) (by omega) hv (by omega) a b e hb
      · exact r_long3 x w (by omega) (by omega) hv (by omega) a b c e hb
      · exact r_long4 x w (by omega) (by omega) hv (by omega) a b c d e hb
theorem c_rune (x : Nat) (w : World) (h2 : x ≤ 1114111) : Calls Tryz.prog 136 #[.string ⟨#[32, 9, 10, 13]⟩, .int .i32 x] w fun e w' => e = .returned (.bool (blR x)) ∧ Below w.heap.size w w' := by
  by_cases h : x < 128
  · refine (Tryz.strings_ContainsRune_ascii ⟨#[32, 9, 10, 13]⟩ (x : Int) w (by omega) (by omega)).mono ?_
    rintro e w' ⟨rfl, rfl⟩
    refine ⟨?_, Below.refl _ _⟩
    rw [← four_byte x h]
  · have CR := hide (r_any x w (by omega) h2)
    rw [blR_hi x (by omega)]
    go_enter Tryz.func136, Tryz.ntmps136
    go_wp2_with (go_at_call 161; refine CR.out.mono ?_; rintro e w9 ⟨rfl, hb⟩; have HB := hide hb; clear hb)
    go_ret
    exact ⟨rfl, HB.out⟩
theorem i_pred (x : Nat) (w : World) (h2 : x ≤ 1114111) : Calls Tryz.prog 135 #[.int .i32 x] w fun e w' => e = .returned (.bool (blR x)) ∧ Below w.heap.size w w' := by
  have CR := hide (c_rune x w h2)
  go_enter Tryz.func135, Tryz.ntmps135
  go_wp2_with (go_at_call 136; refine CR.out.mono ?_; rintro e w9 ⟨rfl, hb⟩; have HB := hide hb; clear hb)
  go_ret
  exact ⟨rfl, HB.out⟩
theorem i_pays (w : World) : PredGrows Tryz.prog 135 #[] blR w := fun W x hx hb => i_pred x W hx
/-- The words, as Go's FieldsFunc lays them. -/
def FwAns (s : ByteArray) (w : World) (e : Ending) (w' : World) : Prop := ∃ A, e = .returned (.slice (some ⟨A, 0, none⟩) (Lib.goFieldsP blR s).length (Lib.goFieldsP blR s).length) ∧ w'.ownsRow w.heap.size 9 1 (.slice (some ⟨A, 0, none⟩) (Lib.goFieldsP blR s).length (Lib.goFieldsP blR s).length) (Lib.goFieldsP blR s).length ((Lib.goFieldsP blR s).map Value.string) ∧ Below w.heap.size w w'
set_option maxHeartbeats 4000000 in
theorem i_words (s : ByteArray) (w : World) (hs : s.size ≤ 1048576) : Calls Tryz.prog 98 #[.string s] w (FwAns s w) := by
  have CF := hide (Tryz.strings_FieldsFunc_grows 135 #[] (fun args w => enters_of Tryz.func135 (by kernel_rfl) rfl args w) blR s w (by omega) (i_pays w))
  go_enter Tryz.func98, Tryz.ntmps98
  go_wp2_with (go_at_call 134; refine CF.out.mono ?_; rintro e w1 ⟨A, rfl, hA, ho, hb⟩; have HO := hide ho; have HB := hide hb; clear ho hb)
  go_ret
  exact ⟨A, rfl, HO.out, HB.out⟩
set_option maxRecDepth 100000 in
set_option maxHeartbeats 8000000 in
theorem i_white (s : ByteArray) (i : Int) (w : World) (hs : s.size ≤ 1048576) :
    Calls Tryz.prog 64 #[.string s, .int .i64 i] w fun e w' => e = .returned (.string (whB s i)) ∧ Below w.heap.size w w' := by
  by_cases h1 : i = 1
  · subst h1
    have HE : Hid (whB s 1 = ⟨(reB s.data.toList).toArray⟩) := hide rfl
    have CN := hide (n_repl w.heap.size (w.alloc (.cells sixV.toArray 9)) (heap_alloc_new w _))
    go_enter Tryz.func64, Tryz.ntmps64
    go_wp2_with (first | (go_at_call 95; refine CN.out.mono ?_; rintro e w1 ⟨R, g, cap, rfl, ⟨hR, hgR⟩, hrep, ho, hb⟩; have CR := hide (r_repl R g cap _ s w1 hs hgR hrep ho); have HB := hide hb; have hRl : w.heap.size ≤ R := (by have := hR; simp at this; omega); clear hrep ho hb) | (go_at_call 96; refine CR.out.mono ?_; rintro e w2 ⟨rfl, hb2⟩; have HB2 := hide hb2; clear hb2))
    go_ret
    refine ⟨by rw [HE.out]; rfl, ?_⟩
    have h3 : Below w.heap.size w (w.alloc (.cells sixV.toArray 9)) := (Below.refl _ _).alloc (Nat.le_refl _) _
    exact (h3.trans (HB.out.mono h3.size)).trans (HB2.out.mono hRl)
  · have e1 : (i == 1) = false := by simpa using h1
    by_cases h2 : i = 2
    · subst h2
      have CW := hide (i_words s w hs)
      have HE : Hid (whB s 2 = jnB s) := hide rfl
      have HFW := hide (fields_words s)
      have hbd := tot_wd s.data.toList []
      have HQ : Hid ((Lib.join (wdB [] s.data.toList) [32]).length ≤ 1048578 ∧ (wdB [] s.data.toList).length ≤ 1048578) := hide (by
        have h5 : s.data.toList.length = s.size := by simp
        rw [h5] at hbd
        simp at hbd
        have h6 := join_totW [32] rfl (wdB [] s.data.toList)
        have h7 : ∀ l : List (List UInt8), l.length ≤ totW l := fun l => by
          induction l with
          | nil => simp
          | cons t l ih => simp only [totW, List.length_cons]; omega
        have h8 := h7 (wdB [] s.data.toList)
        omega)
      have HLN : Hid ((Lib.goFieldsP blR s).length = (wdB [] s.data.toList).length) := hide (by
        have := congrArg List.length (fields_words s)
        rw [List.length_map] at this
        exact this)
      clear hbd
      have CJ : Hid (∀ (A : Nat) (w1 : World), w1.ownsRow w.heap.size 9 1 (.slice (some ⟨A, 0, none⟩) (Lib.goFieldsP blR s).length (Lib.goFieldsP blR s).length) (Lib.goFieldsP blR s).length ((Lib.goFieldsP blR s).map Value.string) → Calls Tryz.prog 97 #[.slice (some ⟨A, 0, none⟩) (Lib.goFieldsP blR s).length (Lib.goFieldsP blR s).length, .string ⟨#[32]⟩] w1 fun e w' => e = .returned (.string (jnB s)) ∧ Below w1.heap.size w1 w') := hide (fun A w1 ho => by
        refine (Tryz.strings_Join A 0 (Lib.goFieldsP blR s).length (Lib.goFieldsP blR s) ⟨#[32]⟩ w1 (fun j x hx => ?_) ?_ (by rw [HLN.out]; have := HQ.out.2; omega) (Nat.le_refl _) (by rw [HFW.out]; exact Nat.le_trans HQ.out.1 (by omega))).mono ?_
        · have hj := (List.getElem?_eq_some_iff.1 hx).1
          have h8 := ho.cellAt j (by simpa using hj)
          rw [Nat.zero_add, h8]
          rw [List.getElem?_map, hx]
          rfl
        · exact (ho.lt A rfl).2
        · rintro e w' ⟨rfl, hb⟩
          refine ⟨?_, hb⟩
          rw [HFW.out]
          rfl)
      go_enter Tryz.func64, Tryz.ntmps64
      go_wp2_with (first | (go_at_call 98; refine CW.out.mono ?_; rintro e w1 ⟨A, rfl, ho, hb⟩; have CJ1 := hide (CJ.out A w1 ho); have HB := hide hb; clear ho hb) | (go_at_call 97; refine CJ1.out.mono ?_; rintro e w2 ⟨rfl, hb2⟩; have HB2 := hide (HB.out.trans (hb2.mono HB.out.size)); clear hb2))
      go_ret
      exact ⟨by rw [HE.out]; rfl, HB2.out⟩
    · have e2 : (i == 2) = false := by simpa using h2
      have HE : Hid (whB s i = s) := hide (by unfold whB; rw [if_neg h1, if_neg h2])
      go_enter Tryz.func64, Tryz.ntmps64
      go_wp2
      go_ret
      exact ⟨by rw [HE.out]; rfl, Below.refl _ _⟩
end Go.Proofs.YtdepgkpfibmbgaaGreatDoor

/-
  Contract of the program: what a field says of an element.
-/
namespace Go.Proofs.YtdepgkpfibmbgaaGreatDoor
open Go.RowKit Go.Joins
set_option linter.unusedVariables false
set_option linter.unusedSimpArgs false
/-- What an attribute of a name is told as. -/
def AvAns (n : Nat) (N V : Nat → ByteArray) (A v : ByteArray) (B : Bool) : Prop := (B = true ∧ ∃ i, i < n ∧ ((N i).toList == A.toList) = true ∧ (∀ j, j < i → ((N j).toList == A.toList) = false) ∧ v = V i) ∨ (B = false ∧ v = ⟨#[]⟩ ∧ ∀ j, j < n → ((N j).toList == A.toList) = false)
set_option maxRecDepth 100000 in
set_option maxHeartbeats 4000000 in
theorem i_attrQ (ad : Option Addr) (n cp : Nat) (N V : Nat → ByteArray) (A : ByteArray) (w : World) (hn : n ≤ 10) (hr : AtAt w ad n N V w.heap.size) :
    Calls Tryz.prog 94 #[.slice ad n cp, .string A] w fun e w' => (∃ v B, e = .returned (.tuple #[.string v, .bool B]) ∧ AvAns n N V A v B) ∧ Below w.heap.size w w' := by
  have HR := hide hr
  clear hr
  go_enter Tryz.func94, Tryz.ntmps94
  go_wp2
  go_loopw [10] (fun i wr => ∃ k : Nat, k ≤ n ∧ i = .int .i64 k ∧ Hid (∀ j, j < k → ((N j).toList == A.toList) = false) ∧ Hid (Below w.heap.size w wr)) (fun i _ => n - (intOf i).toNat)
  case atStart => exact ⟨0, Nat.zero_le _, rfl, fun j h => by omega, Below.refl _ _⟩
  case round =>
    obtain ⟨k, hk, rfl, HA, HB⟩ := hrel
    by_cases hlt : k < n
    · have hki : (k : Int) < n := by omega
      obtain ⟨b, off, rfl, hb, hrow⟩ := HR.out (by omega)
      obtain ⟨x0, x1⟩ := hrow k hlt
      have y0 := (HB.out.cell (p := ⟨b, off + k * 2, none⟩) hb).trans x0
      have y1 := (HB.out.cell (p := ⟨b, off + k * 2 + 1, none⟩) hb).trans x1
      obtain ⟨N9, hN9⟩ : ∃ N9, N k = N9 := ⟨_, rfl⟩
      obtain ⟨V9, hV9⟩ : ∃ V9, V k = V9 := ⟨_, rfl⟩
      rw [hN9] at y0
      rw [hV9] at y1
      have HN9 := hide hN9
      have HV9 := hide hV9
      have hwb : w.heap.size ≤ wr.heap.size := HB.out.size
      clear x0 x1 hrow hN9 hV9
      cases hq : (N9.toList == A.toList)
      · have HA2 : Hid (∀ j, j < k + 1 → ((N j).toList == A.toList) = false) := hide (fun j hj => by
          by_cases e : j = k
          · subst e; rw [HN9.out]; exact hq
          · exact HA.out j (by omega))
        go_wp2
        go_roundw
        case rel => exact ⟨k + 1, by omega, by go_num, HA2, hide (HB.out.alloc hwb _)⟩
        case measure => simp [intOf]; omega
      · have HQ := hide hq
        go_wp2
        go_ret2
        exact ⟨⟨_, _, rfl, .inl ⟨rfl, k, hlt, by rw [HN9.out]; first | exact HQ.out | simpa using HQ.out, HA.out, HV9.out.symm⟩⟩, HB.out.alloc hwb _⟩
    · have hkn : k = n := by omega
      subst hkn
      go_wp2
      go_ret2
      exact ⟨⟨_, _, rfl, .inr ⟨rfl, rfl, HA.out⟩⟩, HB.out⟩
theorem av_mt {D : Dc} {p : Nat} {A v : ByteArray} {B : Bool} (h : AvAns (D.AC p) (D.AN p) (D.AV p) A v B) (h0 : vlA D A p = mtA D p A (D.AC p)) (h1 : ∀ i, i < D.AC p → ((D.AN p i).toList == A.toList) = true → (∀ j, j < i → ((D.AN p j).toList == A.toList) = false) → mtA D p A (D.AC p) = [D.AV p i]) (h2 : (∀ j, j < D.AC p → ((D.AN p j).toList == A.toList) = false) → mtA D p A (D.AC p) = []) : vlA D A p = if B = true then [v] else [] := by
  rcases h with ⟨rfl, i, hi, he, hn, rfl⟩ | ⟨rfl, rfl, hn⟩
  · rw [h0, h1 i hi he hn]; rfl
  · rw [h0, h2 hn]; rfl
theorem te_st {b : Nat} {w w1 : World} (h : Below b w w1) : Below b w w1.drew := h.trans ⟨rfl, rfl, rfl, Nat.le_refl _, fun _ _ => rfl⟩
/-- A field in a block of its own. -/
def FdB (w : World) (G : Nat) (ad : Option Addr) (m c : Nat) (A : ByteArray) : Prop := CellsAt w G #[.bool false, .slice ad m c, .string A]
set_option maxRecDepth 100000 in
set_option maxHeartbeats 4000000 in
theorem i_valueOf (D : Dc) (n b off cap : Nat) (p : Int) (ad : Option Addr) (m c : Nat) (A : ByteArray) (w : World) (hD : D.n = n) (hdk : docokB D = true) (hp : 0 ≤ p ∧ p < n) (hbs : b < w.heap.size) (hr : DcRow w b off D w.heap.size) :
    Calls Tryz.prog 63 #[.agg #[.bool false, .slice ad m c, .string A], .slice (some ⟨b, off, none⟩) n cap, .int .i64 p] w fun e w' => (∃ v B, e = .returned (.tuple #[.string v, .bool B]) ∧ vlA D A p.toNat = if B = true then [v] else []) ∧ Below w.heap.size w w' := by
  obtain ⟨hp0, hp1⟩ := hp
  have HD := hide hD
  have hn : n ≤ 200 := by rw [← hD]; exact (docok_facts hdk).1.2
  have hpn : p.toNat < n := by omega
  have hpc : (p.toNat : Int) = p := by omega
  have st := fun o : Obj => (Below.refl w.heap.size w).alloc (Nat.le_refl _) o
  cases hae : A.toList.isEmpty
  · have hane : A.toList ≠ [] := by simpa using hae
    obtain ⟨ad4, cp4, hc4, hat4, -⟩ := hr p.toNat (by rw [hD]; exact hpn)
    have HVA : Hid (vlA D A p.toNat = mtA D p.toNat A (D.AC p.toNat)) := hide (by unfold vlA; rw [if_neg (by rw [hae]; decide)])
    have HM1 : Hid (∀ i, i < D.AC p.toNat → ((D.AN p.toNat i).toList == A.toList) = true → (∀ j, j < i → ((D.AN p.toNat j).toList == A.toList) = false) → mtA D p.toNat A (D.AC p.toNat) = [D.AV p.toNat i]) := hide (fun i h1 h2 h3 => mt_one hdk (by omega) h1 h2 h3)
    have HM0 : Hid ((∀ j, j < D.AC p.toNat → ((D.AN p.toNat j).toList == A.toList) = false) → mtA D p.toNat A (D.AC p.toNat) = []) := hide (fun h => mt_none _ h)
    have hac10 := (att_facts hdk (p := p.toNat) (by omega)).1
    obtain ⟨-, -, -, e3⟩ := hc4
    have CA : Hid (∀ w4, Below w.heap.size w w4 → Calls Tryz.prog 94 #[.slice ad4 (D.AC p.toNat) cp4, .string A] w4 fun e w' => (∃ v B, e = .returned (.tuple #[.string v, .bool B]) ∧ AvAns (D.AC p.toNat) (D.AN p.toNat) (D.AV p.toNat) A v B) ∧ Below w4.heap.size w4 w') := hide (fun w4 h4 => i_attrQ ad4 (D.AC p.toNat) cp4 _ _ A w4 hac10 (atAt_up (atAt_go hat4 h4) h4.size))
    have hbl : b < w.heap.size := hbs
    have HE3 : Hid (∀ w4, Below w.heap.size w w4 → w4.cell? ⟨b, off + p.toNat * 4 + 3, none⟩ = some (.slice ad4 (D.AC p.toNat) cp4)) := hide (fun w4 h => (h.cell (p := ⟨b, off + p.toNat * 4 + 3, none⟩) hbs).trans e3)
    clear hr hdk hat4 hD hpc
    go_enter Tryz.func63, Tryz.ntmps63
    go_wp2
    go_region_with (go_at_call 94; refine (CA.out _ (by first | exact te_st (st _) | exact (st _))).mono ?_; rintro e w5 ⟨⟨v, B, rfl, hv⟩, hb5⟩; have HV := hide hv; have HB5 := hide hb5; clear hv hb5)
    all_goals
      go_wp2
      all_goals
        go_ret2
        exact ⟨⟨v, B, rfl, av_mt HV.out HVA.out HM1.out HM0.out⟩, (te_st (st _)).trans (HB5.out.mono (te_st (st _)).size)⟩
  · have hane : A.toList = [] := by simpa using hae
    have HVA : Hid (vlA D A p.toNat = [txF D p.toNat n]) := hide (by unfold vlA; rw [if_pos hae, hD])
    have CT : Hid (∀ w4, Below w.heap.size w w4 → Calls Tryz.prog 93 #[.slice (some ⟨b, off, none⟩) n cap, .int .i64 p] w4 fun e w' => e = .returned (.string (txF D p.toNat n)) ∧ Below w4.heap.size w4 w') := hide (fun w4 h4 => by
      have h9 := i_textBelow D n b off cap w4 p.toNat hD hn hpn (Nat.lt_of_lt_of_le hbs h4.size) (dcRow_up (dcRow_go hr hbs h4) h4.size) (by rw [← hD]; exact docok_good hdk) (by rw [← hD]; exact (docok_facts hdk).2.2)
      rw [hpc] at h9 ⊢
      exact h9)
    obtain ⟨T, hT⟩ : ∃ T, txF D p.toNat n = T := ⟨_, rfl⟩
    rw [hT] at HVA CT
    clear hr hdk hD hpc hT
    go_enter Tryz.func63, Tryz.ntmps63
    go_wp2_with (go_at_call 93; refine (CT.out _ (st _)).mono ?_; rintro e w5 ⟨rfl, hb5⟩; have HB5 := hide ((st _).trans (hb5.mono (st _).size)); clear hb5)
    go_ret2
    exact ⟨⟨_, true, rfl, HVA.out⟩, HB5.out⟩
end Go.Proofs.YtdepgkpfibmbgaaGreatDoor
