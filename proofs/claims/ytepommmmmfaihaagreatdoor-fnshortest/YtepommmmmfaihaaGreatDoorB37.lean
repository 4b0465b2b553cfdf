/-
  Texts put together: TeRE, RrB.
-/
import Derived.Test.YtepommmmmfaihaaGreatDoorB36
import Derived.Test.YtepommmmmfaihaaGreatDoorB32
import Derived.Test.YtepommmmmfaihaaGreatDoorB33
/-
  strings.ContainsRune at the signs that may stand behind a backslash, for every character.
-/
namespace Go.Proofs.YtepommmmmfaihaaGreatDoor
open Go.RowKit
set_option linter.unusedVariables false
set_option linter.unusedSimpArgs false
set_option maxRecDepth 100000 in
set_option maxHeartbeats 8000000 in
theorem r_errE (w : World) : Calls Tryz.prog 144 #[.string ⟨#[46, 92, 63, 42, 43, 123, 125, 40, 41, 124, 91, 93, 45, 94]⟩, .int .i32 65533] w (NoAns w) := by
  go_enter Tryz.func144, Tryz.ntmps144
  go_wp2_with fail
  go_loopw [] (fun wr => ∃ pos : Nat, pos ≤ 14 ∧ Hid (wr.heap[w.heap.size]? = some (.stringIter ⟨#[46, 92, 63, 42, 43, 123, 125, 40, 41, 124, 91, 93, 45, 94]⟩ pos)) ∧ Hid (Below w.heap.size w wr)) (fun wr => match wr.heap[w.heap.size]? with | some (.stringIter _ p) => 14 - p | _ => 0)
  case atStart => exact ⟨0, by omega, hide (World.iter_heap w _ 0), hide ((Below.refl _ _).alloc (Nat.le_refl _) _)⟩
  case round =>
    obtain ⟨pos, hp, HI, HB⟩ := hrel
    by_cases hlt : pos < 14
    · have hlt' : pos < (⟨#[46, 92, 63, 42, 43, 123, 125, 40, 41, 124, 91, 93, 45, 94]⟩ : ByteArray).size := hlt
      have ha : ((⟨#[46, 92, 63, 42, 43, 123, 125, 40, 41, 124, 91, 93, 45, 94]⟩ : ByteArray)[pos]'hlt').toNat < 128 := by
        rcases (show pos = 0 ∨ pos = 1 ∨ pos = 2 ∨ pos = 3 ∨ pos = 4 ∨ pos = 5 ∨ pos = 6 ∨ pos = 7 ∨ pos = 8 ∨ pos = 9 ∨ pos = 10 ∨ pos = 11 ∨ pos = 12 ∨ pos = 13 by omega) with e | e | e | e | e | e | e | e | e | e | e | e | e | e <;> subst e <;> (first | (show _ < _; decide) | exact of_decide_eq_true rfl)
      have hnx := fun ty => Lib.run_next_ascii_at (P := Tryz.prog) wr w.heap.size ⟨#[46, 92, 63, 42, 43, 123, 125, 40, 41, 124, 91, 93, 45, 94]⟩ pos ty HI.out hlt' ha
      obtain ⟨x, hx⟩ : ∃ x : Nat, ((⟨#[46, 92, 63, 42, 43, 123, 125, 40, 41, 124, 91, 93, 45, 94]⟩ : ByteArray)[pos]'hlt').toNat = x := ⟨_, rfl⟩
      rw [hx] at hnx ha
      have e1 : ((x : Int) == 65533) = false := by
        have : ¬ (x : Int) = 65533 := by omega
        simpa using this
      have HI2 := hide (Lib.iterAt_heap wr w.heap.size _ pos (pos + 1) HI.out)
      have HB2 := hide (Lib.below_iterAt HB.out (k := w.heap.size) (Nat.le_refl _) ⟨#[46, 92, 63, 42, 43, 123, 125, 40, 41, 124, 91, 93, 45, 94]⟩ (pos + 1))
      clear hx
      go_wp2
      go_roundw
      case rel => exact ⟨pos + 1, by omega, HI2, HB2⟩
      case measure => rw [HI2.out, HI.out]; simp; omega
    · have hnx := fun ty => Lib.run_next_end_at (P := Tryz.prog) wr w.heap.size ⟨#[46, 92, 63, 42, 43, 123, 125, 40, 41, 124, 91, 93, 45, 94]⟩ pos ty HI.out (fun h9 => hlt h9)
      go_wp2
      go_ret
      exact ⟨rfl, HB.out⟩
set_option maxRecDepth 100000 in
set_option maxHeartbeats 8000000 in
theorem r_long2E (r : Int) (w : World) (h : 128 ≤ r) (h2 : r ≤ 1114111) (hv : Lib.validRune r = true) (he : r ≠ 65533) (a b : UInt8) (hN : Utf8.encode r = ⟨#[a, b]⟩) (hb : 128 ≤ b.toNat) : Calls Tryz.prog 144 #[.string ⟨#[46, 92, 63, 42, 43, 123, 125, 40, 41, 124, 91, 93, 45, 94]⟩, .int .i32 r] w (NoAns w) := by
  have CV := hide (Tryz.utf8_ValidRune r w)
  rw [hv] at CV
  have hcv := enc_run r
  rw [hN] at hcv
  have hnot : ∀ (x : Bool) (w : World), (Op.unary .not (.bool x)).run Tryz.prog w = .ok (.bool (!x)) w := fun _ _ => rfl
  have h0 : (0 : Int) ≤ r := by omega
  have h1 : ¬ r < 128 := by omega
  have e1 : (r == 65533) = false := by simpa using he
  have hne : (((⟨#[46, 92, 63, 42, 43, 123, 125, 40, 41, 124, 91, 93, 45, 94]⟩ : ByteArray)[1]'(by decide)).toNat : Int) ≠ (((⟨#[a, b]⟩ : ByteArray)[1]'(Nat.le_refl 2)).toNat : Int) := by
    have e1 : ((⟨#[46, 92, 63, 42, 43, 123, 125, 40, 41, 124, 91, 93, 45, 94]⟩ : ByteArray)[1]'(by decide)).toNat < 128 := by decide
    have e2 : 128 ≤ ((⟨#[a, b]⟩ : ByteArray)[1]'(Nat.le_refl 2)).toNat := hb
    omega
  have hne2 : ((((⟨#[46, 92, 63, 42, 43, 123, 125, 40, 41, 124, 91, 93, 45, 94]⟩ : ByteArray)[1]'(by decide)).toNat : Int) != (((⟨#[a, b]⟩ : ByteArray)[1]'(Nat.le_refl 2)).toNat : Int)) = true := by
    rw [bne_iff_ne]
    exact hne
  go_enter Tryz.func144, Tryz.ntmps144
  go_wp2_with (first | (go_at_call 146; refine CV.out.mono ?_; rintro e w9 ⟨rfl, h9⟩; rw [h9]; clear h9 w9))
  go_step3
  go_wp2
  go_loopw [9] (fun v9 wr => v9 = .int .i64 1 ∧ wr = w) (fun _ _ => 0)
  case atStart => exact ⟨rfl, rfl⟩
  case round =>
    obtain ⟨rfl, rfl⟩ := hrel
    go_wp2
    go_step3
    go_wp2
    go_region
    go_wp2
    go_region_with (go_at_call 145; refine (Tryz.strings_IndexByte _ _ _).mono ?_; rintro e w9 ⟨he9, h9⟩; have e9 : e = .returned (.int .i64 (-1)) := he9.trans (by rw [hi_none _ _ (by decide) (by rw [u8_back]; exact hb)]); rw [e9, h9]; clear he9 e9 h9)
    all_goals (go_wp2; rw [Exit.noGoto_ret]; go_ret; exact ⟨rfl, (((Below.refl _ _).drew).drew)⟩)
set_option maxRecDepth 100000 in
set_option maxHeartbeats 8000000 in
theorem r_long3E (r : Int) (w : World) (h : 128 ≤ r) (h2 : r ≤ 1114111) (hv : Lib.validRune r = true) (he : r ≠ 65533) (a b c : UInt8) (hN : Utf8.encode r = ⟨#[a, b, c]⟩) (hb : 128 ≤ c.toNat) : Calls Tryz.prog 144 #[.string ⟨#[46, 92, 63, 42, 43, 123, 125, 40, 41, 124, 91, 93, 45, 94]⟩, .int .i32 r] w (NoAns w) := by
  have CV := hide (Tryz.utf8_ValidRune r w)
  rw [hv] at CV
  have hcv := enc_run r
  rw [hN] at hcv
  have hnot : ∀ (x : Bool) (w : World), (Op.unary .not (.bool x)).run Tryz.prog w = .ok (.bool (!x)) w := fun _ _ => rfl
  have h0 : (0 : Int) ≤ r := by omega
  have h1 : ¬ r < 128 := by omega
  have e1 : (r == 65533) = false := by simpa using he
  have hne : (((⟨#[46, 92, 63, 42, 43, 123, 125, 40, 41, 124, 91, 93, 45, 94]⟩ : ByteArray)[2]'(by decide)).toNat : Int) ≠ (((⟨#[a, b, c]⟩ : ByteArray)[2]'(Nat.le_refl 3)).toNat : Int) := by
    have e1 : ((⟨#[46, 92, 63, 42, 43, 123, 125, 40, 41, 124, 91, 93, 45, 94]⟩ : ByteArray)[2]'(by decide)).toNat < 128 := by decide
    have e2 : 128 ≤ ((⟨#[a, b, c]⟩ : ByteArray)[2]'(Nat.le_refl 3)).toNat := hb
    omega
  have hne2 : ((((⟨#[46, 92, 63, 42, 43, 123, 125, 40, 41, 124, 91, 93, 45, 94]⟩ : ByteArray)[2]'(by decide)).toNat : Int) != (((⟨#[a, b, c]⟩ : ByteArray)[2]'(Nat.le_refl 3)).toNat : Int)) = true := by
    rw [bne_iff_ne]
    exact hne
  go_enter Tryz.func144, Tryz.ntmps144
  go_wp2_with (first | (go_at_call 146; refine CV.out.mono ?_; rintro e w9 ⟨rfl, h9⟩; rw [h9]; clear h9 w9))
  go_step3
  go_wp2
  go_loopw [9] (fun v9 wr => v9 = .int .i64 2 ∧ wr = w) (fun _ _ => 0)
  case atStart => exact ⟨rfl, rfl⟩
  case round =>
    obtain ⟨rfl, rfl⟩ := hrel
    go_wp2
    go_step3
    go_wp2
    go_region
    go_wp2
    go_region_with (go_at_call 145; refine (Tryz.strings_IndexByte _ _ _).mono ?_; rintro e w9 ⟨he9, h9⟩; have e9 : e = .returned (.int .i64 (-1)) := he9.trans (by rw [hi_none _ _ (by decide) (by rw [u8_back]; exact hb)]); rw [e9, h9]; clear he9 e9 h9)
    all_goals (go_wp2; rw [Exit.noGoto_ret]; go_ret; exact ⟨rfl, (((Below.refl _ _).drew).drew)⟩)
set_option maxRecDepth 100000 in
set_option maxHeartbeats 8000000 in
theorem r_long4E (r : Int) (w : World) (h : 128 ≤ r) (h2 : r ≤ 1114111) (hv : Lib.validRune r = true) (he : r ≠ 65533) (a b c d : UInt8) (hN : Utf8.encode r = ⟨#[a, b, c, d]⟩) (hb : 128 ≤ d.toNat) : Calls Tryz.prog 144 #[.string ⟨#[46, 92, 63, 42, 43, 123, 125, 40, 41, 124, 91, 93, 45, 94]⟩, .int .i32 r] w (NoAns w) := by
  have CV := hide (Tryz.utf8_ValidRune r w)
  rw [hv] at CV
  have hcv := enc_run r
  rw [hN] at hcv
  have hnot : ∀ (x : Bool) (w : World), (Op.unary .not (.bool x)).run Tryz.prog w = .ok (.bool (!x)) w := fun _ _ => rfl
  have h0 : (0 : Int) ≤ r := by omega
  have h1 : ¬ r < 128 := by omega
  have e1 : (r == 65533) = false := by simpa using he
  have hne : (((⟨#[46, 92, 63, 42, 43, 123, 125, 40, 41, 124, 91, 93, 45, 94]⟩ : ByteArray)[3]'(by decide)).toNat : Int) ≠ (((⟨#[a, b, c, d]⟩ : ByteArray)[3]'(Nat.le_refl 4)).toNat : Int) := by
    have e1 : ((⟨#[46, 92, 63, 42, 43, 123, 125, 40, 41, 124, 91, 93, 45, 94]⟩ : ByteArray)[3]'(by decide)).toNat < 128 := by decide
    have e2 : 128 ≤ ((⟨#[a, b, c, d]⟩ : ByteArray)[3]'(Nat.le_refl 4)).toNat := hb
    omega
  have hne2 : ((((⟨#[46, 92, 63, 42, 43, 123, 125, 40, 41, 124, 91, 93, 45, 94]⟩ : ByteArray)[3]'(by decide)).toNat : Int) != (((⟨#[a, b, c, d]⟩ : ByteArray)[3]'(Nat.le_refl 4)).toNat : Int)) = true := by
    rw [bne_iff_ne]
    exact hne
  go_enter Tryz.func144, Tryz.ntmps144
  go_wp2_with (first | (go_at_call 146; refine CV.out.mono ?_; rintro e w9 ⟨rfl, h9⟩; rw [h9]; clear h9 w9))
  go_step3
  go_wp2
  go_loopw [9] (fun v9 wr => v9 = .int .i64 3 ∧ wr = w) (fun _ _ => 0)
  case atStart => exact ⟨rfl, rfl⟩
  case round =>
    obtain ⟨rfl, rfl⟩ := hrel
    go_wp2
    go_step3
    go_wp2
    go_region
    go_wp2
    go_region_with (go_at_call 145; refine (Tryz.strings_IndexByte _ _ _).mono ?_; rintro e w9 ⟨he9, h9⟩; have e9 : e = .returned (.int .i64 (-1)) := he9.trans (by rw [hi_none _ _ (by decide) (by rw [u8_back]; exact hb)]); rw [e9, h9]; clear he9 e9 h9)
    all_goals (go_wp2; rw [Exit.noGoto_ret]; go_ret; exact ⟨rfl, (((Below.refl _ _).drew).drew)⟩)
set_option maxHeartbeats 4000000 in
theorem r_idxE (c : Int) (w : World) (h : 128 ≤ c) (hc : chB c = true) : Calls Tryz.prog 144 #[.string ⟨#[46, 92, 63, 42, 43, 123, 125, 40, 41, 124, 91, 93, 45, 94]⟩, .int .i32 c] w (NoAns w) := by
  have h2 := chB_cases hc
  by_cases he : c = 65533
  · subst he
    exact r_errE w
  · have hv : Lib.validRune c = true := by unfold Lib.validRune; simp; omega
    rcases enc_hi c h hv with ⟨a, b, hN, hb⟩ | ⟨a, b, d, hN, hb⟩ | ⟨a, b, d, f, hN, hb⟩
    · exact r_long2E c w h (by omega) hv he a b hN hb
    · exact r_long3E c w h (by omega) hv he a b d hN hb
    · exact r_long4E c w h (by omega) hv he a b d f hN hb
theorem isS_hiE {c : Int} (h : 128 ≤ c) : isS sgE c = false := by
  unfold isS sgE
  simp
  omega
theorem idx_isE (c : Int) (h0 : 0 ≤ c) (h1 : c < 128) : decide (0 ≤ Lib.indexByte sgE c.toNat.toUInt8) = isS sgE c := by
  obtain ⟨k, rfl⟩ : ∃ k : Nat, c = k := ⟨c.toNat, by omega⟩
  have hk : k < 128 := by omega
  have hall : ∀ k : Fin 128, decide (0 ≤ Lib.indexByte sgE ((k.val : Int)).toNat.toUInt8) = isS sgE (k.val : Int) := by decide +kernel
  exact hall ⟨k, hk⟩
set_option maxHeartbeats 4000000 in
theorem i_signE (c : Int) (w : World) (hc : chB c = true) : Calls Tryz.prog 135 #[.int .i64 c, .string ⟨#[46, 92, 63, 42, 43, 123, 125, 40, 41, 124, 91, 93, 45, 94]⟩] w fun e w' => e = .returned (.bool (isS sgE c)) ∧ Below w.heap.size w w' := by
  have h2 := chB_cases hc
  have hw : IntKind.i32.wrap c = c := by rw [IntKind.wrap_i32]; omega
  by_cases h : c < 128
  · have C := hide (Tryz.strings_ContainsRune_ascii ⟨#[46, 92, 63, 42, 43, 123, 125, 40, 41, 124, 91, 93, 45, 94]⟩ c w (by omega) h)
    rw [show (⟨#[46, 92, 63, 42, 43, 123, 125, 40, 41, 124, 91, 93, 45, 94]⟩ : ByteArray).data.toList = sgE from rfl, idx_isE c (by omega) h] at C
    go_enter Tryz.func135, Tryz.ntmps135
    go_wp2_with (go_at_call 142; refine C.out.mono ?_; rintro e w9 ⟨rfl, h9⟩; rw [h9]; clear h9 w9)
    go_ret
    exact ⟨rfl, Below.refl _ _⟩
  · have HS := hide (isS_hiE (c := c) (by omega))
    have C := hide (r_idxE c w (by omega) hc)
    have CR : Hid (Calls Tryz.prog 142 #[.string ⟨#[46, 92, 63, 42, 43, 123, 125, 40, 41, 124, 91, 93, 45, 94]⟩, .int .i32 c] w fun e w' => e = .returned (.bool false) ∧ Below w.heap.size w w') := hide (by
      go_enter Tryz.func142, Tryz.ntmps142
      go_wp2_with (go_at_call 144; refine C.out.mono ?_; rintro e w2 ⟨rfl, hb2⟩; have HB := hide hb2; clear hb2)
      go_ret
      exact ⟨rfl, HB.out⟩)
    go_enter Tryz.func135, Tryz.ntmps135
    go_wp2_with (go_at_call 142; refine CR.out.mono ?_; rintro e w2 ⟨rfl, hb2⟩; have HB := hide hb2; clear hb2)
    go_ret
    exact ⟨ret_bool HS.out.symm, HB.out⟩
end Go.Proofs.YtepommmmmfaihaaGreatDoor

/-
  Contracts of the program's reader of expressions: digits, numbers, limits, escaped characters, characters within brackets.
-/
namespace Go.Proofs.YtepommmmmfaihaaGreatDoor
open Go.RowKit Go.Joins
set_option linter.unusedVariables false
set_option linter.unusedSimpArgs false
/-- What a part answers: a value and the rest, or it gives up. -/
def PvA (S : Nat → Prop) (B R : Nat) (w : World) (X : List Nd) (o : Option (Value × List Int)) (e : Ending) (w' : World) : Prop := match o with
  | some (v, r) => e = .returned v ∧ RD S B R w' r X ∧ Kp (fun j => j = R) w w'
  | none => GivB B w e w'
theorem giv_kp {S : Nat → Prop} {B R : Nat} {w w1 w2 : World} {u : List Int} {X : List Nd} {e : Ending} (h : RD S B R w u X) (k : Kp (fun j => j = R) w w1) (g : GivB B w1 e w2) : GivB B w e w2 := ⟨g.1, (rd_kpB h k).trans g.2⟩
theorem kp_tr {R : Nat} {w w1 w2 : World} (h : Kp (fun j => j = R) w w1) (k : Kp (fun j => j = R) w1 w2) : Kp (fun j => j = R) w w2 := h.trans k (fun _ _ hj => hj)
theorem kp_bl {R B : Nat} {w w1 : World} (h : Below B w w1) (hB : w.heap.size ≤ B) : Kp (fun j => j = R) w w1 := ⟨h.os, h.tape, h.output, h.size, fun k hk _ => h.block k (by omega)⟩
theorem rd_bl {S : Nat → Prop} {B R : Nat} {w w1 : World} {u : List Int} {X : List Nd} (h : RD S B R w u X) (k : Below w.heap.size w w1) : RD S B R w1 u X := by
  obtain ⟨h0, ta, tc, ad, c, h1, h2, h3⟩ := h
  have hlt := xr_lt h1
  exact ⟨h0, ta, tc, ad, c, (k.block R hlt).trans h1, tx_go h2 (k.mono (by omega)), xo_below h3.1 k, h3.2⟩
set_option maxHeartbeats 2000000 in
theorem i_digitY {S : Nat → Prop} (B R : Nat) (s : Int) (r : List Int) (X : List Nd) (w : World) (h : RD S B R w (s :: r) X) (hs : 48 ≤ s ∧ s ≤ 57) : Calls Tryz.prog 143 #[.pointer (some ⟨R, 0, none⟩)] w fun e w' => e = .returned (.int .i64 (s - 48)) ∧ RD S B R w' r X ∧ Kp (fun j => j = R) w w' := by
  have HA := hide (i_nextC B R s r X w h)
  have hw : IntKind.i64.wrap (s - 48) = s - 48 := by rw [IntKind.wrap_i64]; omega
  clear h
  go_enter Tryz.func143, Tryz.ntmps143
  go_wp2_with fail
  refine HA.out.mono ?_
  rintro e w1 ⟨rfl, h1, k1⟩
  have H1 := hide h1
  have K1 := hide k1
  clear h1 k1 HA
  go_wp2_with (first | (go_at_call 83; refine (i_inT _ _ _ _ hs).mono ?_; rintro e w9 ⟨rfl, h9⟩; rw [h9]; clear h9 w9) | (go_at_call 79; refine (i_wantY _ _).mono ?_; rintro e w9 ⟨rfl, h9⟩; rw [h9]; clear h9 w9))
  go_ret
  exact ⟨rfl, H1.out, K1.out⟩
set_option maxHeartbeats 2000000 in
theorem i_digitN {S : Nat → Prop} (B R : Nat) (u : List Int) (X : List Nd) (w : World) (h : RD S B R w u X) (hs : ∀ s r, u = s :: r → ¬ (48 ≤ s ∧ s ≤ 57)) : Calls Tryz.prog 143 #[.pointer (some ⟨R, 0, none⟩)] w (GivB B w) := by
  cases u with
  | nil =>
    have HA := hide (i_nextN B R X w h)
    clear h
    go_enter Tryz.func143, Tryz.ntmps143
    go_wp2_with fail
    refine HA.out.mono ?_
    rintro e w2 ⟨⟨tv, v, rfl⟩, k2⟩
    have K2 := hide k2
    clear k2
    go_wp2
    exact ⟨rfl, ⟨_, _, rfl⟩, K2.out⟩
  | cons s r =>
    have HA := hide (i_nextC B R s r X w h)
    have H0 := hide h
    have hs' := hs s r rfl
    clear h hs
    go_enter Tryz.func143, Tryz.ntmps143
    go_wp2_with fail
    refine HA.out.mono ?_
    rintro e w1 ⟨rfl, h1, k1⟩
    have H1 := hide h1
    have K1 := hide k1
    clear h1 k1 HA
    go_wp2_with (first | (go_at_call 83; refine (i_inF _ _ _ _ hs').mono ?_; rintro e w9 ⟨rfl, h9⟩; rw [h9]; clear h9 w9))
    refine (i_wantN B _ _).mono ?_
    rintro e w2 ⟨⟨tv, v, rfl⟩, k2⟩
    have K2 := hide (giv_kp H0.out K1.out ⟨⟨tv, v, rfl⟩, k2⟩)
    clear k2
    go_wp2
    exact ⟨rfl, K2.out⟩
def iv (o : Option (Int × List Int)) : Option (Value × List Int) := o.map fun p => (.int .i64 p.1, p.2)
set_option maxHeartbeats 4000000 in
theorem i_number {S : Nat → Prop} (B R : Nat) (u : List Int) (X : List Nd) (w : World) (h : RD S B R w u X) : Calls Tryz.prog 137 #[.pointer (some ⟨R, 0, none⟩)] w (PvA S B R w X (iv (nmP u))) := by
  by_cases hd : ∃ s r, u = s :: r ∧ (48 ≤ s ∧ s ≤ 57)
  · obtain ⟨s, r, rfl, hs⟩ := hd
    have HA := hide (i_digitY B R s r X w h hs)
    have hdg : dgB s = true := decide_eq_true hs
    clear h
    by_cases h0 : s = 48
    · have e : nmP (s :: r) = some (0, r) := by rw [nmP, if_pos hdg, if_pos h0]
      rw [e]
      subst h0
      clear e hdg
      go_enter Tryz.func137, Tryz.ntmps137
      go_wp2_with fail
      refine HA.out.mono ?_
      rintro e w1 ⟨rfl, h1, k1⟩
      have H1 := hide h1
      have K1 := hide k1
      clear h1 k1 HA
      go_wp2
      go_ret
      exact ⟨rfl, H1.out, K1.out⟩
    · have hp : 0 < s - 48 := by omega
      cases r with
      | nil =>
        have e : nmP (s :: []) = some (s - 48, []) := by rw [nmP, if_pos hdg, if_neg h0]; rfl
        rw [e]
        clear e hdg
        go_enter Tryz.func137, Tryz.ntmps137
        go_wp2_with fail
        refine HA.out.mono ?_
        rintro e w1 ⟨rfl, h1, k1⟩
        obtain ⟨ta, tc, c0⟩ := rd_nil h1
        have H1 := hide h1
        have K1 := hide k1
        clear h1 k1 HA
        go_wp2
        go_ret
        exact ⟨rfl, H1.out, K1.out⟩
      | cons d r2 =>
        by_cases hd2 : 48 ≤ d ∧ d ≤ 57
        · have hdd : dgB d = true := decide_eq_true hd2
          have e : nmP (s :: d :: r2) = some ((s - 48) * 10 + (d - 48), r2) := by rw [nmP, if_pos hdg, if_neg h0, nm2, if_pos hdd]
          rw [e]
          have hw1 : IntKind.i64.wrap ((s - 48) * 10) = (s - 48) * 10 := by rw [IntKind.wrap_i64]; omega
          have hw2 : IntKind.i64.wrap ((s - 48) * 10 + (d - 48)) = (s - 48) * 10 + (d - 48) := by rw [IntKind.wrap_i64]; omega
          clear e hdg hdd
          go_enter Tryz.func137, Tryz.ntmps137
          go_wp2_with fail
          refine HA.out.mono ?_
          rintro e w1 ⟨rfl, h1, k1⟩
          obtain ⟨b, off, tc, ad, cp, c0, f0, c1, c2, hh1, hh2, HT⟩ := rd_cons h1
          have h6 : (0 : Int) < (r2.length : Int) + 1 := by omega
          have h7 : (0 : Int) < ((r2.length + 1 : Nat) : Int) := by omega
          have HD := hide (i_digitY B R d r2 X w1 h1 hd2)
          have K1 := hide k1
          clear h1 k1 HA HT
          go_wp2_with (first | (go_at_call 83; refine (i_inT _ _ _ _ hd2).mono ?_; rintro e w9 ⟨rfl, h9⟩; rw [h9]; clear h9 w9))
          refine HD.out.mono ?_
          rintro e w2 ⟨rfl, h2, k2⟩
          have H2 := hide h2
          have K2 := hide (kp_tr K1.out k2)
          clear h2 k2 HD
          go_wp2
          go_ret
          exact ⟨rfl, H2.out, K2.out⟩
        · have hdd : ¬ dgB d = true := by unfold dgB; rw [decide_eq_true_iff]; exact hd2
          have e : nmP (s :: d :: r2) = some (s - 48, d :: r2) := by rw [nmP, if_pos hdg, if_neg h0, nm2, if_neg hdd]
          rw [e]
          clear e hdg hdd
          go_enter Tryz.func137, Tryz.ntmps137
          go_wp2_with fail
          refine HA.out.mono ?_
          rintro e w1 ⟨rfl, h1, k1⟩
          obtain ⟨b, off, tc, ad, cp, c0, f0, c1, c2, hh1, hh2, HT⟩ := rd_cons h1
          have h6 : (0 : Int) < (r2.length : Int) + 1 := by omega
          have h7 : (0 : Int) < ((r2.length + 1 : Nat) : Int) := by omega
          have H1 := hide h1
          have K1 := hide k1
          clear h1 k1 HA HT
          go_wp2_with (first | (go_at_call 83; refine (i_inF _ _ _ _ hd2).mono ?_; rintro e w9 ⟨rfl, h9⟩; rw [h9]; clear h9 w9))
          go_ret
          exact ⟨rfl, H1.out, K1.out⟩
  · have hn : nmP u = none := by
      cases u with
      | nil => rfl
      | cons s r => rw [nmP, if_neg (by unfold dgB; rw [decide_eq_true_iff]; exact fun h9 => hd ⟨s, r, rfl, h9⟩)]
    rw [hn]
    have HA := hide (i_digitN B R u X w h (fun s r e h9 => hd ⟨s, r, e, h9⟩))
    clear h hd hn
    go_enter Tryz.func137, Tryz.ntmps137
    go_wp2_with fail
    refine HA.out.mono ?_
    rintro e w2 ⟨⟨tv, v, rfl⟩, k2⟩
    have K2 := hide k2
    clear k2
    go_wp2
    exact ⟨rfl, ⟨_, _, rfl⟩, K2.out⟩
end Go.Proofs.YtepommmmmfaihaaGreatDoor
