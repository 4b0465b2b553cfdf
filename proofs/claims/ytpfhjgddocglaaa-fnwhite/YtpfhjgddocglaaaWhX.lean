/-
  strings.IndexRune at the four blanks, for a rune of more than one byte.
-/
import Derived.Test.YtpfhjgddocglaaaWhV
import Derived.WalkMore
namespace Go.Proofs.Ytpfhjgddocglaaa
open Go.RowKit
set_option linter.unusedVariables false
set_option linter.unusedSimpArgs false
theorem u8_back (x : UInt8) : (x.toNat : Int).toNat.toUInt8 = x := by simp
set_option maxRecDepth 100000 in
set_option maxHeartbeats 8000000 in
theorem r_long2 (r : Int) (w : World) (h : 128 ≤ r) (h2 : r ≤ 1114111) (hv : Lib.validRune r = true) (he : r ≠ 65533) (a b : UInt8) (hN : Utf8.encode r = ⟨#[a, b]⟩) (hb : 128 ≤ b.toNat) : Calls Try.prog 37 #[.string ⟨#[32, 9, 10, 13]⟩, .int .i32 r] w (NoAns w) := by
  have CV := hide (Try.utf8_ValidRune r w)
  rw [hv] at CV
  have hcv := enc_run r
  rw [hN] at hcv
  have hnot : ∀ (x : Bool) (w : World), (Op.unary .not (.bool x)).run Try.prog w = .ok (.bool (!x)) w := fun _ _ => rfl
  have h0 : (0 : Int) ≤ r := by omega
  have h1 : ¬ r < 128 := by omega
  have e1 : (r == 65533) = false := by simpa using he
  have hne : (((⟨#[32, 9, 10, 13]⟩ : ByteArray)[1]'(by decide)).toNat : Int) ≠ (((⟨#[a, b]⟩ : ByteArray)[1]'(Nat.le_refl 2)).toNat : Int) := by
    have e1 : ((⟨#[32, 9, 10, 13]⟩ : ByteArray)[1]'(by decide)).toNat < 128 := by decide
    have e2 : 128 ≤ ((⟨#[a, b]⟩ : ByteArray)[1]'(Nat.le_refl 2)).toNat := hb
    omega
  have hne2 : ((((⟨#[32, 9, 10, 13]⟩ : ByteArray)[1]'(by decide)).toNat : Int) != (((⟨#[a, b]⟩ : ByteArray)[1]'(Nat.le_refl 2)).toNat : Int)) = true := by
    rw [bne_iff_ne]
    exact hne
  go_enter Try.func37, Try.ntmps37
  go_wp2_with (first | (go_at_call 47; refine CV.out.mono ?_; rintro e w9 ⟨rfl, h9⟩; rw [h9]; clear h9 w9))
  go_step3
  go_wp2
  go_loopw [9] (fun v9 wr => v9 = .int .i64 1 ∧ wr = w) (fun _ _ => 0)
  case atStart => exact ⟨rfl, rfl⟩
  case round =>
    obtain ⟨rfl, rfl⟩ := hrel
    go_wp2
    go_step3
    go_wp2
    go_region
    go_wp2
    go_region_with (go_at_call 46; refine (Try.strings_IndexByte _ _ _).mono ?_; rintro e w9 ⟨he9, h9⟩; have e9 : e = .returned (.int .i64 (-1)) := he9.trans (by rw [hi_none _ _ (by decide) (by rw [u8_back]; exact hb)]); rw [e9, h9]; clear he9 e9 h9)
    all_goals (go_wp2; rw [Exit.noGoto_ret]; go_ret; exact ⟨rfl, (((Below.refl _ _).drew).drew)⟩)
set_option maxRecDepth 100000 in
set_option maxHeartbeats 8000000 in
theorem r_long3 (r : Int) (w : World) (h : 128 ≤ r) (h2 : r ≤ 1114111) (hv : Lib.validRune r = true) (he : r ≠ 65533) (a b c : UInt8) (hN : Utf8.encode r = ⟨#[a, b, c]⟩) (hb : 128 ≤ c.toNat) : Calls Try.prog 37 #[.string ⟨#[32, 9, 10, 13]⟩, .int .i32 r] w (NoAns w) := by
  have CV := hide (Try.utf8_ValidRune r w)
  rw [hv] at CV
  have hcv := enc_run r
  rw [hN] at hcv
  have hnot : ∀ (x : Bool) (w : World), (Op.unary .not (.bool x)).run Try.prog w = .ok (.bool (!x)) w := fun _ _ => rfl
  have h0 : (0 : Int) ≤ r := by omega
  have h1 : ¬ r < 128 := by omega
  have e1 : (r == 65533) = false := by simpa using he
  have hne : (((⟨#[32, 9, 10, 13]⟩ : ByteArray)[2]'(by decide)).toNat : Int) ≠ (((⟨#[a, b, c]⟩ : ByteArray)[2]'(Nat.le_refl 3)).toNat : Int) := by
    have e1 : ((⟨#[32, 9, 10, 13]⟩ : ByteArray)[2]'(by decide)).toNat < 128 := by decide
    have e2 : 128 ≤ ((⟨#[a, b, c]⟩ : ByteArray)[2]'(Nat.le_refl 3)).toNat := hb
    omega
  have hne2 : ((((⟨#[32, 9, 10, 13]⟩ : ByteArray)[2]'(by decide)).toNat : Int) != (((⟨#[a, b, c]⟩ : ByteArray)[2]'(Nat.le_refl 3)).toNat : Int)) = true := by
    rw [bne_iff_ne]
    exact hne
  go_enter Try.func37, Try.ntmps37
  go_wp2_with (first | (go_at_call 47; refine CV.out.mono ?_; rintro e w9 ⟨rfl, h9⟩; rw [h9]; clear h9 w9))
  go_step3
  go_wp2
  go_loopw [9] (fun v9 wr => v9 = .int .i64 2 ∧ wr = w) (fun _ _ => 0)
  case atStart => exact ⟨rfl, rfl⟩
  case round =>
    obtain ⟨rfl, rfl⟩ := hrel
    go_wp2
    go_step3
    go_wp2
    go_region
    go_wp2
    go_region_with (go_at_call 46; refine (Try.strings_IndexByte _ _ _).mono ?_; rintro e w9 ⟨he9, h9⟩; have e9 : e = .returned (.int .i64 (-1)) := he9.trans (by rw [hi_none _ _ (by decide) (by rw [u8_back]; exact hb)]); rw [e9, h9]; clear he9 e9 h9)
    all_goals (go_wp2; rw [Exit.noGoto_ret]; go_ret; exact ⟨rfl, (((Below.refl _ _).drew).drew)⟩)
set_option maxRecDepth 100000 in
set_option maxHeartbeats 8000000 in
theorem r_long4 (r : Int) (w : World) (h : 128 ≤ r) (h2 : r ≤ 1114111) (hv : Lib.validRune r = true) (he : r ≠ 65533) (a b c d : UInt8) (hN : Utf8.encode r = ⟨#[a, b, c, d]⟩) (hb : 128 ≤ d.toNat) : Calls Try.prog 37 #[.string ⟨#[32, 9, 10, 13]⟩, .int .i32 r] w (NoAns w) := by
  have CV := hide (Try.utf8_ValidRune r w)
  rw [hv] at CV
  have hcv := enc_run r
  rw [hN] at hcv
  have hnot : ∀ (x : Bool) (w : World), (Op.unary .not (.bool x)).run Try.prog w = .ok (.bool (!x)) w := fun _ _ => rfl
  have h0 : (0 : Int) ≤ r := by omega
  have h1 : ¬ r < 128 := by omega
  have e1 : (r == 65533) = false := by simpa using he
  have hne : (((⟨#[32, 9, 10, 13]⟩ : ByteArray)[3]'(by decide)).toNat : Int) ≠ (((⟨#[a, b, c, d]⟩ : ByteArray)[3]'(Nat.le_refl 4)).toNat : Int) := by
    have e1 : ((⟨#[32, 9, 10, 13]⟩ : ByteArray)[3]'(by decide)).toNat < 128 := by decide
    have e2 : 128 ≤ ((⟨#[a, b, c, d]⟩ : ByteArray)[3]'(Nat.le_refl 4)).toNat := hb
    omega
  have hne2 : ((((⟨#[32, 9, 10, 13]⟩ : ByteArray)[3]'(by decide)).toNat : Int) != (((⟨#[a, b, c, d]⟩ : ByteArray)[3]'(Nat.le_refl 4)).toNat : Int)) = true := by
    rw [bne_iff_ne]
    exact hne
  go_enter Try.func37, Try.ntmps37
  go_wp2_with (first | (go_at_call 47; refine CV.out.mono ?_; rintro e w9 ⟨rfl, h9⟩; rw [h9]; clear h9 w9))
  go_step3
  go_wp2
  go_loopw [9] (fun v9 wr => v9 = .int .i64 3 ∧ wr = w) (fun _ _ => 0)
  case atStart => exact ⟨rfl, rfl⟩
  case round =>
    obtain ⟨rfl, rfl⟩ := hrel
    go_wp2
    go_step3
    go_wp2
    go_region
    go_wp2
    go_region_with (go_at_call 46; refine (Try.strings_IndexByte _ _ _).mono ?_; rintro e w9 ⟨he9, h9⟩; have e9 : e = .returned (.int .i64 (-1)) := he9.trans (by rw [hi_none _ _ (by decide) (by rw [u8_back]; exact hb)]); rw [e9, h9]; clear he9 e9 h9)
    all_goals (go_wp2; rw [Exit.noGoto_ret]; go_ret; exact ⟨rfl, (((Below.refl _ _).drew).drew)⟩)
end Go.Proofs.Ytpfhjgddocglaaa
