/-
  Contract: the marks that the laws write into texts.
-/
import Derived.Test.YtfohfljdgmlibaaV45
namespace Go.Proofs.Ytfohfljdgmlibaa
open Go.RowKit Go.Joins
set_option linter.unusedVariables false
set_option linter.unusedSimpArgs false
def mkF : Nat → Int → ByteArray → ByteArray
  | 0, x, s => s
  | f + 1, x, s => if 0 < x then mkF f (x / 10) (strOfNums [48 + x % 10] ++ s) else s
theorem mkF_more : ∀ (f g : Nat) (x : Int) (s : ByteArray), x < f → x < g → mkF f x s = mkF g x s
  | 0, 0, x, s, h1, h2 => rfl
  | 0, g + 1, x, s, h1, h2 => by rw [mkF, mkF, if_neg (by omega)]
  | f + 1, 0, x, s, h1, h2 => by rw [mkF, mkF, if_neg (by omega)]
  | f + 1, g + 1, x, s, h1, h2 => by
    rw [mkF, mkF]
    split
    · exact mkF_more f g _ _ (by omega) (by omega)
    · rfl
def mkX (x : Int) (s : ByteArray) : ByteArray := mkF (x.toNat + 1) x s
theorem mkX_no {x : Int} {s : ByteArray} (h : ¬ 0 < x) : mkX x s = s := by unfold mkX; rw [mkF, if_neg h]
theorem mkX_yes {x : Int} {s : ByteArray} (h : 0 < x) : mkX x s = mkX (x / 10) (strOfNums [48 + x % 10] ++ s) := by
  unfold mkX
  rw [mkF, if_pos h]
  exact mkF_more _ _ _ _ (by omega) (by omega)
def mkT (k : Int) : ByteArray := ⟨#[109]⟩ ++ mkX k ⟨#[]⟩
set_option maxHeartbeats 1000000 in
theorem l_mtV (k : Int) (w : World) (h0 : 1 ≤ k) (h1 : k ≤ 1099511627776) : Calls Try.prog 35 #[.int .i64 k] w fun e w' => e = .returned (.string (mkT k)) ∧ Below w.heap.size w w' := by
  go_enter Try.func35, Try.ntmps35
  go_wp2
  go_loopw [0, 3] (fun kv sv wr => ∃ (x : Int) (s : ByteArray), kv = .int .i64 x ∧ sv = .string s ∧ 0 ≤ x ∧ (s.size : Int) + x ≤ k ∧ Below w.heap.size w wr ∧ Hid (mkX x s = mkX k ⟨#[]⟩)) (fun kv _ _ => (intOf kv).toNat)
  case atStart => exact ⟨k, ⟨#[]⟩, rfl, rfl, by omega, by show ((0 : Nat) : Int) + k ≤ k; omega, Below.refl _ _, hide rfl⟩
  case round =>
    obtain ⟨x, s, rfl, rfl, hx0, hx1, hb, HM⟩ := hrel
    by_cases hx : 0 < x
    · have hcv := conv_new wr [48 + x % 10]
      have hos := one_size (48 + x % 10)
      have HM2 := hide ((mkX_yes hx (s := s)).symm.trans HM.out)
      obtain ⟨o, ho⟩ : ∃ o, strOfNums [48 + x % 10] = o := ⟨_, rfl⟩
      rw [ho] at hcv hos HM2
      simp only [List.map_cons, List.map_nil, List.length_cons, List.length_nil, Nat.zero_add] at hcv
      have hS1 : ¬ 9223372036854775807 < o.size + s.size := by omega
      have HOS := hide hos
      have HB := hide hb
      clear ho hos hb
      go_wp2
      go_roundw
      case rel => exact ⟨x / 10, o ++ s, rfl, rfl, by omega, by rw [ByteArray.size_append, HOS.out]; omega, HB.out.alloc HB.out.size _, HM2⟩
      case measure => simp [intOf]; omega
    · have hS1 : ¬ 9223372036854775807 < 1 + s.size := by omega
      have HV : Hid (mkT k = ⟨#[109]⟩ ++ s) := hide (by unfold mkT; rw [← HM.out, mkX_no hx])
      go_wp2
      go_ret
      exact ⟨by rw [HV.out]; rfl, hb⟩
end Go.Proofs.Ytfohfljdgmlibaa
