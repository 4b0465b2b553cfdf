/-
  Contract of the specification: l1Int, the number that a text says.
-/
import Derived.Test.YtdbipaobanjbbaaDoorMrN
namespace Go.Proofs.YtdbipaobanjbbaaDoor
open Go.RowKit Go.Joins
set_option linter.unusedVariables false
set_option linter.unusedSimpArgs false
theorem s_dg (c : Int) (w : World) : Calls Tryd.prog 17 #[.int .u8 c] w fun e w' => e = .returned (.bool (decide (48 ≤ c ∧ c ≤ 57))) ∧ w' = w := by
  by_cases h1 : 48 ≤ c
  · by_cases h2 : c ≤ 57
    · rw [decide_eq_true ⟨h1, h2⟩]
      go_enter Tryd.func17, Tryd.ntmps17
      go_wp2
      go_ret
      exact ⟨rfl, rfl⟩
    · rw [decide_eq_false (fun h => h2 h.2)]
      go_enter Tryd.func17, Tryd.ntmps17
      go_wp2
      go_ret
      exact ⟨rfl, rfl⟩
  · rw [decide_eq_false (fun h => h1 h.1)]
    go_enter Tryd.func17, Tryd.ntmps17
    go_wp2
    go_ret
    exact ⟨rfl, rfl⟩
/-- What a text of digits says. -/
def dV (l : List UInt8) : Int := l.foldl (fun n d => n * 10 + ((d.toNat : Int) - 48)) 0
theorem dV_snoc (l : List UInt8) (d : UInt8) : dV (l ++ [d]) = dV l * 10 + ((d.toNat : Int) - 48) := by unfold dV; rw [List.foldl_append]; rfl
def p10 : Nat → Int
  | 0 => 1
  | k + 1 => 10 * p10 k
/-- What l1Int answers at a text of digits. -/
def IntA (s : List UInt8) (v : Int) (b : Bool) : Prop := ∀ dc : Int, -1 ≤ dc ∧ dc ≤ 30 → s = Lib.itoa dc → v = dc ∧ b = true
theorem dV_dec : ∀ u : Nat, u < 31 → dV (if u < 10 then [UInt8.ofNat (48 + u)] else [UInt8.ofNat (48 + u / 10), UInt8.ofNat (48 + u % 10)]) = (u : Int) := by decide
theorem dig_dec : ∀ u : Nat, u < 31 → ∀ b ∈ (if u < 10 then [UInt8.ofNat (48 + u)] else [UInt8.ofNat (48 + u / 10), UInt8.ofNat (48 + u % 10)]), 48 ≤ b.toNat ∧ b.toNat ≤ 57 := by decide
theorem head_dec : ∀ u : Nat, u < 31 → ¬ ((if u < 10 then [UInt8.ofNat (48 + u)] else [UInt8.ofNat (48 + u / 10), UInt8.ofNat (48 + u % 10)])[0]? = some 48 ∧ 1 < (if u < 10 then [UInt8.ofNat (48 + u)] else [UInt8.ofNat (48 + u / 10), UInt8.ofNat (48 + u % 10)]).length) := by decide
end Go.Proofs.YtdbipaobanjbbaaDoor
