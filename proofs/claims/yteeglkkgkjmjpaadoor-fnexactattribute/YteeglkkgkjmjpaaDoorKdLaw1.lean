/-
  What a law over rows of numbers wants besides: rows that stay, a mark on a row.
-/
import Derived.Test.YteeglkkgkjmjpaaDoorInts
import Derived.Below
namespace Go.Proofs.YteeglkkgkjmjpaaDoor
open Go.RowKit
set_option linter.unusedVariables false
set_option linter.unusedSimpArgs false
theorem own_stays {w w' : World} {B X : Nat} {e : TypeId} {v : Value} {n : Nat} {xs : List Value} (h : w.ownsRow B e 1 v n xs) (hb : Below X w w') (hX : ∀ k, v.ownBlock = some k → k < X) : w'.ownsRow B e 1 v n xs := by
  refine ⟨h.1, ?_⟩
  rcases h.2 with hn | ⟨g, cap, cur, hv, hB, hg, rest⟩
  · exact .inl hn
  · refine .inr ⟨g, cap, cur, hv, hB, ?_, rest⟩
    rw [hb.block g (hX g (by rw [hv]; rfl))]; exact hg
theorem own_below' {w w' : World} {B : Nat} {e : TypeId} {v : Value} {n : Nat} {xs : List Value} (h : w.ownsRow B e 1 v n xs) (hb : Below w.heap.size w w') : w'.ownsRow B e 1 v n xs :=
  own_stays h hb (fun k hk => (h.lt k hk).2)
theorem eq_same (a1 a2 : Option Addr) (n c1 c2 : Nat) (xs : List Int) (w : World) (hx : xs.length = n) (hn : n ≤ 1048576) (h1 : RowAt .i64 w a1 xs w.heap.size) (h2 : RowAt .i64 w a2 xs w.heap.size) :
    Calls Tryd.prog 17 #[.slice a1 n c1, .slice a2 n c2] w fun e w' => e = .returned (.bool true) ∧ ∃ q, w' = w.drewN q := by
  refine (eq_ints a1 a2 n n c1 c2 xs xs w hx hx hn hn h1 h2).mono ?_
  rintro e w' ⟨rfl, h⟩
  exact ⟨by simp, h⟩
set_option maxHeartbeats 400000 in
theorem mark_none (a : Option Addr) (c : Nat) (w : World) :
    Calls Tryd.prog 19 #[.slice a 0 c, .int .i64 1] w fun e w' => e = .returned (.int .i64 1) ∧ w' = w := by
  go_enter Tryd.func19, Tryd.ntmps19
  go_wp2
  go_loop [1, 5] (fun k i => k = .int .i64 1 ∧ i = .int .i64 0) (fun _ _ => 0)
  case atStart => exact ⟨rfl, rfl⟩
  case round =>
    obtain ⟨rfl, rfl⟩ := hrel
    go_wp2
    go_ret
    exact ⟨rfl, rfl⟩
/-- A mark on every place of a row that the call owns, be it empty or not. -/
theorem mark_any (B : Nat) (ad : Option Addr) (n c : Nat) (xs : List Int) (w : World) (hx : xs.length = n) (hn : n ≤ 1048576) (hown : w.ownsRow B 2 1 (.slice ad n c) n (xs.map (Value.int .i64))) :
    Calls Tryd.prog 19 #[.slice ad n c, .int .i64 1] w fun e w' => e = .returned (.int .i64 (1 + n)) ∧
      w'.ownsRow B 2 1 (.slice ad n c) n ((upFrom 1 n).map (Value.int .i64)) ∧ Below B w w' := by
  by_cases h0 : n = 0
  · subst h0
    refine (mark_none ad c w).mono ?_
    rintro e w' ⟨rfl, rfl⟩
    have : xs = [] := List.length_eq_zero_iff.1 hx
    subst this
    exact ⟨rfl, hown, Below.refl _ _⟩
  · rcases hown.2 with ⟨hv, h0'⟩ | ⟨g, cap, cur, hv, hB, hg, rest⟩
    · exact absurd h0' h0
    · simp only [Value.slice.injEq] at hv
      obtain ⟨rfl, _, rfl⟩ := hv
      refine (mark_ints B g n c xs w hx hn hB hown).mono ?_
      rintro e w' ⟨rfl, h1, h2, _⟩
      exact ⟨rfl, h1, h2⟩
end Go.Proofs.YteeglkkgkjmjpaaDoor
