/-
  Contracts of the laws' helpers on rows of Mark: how much they hold, a copy in new memory, and that two rows that are alike are told so; how such a row lies.
-/
import Derived.Test.YtdbipaobanjbbaaDoorGen
import Derived.Test.YtdbipaobanjbbaaDoorChecked
import Derived.WalkKit
import Derived.ProofKit
import Derived.Below
import Derived.OwnWalk
import Derived.Laws.OwnMore
import Derived.RegionTactic
import Derived.Deep.QuietTactic
import Derived.Deep.RegionWith
import Derived.BigQuiet
import Derived.Deep.Draws
import Derived.Deep.RegionHeld3
import Derived.Deep.SlicePairs
import Derived.Lib.SmallJoins
import Derived.KernelRfl
namespace Go.Proofs.YtdbipaobanjbbaaDoor
open Go.RowKit Go.Joins
set_option linter.unusedVariables false
set_option linter.unusedSimpArgs false
theorem ret_iI {a b : Int} (h : a = b) : Ending.returned (.int .i64 a) = .returned (.int .i64 b) := by rw [h]
def sumN (f : Nat → Nat) : Nat → Nat
  | 0 => 0
  | k + 1 => sumN f k + f k
theorem sumN_le (f : Nat → Nat) {a b : Nat} (h : a ≤ b) : sumN f a ≤ sumN f b := by
  induction b with
  | zero => have : a = 0 := by omega
            subst this; exact Nat.le_refl _
  | succ b ih =>
    by_cases e : a = b + 1
    · subst e; exact Nat.le_refl _
    · have := ih (by omega)
      show sumN f a ≤ sumN f b + f b
      omega
theorem sumN_at (f : Nat → Nat) {a b : Nat} (h : a < b) : sumN f a + f a ≤ sumN f b := sumN_le f (a := a + 1) h
/-- What is left of 'left' when 'x' is taken away; -1: not so much was there. -/
def dn (left : Int) (x : Nat) : Int := if (x : Int) ≤ left then left - x else -1
theorem dn_yes {left : Int} {x : Nat} (h : (x : Int) ≤ left) : dn left x = left - x := by unfold dn; rw [if_pos h]
theorem dn_no {left : Int} {x : Nat} (h : ¬ (x : Int) ≤ left) : dn left x = -1 := by unfold dn; rw [if_neg h]
theorem own_someN {w : World} {B g n t size : Nat} {xs : List Value} (h : w.ownsRow B t size (.slice (some ⟨g, 0, none⟩) n n) n xs) (j : Nat) (hj : j < n * size) : ∃ v, w.cell? ⟨g, j, none⟩ = some v := by
  rw [h.cellAt j hj]
  exact ⟨_, List.getElem?_eq_getElem (by rw [h.1]; exact hj)⟩
/-- A row of them. -/
structure Mk where
  n : Nat
  G : Nat → Bool
  DC : Nat → Int
  VL : Nat → ByteArray
  NL : Nat → Bool
  GV : Nat → Bool
def MkAt (w : World) (a : Option Addr) (M : Mk) (B : Nat) : Prop := 0 < M.n → ∃ b off, a = some ⟨b, off, none⟩ ∧ b < B ∧ ∀ j, j < M.n → w.cell? ⟨b, off + j * 5, none⟩ = some (.bool (M.G j)) ∧ w.cell? ⟨b, off + j * 5 + 1, none⟩ = some (.int .i64 (M.DC j)) ∧ w.cell? ⟨b, off + j * 5 + 2, none⟩ = some (.string (M.VL j)) ∧ w.cell? ⟨b, off + j * 5 + 3, none⟩ = some (.bool (M.NL j)) ∧ w.cell? ⟨b, off + j * 5 + 4, none⟩ = some (.bool (M.GV j))
theorem mkAt_go {w w' : World} {a : Option Addr} {M : Mk} {B : Nat} (h : MkAt w a M B) (k : Below B w w') : MkAt w' a M B := fun h0 => by
  obtain ⟨b, off, e, hb, hc⟩ := h h0
  refine ⟨b, off, e, hb, fun j hj => ?_⟩
  obtain ⟨h0, h1, h2, h3, h4⟩ := hc j hj
  exact ⟨(k.cell (p := ⟨b, off + j * 5, none⟩) hb).trans h0, (k.cell (p := ⟨b, off + j * 5 + 1, none⟩) hb).trans h1, (k.cell (p := ⟨b, off + j * 5 + 2, none⟩) hb).trans h2, (k.cell (p := ⟨b, off + j * 5 + 3, none⟩) hb).trans h3, (k.cell (p := ⟨b, off + j * 5 + 4, none⟩) hb).trans h4⟩
theorem mkAt_up {w : World} {a : Option Addr} {M : Mk} {B B' : Nat} (h : MkAt w a M B) (k : B ≤ B') : MkAt w a M B' := fun h0 => by
  obtain ⟨b, off, e, hb, hc⟩ := h h0
  exact ⟨b, off, e, Nat.lt_of_lt_of_le hb k, hc⟩
def MkSz (M : Mk) : Prop := M.n ≤ maxLen ∧ ∀ j, j < M.n → (M.VL j).size ≤ maxLen
def mkSz (M : Mk) (j : Nat) : Nat := (M.VL j).size
def mkTot (M : Mk) : Nat := M.n + sumN (mkSz M) M.n
theorem mk_sz {M : Mk} (h : mkTot M ≤ 1048576) : M.n ≤ 1048576 ∧ ∀ j, j < M.n → mkSz M j ≤ 1048576 := by
  unfold mkTot at h
  refine ⟨by omega, fun j hj => ?_⟩
  have h1 := sumN_at (mkSz M) hj
  omega
theorem l_eqMk (x0 : Bool) (x1 : Int) (x2 : ByteArray) (x3 : Bool) (x4 : Bool) (w : World) : Calls Tryd.prog 15 #[.agg #[.bool x0, .int .i64 x1, .string x2, .bool x3, .bool x4], .agg #[.bool x0, .int .i64 x1, .string x2, .bool x3, .bool x4]] w fun e w' => e = .returned (.bool true) ∧ Below w.heap.size w w' := by
  go_enter Tryd.func15, Tryd.ntmps15
  go_wp2
  go_ret
  exact ⟨rfl, ((Below.refl _ _).alloc (Nat.le_refl _) _).alloc (by simp) _⟩
def EQMk (w w' : World) (b o b' o' : Nat) (M : Mk) (k : Nat) : Prop := Below w.heap.size w w' ∧ (b < w.heap.size ∧ b' < w.heap.size) ∧ (w'.cell? ⟨b, o, none⟩ = some (.bool (M.G k)) ∧ w'.cell? ⟨b, o + 1, none⟩ = some (.int .i64 (M.DC k)) ∧ w'.cell? ⟨b, o + 2, none⟩ = some (.string (M.VL k)) ∧ w'.cell? ⟨b, o + 3, none⟩ = some (.bool (M.NL k)) ∧ w'.cell? ⟨b, o + 4, none⟩ = some (.bool (M.GV k))) ∧ (w'.cell? ⟨b', o', none⟩ = some (.bool (M.G k)) ∧ w'.cell? ⟨b', o' + 1, none⟩ = some (.int .i64 (M.DC k)) ∧ w'.cell? ⟨b', o' + 2, none⟩ = some (.string (M.VL k)) ∧ w'.cell? ⟨b', o' + 3, none⟩ = some (.bool (M.NL k)) ∧ w'.cell? ⟨b', o' + 4, none⟩ = some (.bool (M.GV k)))
theorem eqmk_go {w w1 w2 : World} {b o b' o' : Nat} {M : Mk} {k : Nat} (x : EQMk w w1 b o b' o' M k) (h : Below w1.heap.size w1 w2) : EQMk w w2 b o b' o' M k := by
  obtain ⟨hb, ⟨hA, hC⟩, ⟨h0, h1, h2, h3, h4⟩, ⟨g0, g1, g2, g3, g4⟩⟩ := x
  have hh := h.mono hb.size
  exact ⟨hb.trans hh, ⟨hA, hC⟩, ⟨(hh.cell (p := ⟨b, o, none⟩) hA).trans h0, (hh.cell (p := ⟨b, o + 1, none⟩) hA).trans h1, (hh.cell (p := ⟨b, o + 2, none⟩) hA).trans h2, (hh.cell (p := ⟨b, o + 3, none⟩) hA).trans h3, (hh.cell (p := ⟨b, o + 4, none⟩) hA).trans h4⟩, ⟨(hh.cell (p := ⟨b', o', none⟩) hC).trans g0, (hh.cell (p := ⟨b', o' + 1, none⟩) hC).trans g1, (hh.cell (p := ⟨b', o' + 2, none⟩) hC).trans g2, (hh.cell (p := ⟨b', o' + 3, none⟩) hC).trans g3, (hh.cell (p := ⟨b', o' + 4, none⟩) hC).trans g4⟩⟩
theorem eqmk_drew {w w1 : World} {b o b' o' : Nat} {M : Mk} {k : Nat} (x : EQMk w w1 b o b' o' M k) : EQMk w w1.drew b o b' o' M k := eqmk_go x ⟨rfl, rfl, rfl, Nat.le_refl _, fun _ _ => rfl⟩
theorem eqmk_all {w w1 : World} {b o b' o' : Nat} {M : Mk} {k : Nat} (x : EQMk w w1 b o b' o' M k) : EQMk w w1 b o b' o' M k ∧ (w1.cell? ⟨b, o, none⟩ = some (.bool (M.G k)) ∧ w1.cell? ⟨b, o + 1, none⟩ = some (.int .i64 (M.DC k)) ∧ w1.cell? ⟨b, o + 2, none⟩ = some (.string (M.VL k)) ∧ w1.cell? ⟨b, o + 3, none⟩ = some (.bool (M.NL k)) ∧ w1.cell? ⟨b, o + 4, none⟩ = some (.bool (M.GV k))) ∧ (w1.cell? ⟨b', o', none⟩ = some (.bool (M.G k)) ∧ w1.cell? ⟨b', o' + 1, none⟩ = some (.int .i64 (M.DC k)) ∧ w1.cell? ⟨b', o' + 2, none⟩ = some (.string (M.VL k)) ∧ w1.cell? ⟨b', o' + 3, none⟩ = some (.bool (M.NL k)) ∧ w1.cell? ⟨b', o' + 4, none⟩ = some (.bool (M.GV k))) := ⟨x, x.2.2.1, x.2.2.2⟩
set_option maxRecDepth 100000 in
set_option maxHeartbeats 4000000 in
theorem l_eqMks (M : Mk) (n : Nat) (a1 a2 : Option Addr) (c1 c2 : Nat) (w : World) (hM : M.n = n) (hn : n ≤ 1048576) (h1 : MkAt w a1 M w.heap.size) (h2 : MkAt w a2 M w.heap.size) :
    Calls Tryd.prog 6 #[.slice a1 n c1, .slice a2 n c2] w fun e w' => e = .returned (.bool true) ∧ Below w.heap.size w w' := by
  have HM := hide hM
  have H1 := hide h1
  have H2 := hide h2
  clear h1 h2 hM
  go_enter Tryd.func6, Tryd.ntmps6
  go_wp2
  go_loopw [5] (fun i wr => ∃ k : Nat, k ≤ n ∧ i = .int .i64 k ∧ Below w.heap.size w wr) (fun i _ => n - (intOf i).toNat)
  case atStart => exact ⟨0, Nat.zero_le _, rfl, Below.refl _ _⟩
  case round =>
    obtain ⟨k, hk, rfl, hb⟩ := hrel
    by_cases hlt : k < n
    · obtain ⟨b, off, rfl, hbs, hc⟩ := H1.out (by rw [HM.out]; omega)
      obtain ⟨b', off', rfl, hbs', hc'⟩ := H2.out (by rw [HM.out]; omega)
      obtain ⟨h0, h1, h2, h3, h4⟩ := hc k (by rw [HM.out]; omega)
      obtain ⟨g0, g1, g2, g3, g4⟩ := hc' k (by rw [HM.out]; omega)
      have X : Hid (EQMk w wr b (off + k * 5) b' (off' + k * 5) M k) := ⟨hb, ⟨hbs, hbs'⟩, ⟨(hb.cell (p := ⟨b, off + k * 5, none⟩) hbs).trans h0, (hb.cell (p := ⟨b, off + k * 5 + 1, none⟩) hbs).trans h1, (hb.cell (p := ⟨b, off + k * 5 + 2, none⟩) hbs).trans h2, (hb.cell (p := ⟨b, off + k * 5 + 3, none⟩) hbs).trans h3, (hb.cell (p := ⟨b, off + k * 5 + 4, none⟩) hbs).trans h4⟩, ⟨(hb.cell (p := ⟨b', off' + k * 5, none⟩) hbs').trans g0, (hb.cell (p := ⟨b', off' + k * 5 + 1, none⟩) hbs').trans g1, (hb.cell (p := ⟨b', off' + k * 5 + 2, none⟩) hbs').trans g2, (hb.cell (p := ⟨b', off' + k * 5 + 3, none⟩) hbs').trans g3, (hb.cell (p := ⟨b', off' + k * 5 + 4, none⟩) hbs').trans g4⟩⟩
      have hi : (k : Int) < (n : Int) := by omega
      have hi0 : (0 : Int) ≤ (k : Int) := by omega
      clear hc hc' hb h0 h1 h2 h3 h4 g0 g1 g2 g3 g4
      go_wp2
      go_region_held3 (fun w' => EQMk w w' b (off + k * 5) b' (off' + k * 5) M k ∧ (w'.cell? ⟨b, off + k * 5, none⟩ = some (.bool (M.G k)) ∧ w'.cell? ⟨b, off + k * 5 + 1, none⟩ = some (.int .i64 (M.DC k)) ∧ w'.cell? ⟨b, off + k * 5 + 2, none⟩ = some (.string (M.VL k)) ∧ w'.cell? ⟨b, off + k * 5 + 3, none⟩ = some (.bool (M.NL k)) ∧ w'.cell? ⟨b, off + k * 5 + 4, none⟩ = some (.bool (M.GV k))) ∧ (w'.cell? ⟨b', off' + k * 5, none⟩ = some (.bool (M.G k)) ∧ w'.cell? ⟨b', off' + k * 5 + 1, none⟩ = some (.int .i64 (M.DC k)) ∧ w'.cell? ⟨b', off' + k * 5 + 2, none⟩ = some (.string (M.VL k)) ∧ w'.cell? ⟨b', off' + k * 5 + 3, none⟩ = some (.bool (M.NL k)) ∧ w'.cell? ⟨b', off' + k * 5 + 4, none⟩ = some (.bool (M.GV k)))) (first | assumption | exact eqmk_all (eqmk_drew X.out) | exact eqmk_all X.out) (first | (go_at_call 15; refine (l_eqMk _ _ _ _ _ _).mono ?_; rintro e w2 ⟨rfl, hb2⟩; have X2 := hide (eqmk_go (eqmk_drew X.out) hb2); replace X := X2; clear X2 hb2))
      all_goals
        go_wp2
        go_roundw
        case rel => exact ⟨k + 1, by omega, by go_num, X.out.1⟩
        case measure => simp [intOf]; omega
    · go_wp2
      go_ret
      exact ⟨rfl, hb⟩
end Go.Proofs.YtdbipaobanjbbaaDoor
