/-
  Contracts: sets told by bits (the program's).
-/
import Derived.Test.YtfohfljdgmlibaaDoorBtMath
import Derived.Test.YtfohfljdgmlibaaDoorShelf
import Derived.Test.YtfohfljdgmlibaaDoorGen
import Derived.Test.YtfohfljdgmlibaaDoorInts
import Derived.Laws.Bits64b
namespace Go.Proofs.YtfohfljdgmlibaaDoor
open Go.RowKit
set_option linter.unusedVariables false
set_option linter.unusedSimpArgs false
/-- A row of numbers in memory of one's own. -/
def IntR (B : Nat) (w : World) (ad : Option Addr) (c : Nat) (L : List Int) : Prop := w.ownsRow B 2 1 (.slice ad L.length c) L.length (L.map (Value.int .i64))
theorem gOne_list (k : IntKind) (z : Int) : ∀ u ∈ [Value.int k z], u.oneCell' = true := by
  intro u hu
  simp at hu
  subst hu
  rfl
theorem intR_nil (B : Nat) (w : World) : IntR B w none 0 [] := ⟨rfl, .inl ⟨rfl, rfl⟩⟩
theorem intR_put {B : Nat} {w2 : World} {ad : Option Addr} {c : Nat} {L : List Int} {z : Int} (h : w2.ownsRow B 2 1 (.slice ad (L.length + 1) c) (L.length + 1) (L.map (Value.int .i64) ++ [.int .i64 z])) : IntR B w2 ad c (L ++ [z]) := by
  unfold IntR
  rw [List.length_append, List.length_singleton, List.map_append]
  exact h
/-- The library's table stands. -/
def TzT (w : World) : Prop := TabAt 0 Lib.deBruijn64tab w
theorem tzT_go {w w' : World} {B : Nat} (h : TzT w) (hb : Below B w w') (hB : w.heap.size ≤ B) : TzT w' := fun j hj => (hb.cell (p := ⟨0, j, none⟩) (Nat.lt_of_lt_of_le (World.block_lt_of_cell? _ _ (h j hj)) hB)).trans (h j hj)
theorem i_only (n : Nat) (w : World) (hn : n ≤ 40) : Calls Tryd.prog 35 #[.int .i64 n] w fun e w' => e = .returned (.int .u64 ((2 ^ n : Nat) : Int)) ∧ w' = w := by
  have hs : IntKind.u64.wrap ((2 : Int) ^ n) = ((2 ^ n : Nat) : Int) := by
    have : (2 ^ n : Nat) ≤ 2 ^ 40 := Nat.pow_le_pow_right (by decide) hn
    have e : ((2 : Int) ^ n) = ((2 ^ n : Nat) : Int) := by rw [Int.natCast_pow]; rfl
    rw [e, IntKind.wrap_u64]
    obtain ⟨q, hq⟩ : ∃ q, (2 ^ n : Nat) = q := ⟨_, rfl⟩
    rw [hq] at this ⊢
    have h40 : (2 ^ 40 : Nat) = 1099511627776 := by decide
    omega
  have hn0 : (0 : Int) ≤ (n : Int) := by omega
  go_enter Tryd.func35, Tryd.ntmps35
  go_wp2
  go_ret
  exact ⟨rfl, rfl⟩
set_option maxRecDepth 100000 in
set_option maxHeartbeats 2000000 in
theorem i_list (x : Nat) (w : World) (hx : x < 18446744073709551616) (hT : TzT w) :
    Calls Tryd.prog 43 #[.int .u64 x] w fun e w' => ∃ ad c, e = .returned (.slice ad (bts x).length c) ∧ IntR w.heap.size w' ad c (bts x) ∧ Below w.heap.size w w' := by
  obtain ⟨i0, hi, hz0, hz1, hz2⟩ := info_parts info64
  have HT := hide hT
  have hxl := bts_len hx
  clear hT
  go_enter Tryd.func43, Tryd.ntmps43
  go_wp2
  go_loopw [3, 4] (fun lv rv wr => ∃ (r : Nat) (L : List Int) (ad : Option Addr) (c : Nat), r ≤ x ∧ rv = .int .u64 r ∧ lv = .slice ad L.length c ∧ IntR w.heap.size wr ad c L ∧ Below w.heap.size w wr ∧ Hid (L ++ bts r = bts x)) (fun _ rv _ => (intOf rv).toNat)
  case atStart => exact ⟨x, [], none, 0, Nat.le_refl _, rfl, rfl, intR_nil _ _, Below.refl _ _, hide rfl⟩
  case round =>
    obtain ⟨r, L, ad, c, hr, rfl, rfl, ho, hb, HE⟩ := hrel
    have HO := hide ho
    have HB := hide hb
    have hsz : w.heap.size ≤ wr.heap.size := hb.size
    have hLl : L.length ≤ 64 := by have := congrArg List.length HE.out; rw [List.length_append] at this; omega
    by_cases h0 : r = 0
    · subst h0
      have e : L = bts x := by have := HE.out; rw [bts_zero, List.append_nil] at this; exact this
      subst e
      clear ho hb
      go_wp2
      go_ret
      exact ⟨ad, c, rfl, HO.out, HB.out⟩
    · have hne : ((r : Int) == 0) = false := by rw [beq_eq_false_iff_ne]; omega
      have HST := hide (bts_step h0)
      have hcl := cut_lt h0
      have CT := hide (Any7.bits_TrailingZeros64 Tryd.lays29 r (by omega) wr (fun _ => tzT_go HT.out HB.out (Nat.le_refl _)))
      have hra : bits .and .u64 (r : Int) ((r : Int) - 1) = (cutB r : Int) := by rw [show (r : Int) - 1 = ((r - 1 : Nat) : Int) by omega, bits_and_u64_nat r (r - 1) (by omega) (by omega)]; rfl
      have hrw : IntKind.u64.wrap ((r : Int) - 1) = (r : Int) - 1 := by rw [IntKind.wrap_u64]; omega
      clear ho hb
      obtain ⟨z, hz⟩ : ∃ z, (Lib.ctz 64 r : Int) = z := ⟨_, rfl⟩
      rw [hz] at HST CT
      clear hz
      go_wp2_with (first
        | (go_at_call 76; refine CT.out.mono ?_; rintro e w9 ⟨rfl, h9⟩; rw [h9]; clear h9 w9)
        | (at_builtin; refine wpList_append_own _ rfl (.tmp 12) (.tmp 15) 30 rfl w.heap.size 2 i0 (.int .i64 0) 1 8 Tryd.underlying30 hi hz0 hz1 hz2 rfl (by decide) (.slice ad L.length c) L.length (L.map (Value.int .i64)) rfl (HO.out.alloc _) ⟨wr.heap.size, 0, none⟩ 1 1 [.int .i64 z] rfl rfl (fun j u hj => gOne_new wr _ _ j u hj) (gOne_list _ _) (by unfold maxLen; omega) (by omega) (by simp; omega) ?_; intro v2 w2 hown2 hgrow2 _; obtain ⟨ad2, c2', hv2⟩ := gOwn_shape hown2; rw [hv2] at hown2 ⊢; clear hv2; have HB3 := hide (gBelow_one HB.out HO.out hgrow2); have HO2 := hide hown2; clear hown2 hgrow2))
      go_roundw
      case rel => exact ⟨cutB r, L ++ [z], ad2, c2', by omega, by go_num, by rw [List.length_append, List.length_singleton], intR_put HO2.out, HB3.out, hide (by rw [List.append_assoc, List.singleton_append, ← HST.out]; exact HE.out)⟩
      case measure => simp [intOf]; omega
end Go.Proofs.YtfohfljdgmlibaaDoor
