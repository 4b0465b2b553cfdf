/-
  Contracts of the laws' helpers on rows of names: that two that are alike are told so, marks on all places, and whether they are still there; a name among others.
-/
import Derived.Test.YtogeicckbdfldaaDoorDocAt
import Derived.Test.YtogeicckbdfldaaDoorGen
import Derived.Test.YtogeicckbdfldaaDoorChgMath
namespace Go.Proofs.YtogeicckbdfldaaDoor
open Go.RowKit Go.Joins
set_option linter.unusedVariables false
set_option linter.unusedSimpArgs false
/-- A row of pairs of texts that the call owns. -/
def OwnQ (B : Nat) (w : World) (ad : Option Addr) (m c : Nat) (N V : Nat → ByteArray) : Prop := ∃ xs, w.ownsRow B 41 2 (.slice ad m c) m xs ∧ PairsS xs m N V
section
variable {B m c : Nat} {w w' : World} {ad : Option Addr} {N V : Nat → ByteArray}
theorem ownQ_at (h : OwnQ B w ad m c N V) : AtAt w ad m N V w.heap.size := fun h0 => by
  obtain ⟨xs, h, hp⟩ := h
  rcases h.2 with ⟨hv, h9⟩ | ⟨g, cap, cur, hv, hB, hg, rest⟩
  · omega
  · simp only [Value.slice.injEq] at hv
    obtain ⟨rfl, _, rfl⟩ := hv
    refine ⟨g, 0, rfl, (h.lt g rfl).2, fun j hj => ⟨?_, ?_⟩⟩
    · rw [Nat.zero_add, h.cellAt (j * 2) (by omega)]; exact (hp j hj).1
    · rw [Nat.zero_add, h.cellAt (j * 2 + 1) (by omega)]; exact (hp j hj).2
theorem ownQ_go (h : OwnQ B w ad m c N V) (hb : Below w.heap.size w w') : OwnQ B w' ad m c N V := by
  obtain ⟨xs, h, hp⟩ := h
  exact ⟨xs, gOwn_after h hb, hp⟩
theorem ownQ_lt (h : OwnQ B w ad m c N V) : ∀ k, (Value.slice ad m c).ownBlock = some k → B ≤ k ∧ k < w.heap.size := by
  obtain ⟨xs, h, hp⟩ := h
  exact h.lt
theorem ownQ_lower {B' : Nat} (h : OwnQ B w ad m c N V) (hB : B' ≤ B) : OwnQ B' w ad m c N V := by
  obtain ⟨xs, h, hp⟩ := h
  exact ⟨xs, gOwn_lower h hB, hp⟩
theorem ownQ_none (B : Nat) (w : World) (N V : Nat → ByteArray) : OwnQ B w none 0 0 N V := ⟨[], ⟨rfl, .inl ⟨rfl, rfl⟩⟩, fun j h => by omega⟩
theorem ownQ_stays {X : Nat} (h : OwnQ B w ad m c N V) (hb : Below X w w') (hX : ∀ k, (Value.slice ad m c).ownBlock = some k → k < X) : OwnQ B w' ad m c N V := by
  obtain ⟨xs, h, hp⟩ := h
  refine ⟨xs, ⟨h.1, ?_⟩, hp⟩
  rcases h.2 with hn | ⟨g, cap, cur, hv, hB, hg, rest⟩
  · exact .inl hn
  · refine .inr ⟨g, cap, cur, hv, hB, ?_, rest⟩
    rw [hb.block g (hX g (by rw [hv]; rfl))]; exact hg
theorem ownQ_chg {lo hi : Nat} (h : OwnQ B w ad m c N V) (k : Chg lo hi w w') (hX : ∀ j, (Value.slice ad m c).ownBlock = some j → j < lo ∨ hi ≤ j) : OwnQ B w' ad m c N V := by
  obtain ⟨xs, h, hp⟩ := h
  refine ⟨xs, ⟨h.1, ?_⟩, hp⟩
  rcases h.2 with hn | ⟨g, cap, cur, hv, hB, hg, rest⟩
  · exact .inl hn
  · refine .inr ⟨g, cap, cur, hv, hB, ?_, rest⟩
    rw [k.block g (Array.getElem?_eq_some_iff.1 hg).1 (hX g (by rw [hv]; rfl))]; exact hg
end
/-- The digits of a number. -/
def mtT (x : Nat) : ByteArray := if h : 0 < x then mtT (x / 10) ++ strOfNums [48 + (x : Int) % 10] else ⟨#[]⟩
termination_by x
theorem mtT_pos {x : Nat} (h : 0 < x) : mtT x = mtT (x / 10) ++ strOfNums [48 + (x : Int) % 10] := by rw [mtT, dif_pos h]
theorem mtT_zero : mtT 0 = ⟨#[]⟩ := by rw [mtT, dif_neg (by omega)]
def mkT (k : Nat) : ByteArray := ⟨#[109]⟩ ++ mtT k
def mkN (k : Nat) (j : Nat) : ByteArray := mkT (k + 2 * j)
def mkV (k : Nat) (j : Nat) : ByteArray := mkT (k + 2 * j + 1)
/-- While a place is held against its mark. -/
def HQ (w w' : World) (p : Addr) (x : ByteArray) : Prop := Below w.heap.size w w' ∧ p.block < w.heap.size ∧ w'.cell? p = some (.string x)
theorem hq_go {w w1 w2 : World} {p : Addr} {x : ByteArray} (h : HQ w w1 p x) (k : Below w1.heap.size w1 w2) : HQ w w2 p x :=
  ⟨h.1.trans (k.mono h.1.size), h.2.1, (k.cell (p := p) (Nat.lt_of_lt_of_le h.2.1 h.1.size)).trans h.2.2⟩
theorem hq_drew {w w1 : World} {p : Addr} {x : ByteArray} (h : HQ w w1 p x) : HQ w w1.drew p x := hq_go h ⟨rfl, rfl, rfl, Nat.le_refl _, fun _ _ => rfl⟩
theorem hq_all {w w1 : World} {p : Addr} {x : ByteArray} (h : HQ w w1 p x) : HQ w w1 p x ∧ w1.cell? p = some (.string x) := ⟨h, h.2.2⟩
theorem below_dq {b : Nat} {w w1 : World} (h : Below b w w1) : Below b w w1.drew := ⟨h.os, h.tape, h.output, h.size, h.block⟩
/-- A pair of texts among those of a row. -/
def anyQ (m : Nat) (N V : Nat → ByteArray) (x y : ByteArray) : Bool := (List.range m).any fun k => sameS x (N k) && sameS y (V k)
theorem anyQ_hit {m k : Nat} {N V : Nat → ByteArray} {x y : ByteArray} (hk : k < m) (h : (sameS x (N k) && sameS y (V k)) = true) : anyQ m N V x y = true := by
  unfold anyQ
  rw [List.any_eq_true]
  exact ⟨k, by simpa using hk, h⟩
theorem anyQ_no {m : Nat} {N V : Nat → ByteArray} {x y : ByteArray} (h : ∀ k, k < m → (sameS x (N k) && sameS y (V k)) = false) : anyQ m N V x y = false := by
  unfold anyQ
  rw [List.any_eq_false]
  intro k hk
  have := h k (by simpa using hk)
  rw [this]
  decide
set_option maxHeartbeats 2000000 in
theorem i_indexQ (a : Option Addr) (n c : Nat) (N V : Nat → ByteArray) (x y : ByteArray) (w : World) (hn : n ≤ 1048576) (hr : AtAt w a n N V w.heap.size) :
    Calls Tryd.prog 75 #[.slice a n c, .agg #[.string x, .string y]] w fun e w' => ∃ z : Int, e = .returned (.int .i64 z) ∧ decide (0 ≤ z) = anyQ n N V x y ∧ Below w.heap.size w w' := by
  have HR := hide hr
  clear hr
  go_enter Tryd.func75, Tryd.ntmps75
  go_wp2
  go_loopw [8] (fun i wr => ∃ k : Nat, k ≤ n ∧ i = .int .i64 k ∧ Hid (Below (w.heap.size + 1) (w.alloc (.cells #[.string x, .string y] 41)) wr) ∧ Hid (∀ j, j < k → (sameS x (N j) && sameS y (V j)) = false)) (fun i _ => n - (intOf i).toNat)
  case atStart => exact ⟨0, Nat.zero_le _, rfl, hide (Below.refl _ _), fun j h => by omega⟩
  case round =>
    obtain ⟨k, hk, rfl, HB, HM⟩ := hrel
    have HBw := hide (((Below.refl w.heap.size w).alloc (Nat.le_refl _) _).trans (HB.out.mono (Nat.le_succ _)))
    by_cases hlt : k < n
    · obtain ⟨b, off, rfl, hbs, hc⟩ := HR.out (by omega)
      have c0 : wr.cell? ⟨b, off + k * 2, none⟩ = some (.string (N k)) := (HBw.out.cell hbs).trans (hc k hlt).1
      have c1 : wr.cell? ⟨b, off + k * 2 + 1, none⟩ = some (.string (V k)) := (HBw.out.cell hbs).trans (hc k hlt).2
      have hx := cellsAt_go (cellsAt_new w #[.string x, .string y] 41) HB.out (by omega)
      have x0 : wr.cell? ⟨w.heap.size, 0, none⟩ = some (.string x) := cellsAt_cell hx 0
      have x1 : wr.cell? ⟨w.heap.size, 1, none⟩ = some (.string y) := cellsAt_cell hx 1
      have hi : (k : Int) < (n : Int) := by omega
      have hi0 : (0 : Int) ≤ (k : Int) := by omega
      clear hc hx
      by_cases e1 : x.toList = (N k).toList
      · by_cases e2 : y.toList = (V k).toList
        · have HA := hide (anyQ_hit (m := n) (k := k) (N := N) (V := V) (x := x) (y := y) hlt (by unfold sameS; rw [e1, e2]; simp))
          go_wp2
          go_region
          go_wp2
          go_ret
          exact ⟨k, rfl, by rw [HA.out]; simp, below_dq HBw.out⟩
        · have HE : Hid ((sameS x (N k) && sameS y (V k)) = false) := hide (by unfold sameS; rw [beq_eq_false_iff_ne.2 e2]; simp)
          go_wp2
          go_region
          go_wp2
          go_roundw
          case rel =>
            refine ⟨k + 1, by omega, by go_num, hide (below_dq HB.out), fun j hj => ?_⟩
            by_cases e : j = k
            · subst e; exact HE.out
            · exact HM.out j (by omega)
          case measure => simp [intOf]; omega
      · have HE : Hid ((sameS x (N k) && sameS y (V k)) = false) := hide (by unfold sameS; rw [beq_eq_false_iff_ne.2 e1]; simp)
        go_wp2
        go_region
        go_wp2
        go_roundw
        case rel =>
          refine ⟨k + 1, by omega, by go_num, hide (below_dq HB.out), fun j hj => ?_⟩
          by_cases e : j = k
          · subst e; exact HE.out
          · exact HM.out j (by omega)
        case measure => simp [intOf]; omega
    · have hkn : k = n := by omega
      subst hkn
      go_wp2
      go_ret
      exact ⟨-1, rfl, by rw [anyQ_no HM.out]; rfl, HBw.out⟩
set_option maxHeartbeats 1000000 in
theorem i_hasQ (a : Option Addr) (n c : Nat) (N V : Nat → ByteArray) (x y : ByteArray) (w : World) (hn : n ≤ 1048576) (hr : AtAt w a n N V w.heap.size) :
    Calls Tryd.prog 63 #[.slice a n c, .agg #[.string x, .string y]] w fun e w' => e = .returned (.bool (anyQ n N V x y)) ∧ Below w.heap.size w w' := by
  have C := hide (i_indexQ a n c N V x y _ hn (atAt_up (atAt_go hr ((Below.refl _ _).alloc (Nat.le_refl _) (.cells #[.string x, .string y] 41))) (by simp)))
  clear hr
  go_enter Tryd.func63, Tryd.ntmps63
  go_wp2_with fail
  refine C.out.mono ?_
  rintro e w2 ⟨z, rfl, hz, hb⟩
  have HZ := hide hz
  have HB := hide (gBox_below hb)
  clear hz hb
  go_wp2
  go_ret
  exact ⟨ret_bool HZ.out, HB.out⟩
end Go.Proofs.YtogeicckbdfldaaDoor
