/-
  What the law over Runes wants besides: rows that stay, a mark on an empty row, how many characters a text has at most.
-/
import Derived.Test.YtbijilnbbbicmaaDoorRunes
namespace Go.Proofs.YtbijilnbbbicmaaDoor
open Go.RowKit
set_option linter.unusedVariables false
set_option linter.unusedSimpArgs false
theorem runesL_len : ∀ (f : Nat) (l : List UInt8), l.length ≤ f → ∀ x, runesL l = some x → x.length ≤ l.length
  | 0, l, hf, x, hx => by
    have : l = [] := List.length_eq_zero_iff.1 (by omega)
    subst this
    rw [runesL_nil] at hx
    cases hx
    exact Nat.le_refl _
  | f + 1, l, hf, x, hx => by
    by_cases h : l = []
    · subst h
      rw [runesL_nil] at hx
      cases hx
      exact Nat.le_refl _
    · by_cases hb : Lib.decodeL l = (65533, 1)
      · rw [runesL_bad h hb] at hx; cases hx
      · have hl : 0 < l.length := List.length_pos_iff.2 h
        have hw := Lib.decodeL_width l
        rw [runesL_step h hb] at hx
        cases hy : runesL (l.drop (Lib.decodeL l).2) with
        | none => rw [hy] at hx; cases hx
        | some y =>
          rw [hy] at hx
          simp at hx
          subst hx
          have := runesL_len f (l.drop (Lib.decodeL l).2) (by rw [List.length_drop]; omega) y hy
          rw [List.length_drop] at this
          simp
          omega
theorem outL_len (s : ByteArray) : (outL (rns s)).length ≤ 20000 := by
  unfold rns
  by_cases h : s.size ≤ 20000
  · rw [if_pos h]
    cases hx : runesL s.data.toList with
    | none => simp [outL]
    | some x =>
      have := runesL_len s.data.toList.length s.data.toList (Nat.le_refl _) x hx
      have e : s.data.toList.length = s.size := Array.length_toList
      rw [e] at this
      show x.length ≤ 20000
      omega
  · rw [if_neg h]; simp [outL]
theorem s_runes_lb (s : ByteArray) (L : List Int) (b : Bool) (w : World) (hs : s.size ≤ 1048576) (hL : outL (rns s) = L) (hb : (rns s).isSome = b) :
    Calls Tryd.prog 10 #[.string s] w fun e w' => ∃ ad c, e = .returned (.tuple #[.slice ad L.length c, .bool b]) ∧ w'.ownsRow w.heap.size 2 1 (.slice ad L.length c) L.length (L.map (Value.int .i64)) ∧ Below w.heap.size w w' := by
  subst hL; subst hb; exact s_runes s w hs
theorem i_runes_lb (s : ByteArray) (L : List Int) (b : Bool) (w : World) (hs : s.size ≤ 1048576) (hT : Tabs w) (hL : outL (rns s) = L) (hb : (rns s).isSome = b) :
    Calls Tryd.prog 30 #[.string s] w fun e w' => ∃ ad c, e = .returned (.tuple #[.slice ad L.length c, .bool b]) ∧ w'.ownsRow w.heap.size 2 1 (.slice ad L.length c) L.length (L.map (Value.int .i64)) ∧ Below w.heap.size w w' := by
  subst hL; subst hb; exact i_runes s w hs hT
theorem own_stays {w w' : World} {B X : Nat} {e : TypeId} {v : Value} {n : Nat} {xs : List Value} (h : w.ownsRow B e 1 v n xs) (hb : Below X w w') (hX : ∀ k, v.ownBlock = some k → k < X) : w'.ownsRow B e 1 v n xs := by
  refine ⟨h.1, ?_⟩
  rcases h.2 with hn | ⟨g, cap, cur, hv, hB, hg, rest⟩
  · exact .inl hn
  · refine .inr ⟨g, cap, cur, hv, hB, ?_, rest⟩
    rw [hb.block g (hX g (by rw [hv]; rfl))]; exact hg
theorem own_rowAt' {w : World} {B n c : Nat} {ad : Option Addr} {e : TypeId} {xs : List Int} (hx : xs.length = n) (h : w.ownsRow B e 1 (.slice ad n c) n (xs.map (Value.int .i64))) : RowAt .i64 w ad xs w.heap.size := by
  intro hne
  rcases h.2 with ⟨hv, h0⟩ | ⟨g, cap, cur, hv, hB, hg, rest⟩
  · exact absurd (List.length_eq_zero_iff.1 (by omega)) hne
  · simp only [Value.slice.injEq] at hv
    obtain ⟨rfl, _, rfl⟩ := hv
    refine ⟨g, 0, rfl, (h.lt g rfl).2, fun j hj => ?_⟩
    rw [Nat.zero_add, h.cellAt j (by omega)]
    simp [List.getElem?_eq_getElem hj]
theorem own_below' {w w' : World} {B : Nat} {e : TypeId} {v : Value} {n : Nat} {xs : List Value} (h : w.ownsRow B e 1 v n xs) (hb : Below w.heap.size w w') : w'.ownsRow B e 1 v n xs :=
  own_stays h hb (fun k hk => (h.lt k hk).2)
theorem tabs_below {w w' : World} (h : Tabs w) (hb : Below w.heap.size w w') : Tabs w' := by
  refine ⟨fun c hc => ?_, fun i hi => ⟨?_, ?_⟩⟩
  · exact (hb.cell (p := ⟨_, c, none⟩) (World.block_lt_of_cell? w _ (h.1 c hc))).trans (h.1 c hc)
  · exact (hb.cell (p := ⟨_, 2 * i, none⟩) (World.block_lt_of_cell? w _ (h.2 i hi).1)).trans (h.2 i hi).1
  · exact (hb.cell (p := ⟨_, 2 * i + 1, none⟩) (World.block_lt_of_cell? w _ (h.2 i hi).2)).trans (h.2 i hi).2
end Go.Proofs.YtbijilnbbbicmaaDoor
