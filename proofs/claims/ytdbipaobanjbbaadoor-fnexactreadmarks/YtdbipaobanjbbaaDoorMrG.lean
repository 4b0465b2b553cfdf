/-
  Contract: strconv.ParseInt at every text; what the program's parts of a line are.
-/
import Derived.Test.YtdbipaobanjbbaaDoorMrF
import Derived.Test.YtdbipaobanjbbaaDoorMkI
import Derived.Test.YtdbipaobanjbbaaDoorUnW
import Derived.Lib.AtoiErrMem
namespace Go.Proofs.YtdbipaobanjbbaaDoor
open Go.RowKit Go.Joins
set_option linter.unusedVariables false
set_option linter.unusedSimpArgs false
def IsEv (v : Value) : Prop := v = .nilIface ∨ ∃ te pe, v = .iface te pe
/-- Go's two variables of errors of numbers hold something. -/
def ErrV (w : World) : Prop := (∃ ev, w.cell? ⟨1, 0, none⟩ = some ev ∧ IsEv ev) ∧ ∃ ev, w.cell? ⟨2, 0, none⟩ = some ev ∧ IsEv ev
theorem errV_go {w w' : World} {B : Nat} (h : ErrV w) (hb : Below B w w') (hB : w.heap.size ≤ B) : ErrV w' := by
  obtain ⟨⟨e1, h1, h2⟩, e3, h3, h4⟩ := h
  exact ⟨⟨e1, (hb.cell (Nat.lt_of_lt_of_le (World.block_lt_of_cell? _ _ h1) hB)).trans h1, h2⟩, e3, (hb.cell (Nat.lt_of_lt_of_le (World.block_lt_of_cell? _ _ h3) hB)).trans h3, h4⟩
/-- What ParseInt answers. -/
def PiAns (s : ByteArray) (w : World) (e : Ending) (w' : World) : Prop := Below w.heap.size w w' ∧ ((∃ v, Lib.parseIntB 64 s.data.toList = .ok v ∧ e = .returned (.tuple #[.int .i64 v, .nilIface])) ∨
  (∃ v t p, (∀ u, Lib.parseIntB 64 s.data.toList ≠ .ok u) ∧ e = .returned (.tuple #[.int .i64 v, .iface t p])))
theorem i_parse (s : ByteArray) (w : World) (hs : s.size ≤ 1048576) (hE : ErrV w) : Calls Tryd.prog 31 #[.string s, .int .i64 10, .int .i64 64] w (PiAns s w) := by
  obtain ⟨⟨e1, h1, h2⟩, e3, h3, h4⟩ := hE
  cases h : Lib.parseIntB 64 s.data.toList with
  | ok v =>
    refine (Tryd.strconv_ParseInt_10_at64_ok s (by omega) v h w).mono ?_
    rintro e w' ⟨rfl, hw⟩
    refine ⟨?_, .inl ⟨v, h, rfl⟩⟩
    rcases hw with rfl | ⟨t, rfl⟩
    · exact Below.refl _ _
    · exact Lib.bytesWorld_below _ _ _
  | «syntax» =>
    refine (Tryd.strconv_ParseInt_10_at64_syntax s (by omega) h e1 w h1 h2).mono ?_
    rintro e w' ⟨N, rfl, -, -, hb⟩
    exact ⟨hb, .inr ⟨_, _, _, fun u e => (by rw [h] at e; cases e), rfl⟩⟩
  | range =>
    refine (Tryd.strconv_ParseInt_10_at64_range s (by omega) h e3 w h3 h4).mono ?_
    rintro e w' ⟨N, rfl, -, -, hb⟩
    exact ⟨hb, .inr ⟨_, _, _, fun u e => (by rw [h] at e; cases e), rfl⟩⟩
theorem parse_itoa {dc : Int} (h : -1 ≤ dc ∧ dc ≤ 30) : Lib.parseIntB 64 (Lib.itoa dc) = .ok dc := by
  by_cases e : dc = -1
  · subst e
    rw [itoa_m1]
    rfl
  · obtain ⟨u, hu, he, hf⟩ := form_of h e
    rw [hf, he]
    have H : ∀ u : Nat, u < 31 → Lib.parseIntB 64 (if u < 10 then [UInt8.ofNat (48 + u)] else [UInt8.ofNat (48 + u / 10), UInt8.ofNat (48 + u % 10)]) = .ok (u : Int) := by
      intro u hu
      revert u
      decide
    exact H u hu
/-- The letters of a line. -/
def ltR (m : Mr) : List UInt8 := [if m.g = true then 103 else 45, if m.nl = true then 110 else 45, if m.gv = true then 100 else 45]
theorem ln_trim (m : Mr) : Lib.trimSuffix (lnR m) [10] = bdR m := by
  unfold Lib.trimSuffix lnR
  rw [if_pos (by simp [Lib.hasSuffix])]
  simp
theorem bd_cut2 {m : Mr} : cut1 32 (bdR m) = (ltR m, Lib.itoa m.dc ++ 32 :: escL true m.vl.data.toList, true) := by
  rw [bd_eq]
  refine cut1_app 32 _ (ltR m) (fun b hb => ?_)
  unfold ltR at hb
  simp only [List.mem_cons, List.not_mem_nil, or_false] at hb
  rcases hb with rfl | rfl | rfl
  · split <;> decide
  · split <;> decide
  · split <;> decide
theorem bd_cut3 {m : Mr} (h : okR m = true) : cut1 32 (Lib.itoa m.dc ++ 32 :: escL true m.vl.data.toList) = (Lib.itoa m.dc, escL true m.vl.data.toList, true) := cut1_app 32 _ _ (fun b hb => (itoa_dig (okR_parts h).1 b hb).2)
theorem lt_has (m : Mr) : decide (0 ≤ Lib.indexByte (ltR m) 103) = m.g ∧ decide (0 ≤ Lib.indexByte (ltR m) 110) = m.nl ∧ decide (0 ≤ Lib.indexByte (ltR m) 100) = m.gv := by
  unfold ltR
  cases m.g <;> cases m.nl <;> cases m.gv <;> decide
/-- What readMark answers. -/
def RdmAns (l : ByteArray) (w : World) (e : Ending) (w' : World) : Prop := Below w.heap.size w w' ∧ ∃ (m : Mr) (b : Bool), e = .returned (.tuple #[.agg #[.bool m.g, .int .i64 m.dc, .string m.vl, .bool m.nl, .bool m.gv], .bool b]) ∧ (b = true → okR m = true ∧ lnR m = l.data.toList ∧ m.vl.size ≤ l.size) ∧ (b = false → ¬ ∃ m, okR m = true ∧ lnR m = l.data.toList)
theorem rdm_no {l : ByteArray} {w w' : World} (hb : Below w.heap.size w w') (h : ¬ ∃ m, okR m = true ∧ lnR m = l.data.toList) : RdmAns l w (.returned (.tuple #[.agg #[.bool false, .int .i64 0, .string ⟨#[]⟩, .bool false, .bool false], .bool false])) w' := ⟨hb, mr0, false, rfl, fun h => (by cases h), fun _ => h⟩
end Go.Proofs.YtdbipaobanjbbaaDoor
