/-
  Rows of marks that a call made; a text of right marks is that of no other ones.
-/
import Derived.Test.YtdbipaobanjbbaaDoorMrM
import Derived.Test.YtdbipaobanjbbaaDoorMkRw
namespace Go.Proofs.YtdbipaobanjbbaaDoor
open Go.RowKit Go.Joins
set_option linter.unusedVariables false
set_option linter.unusedSimpArgs false
def mrV (m : Mr) : List Value := [.bool m.g, .int .i64 m.dc, .string m.vl, .bool m.nl, .bool m.gv]
theorem mr_flat : ∀ (L : List Mr) (j i : Nat), i < 5 → j < L.length → (L.flatMap mrV)[j * 5 + i]? = (mrV (mrA L j))[i]?
  | [], j, i, hi, hj => by simp at hj
  | f :: L, 0, i, hi, hj => by
    rw [List.flatMap_cons, List.getElem?_append_left (by show 0 * 5 + i < 5; omega), Nat.zero_mul, Nat.zero_add]
    rfl
  | f :: L, j + 1, i, hi, hj => by
    have hl : (mrV f).length = 5 := rfl
    rw [List.flatMap_cons, List.getElem?_append_right (by omega), hl, show (j + 1) * 5 + i - 5 = j * 5 + i by omega, mr_flat L j i hi (by simpa using hj)]
    rfl
theorem mr_len : ∀ L : List Mr, (L.flatMap mrV).length = L.length * 5
  | [] => rfl
  | f :: L => by
    have hl : (mrV f).length = 5 := rfl
    rw [List.flatMap_cons, List.length_append, hl, mr_len L, List.length_cons]
    omega
/-- A row of marks that a call made. -/
def MrO (B : Nat) (w : World) (ad : Option Addr) (n c : Nat) (L : List Mr) : Prop := w.ownsRow B 29 5 (.slice ad n c) n (L.flatMap mrV) ∧ L.length = n
theorem mrO_go {B : Nat} {w w' : World} {ad : Option Addr} {n c : Nat} {L : List Mr} (h : MrO B w ad n c L) (hb : Below w.heap.size w w') : MrO B w' ad n c L := ⟨gOwn_after h.1 hb, h.2⟩
theorem mrO_at {B : Nat} {w : World} {ad : Option Addr} {n c : Nat} {L : List Mr} (h : MrO B w ad n c L) : MkAt w ad (mkOf L) w.heap.size := fun h0 => by
  have h0' : 0 < L.length := h0
  have hl := h.2
  rcases h.1.2 with ⟨-, hz⟩ | ⟨g, cap, cur, hv, hB, hh, -⟩
  · omega
  · simp only [Value.slice.injEq] at hv
    obtain ⟨rfl, -, rfl⟩ := hv
    refine ⟨g, 0, rfl, (Array.getElem?_eq_some_iff.1 hh).1, fun j hj => ?_⟩
    have hj' : j < L.length := hj
    have e : ∀ i, i < 5 → w.cell? ⟨g, 0 + j * 5 + i, none⟩ = (mrV (mrA L j))[i]? := fun i hi => by
      rw [Nat.zero_add, h.1.cellAt (j * 5 + i) (by omega)]
      exact mr_flat L j i hi hj'
    exact ⟨e 0 (by omega), e 1 (by omega), e 2 (by omega), e 3 (by omega), e 4 (by omega)⟩
theorem mrO_nil (B : Nat) (w : World) : MrO B w none 0 0 [] := ⟨⟨rfl, .inl ⟨rfl, rfl⟩⟩, rfl⟩
theorem mkTot_of (L : List Mr) : mkTot (mkOf L) = L.length + (L.map (fun m => m.vl.size)).sum := by
  unfold mkTot
  show L.length + sumN (mkSz (mkOf L)) L.length = _
  have H : ∀ k, k ≤ L.length → sumN (mkSz (mkOf L)) k = ((L.take k).map (fun m => m.vl.size)).sum := by
    intro k
    induction k with
    | zero => intro _; rfl
    | succ k ih =>
      intro h
      show sumN (mkSz (mkOf L)) k + mkSz (mkOf L) k = _
      rw [ih (by omega), List.take_succ_eq_append_getElem (by omega), List.map_append, List.sum_append]
      congr 1
      have e : mrA L k = L[k]'(by omega) := by unfold mrA; rw [List.getElem?_eq_getElem (by omega)]; rfl
      show (mrA L k).vl.size = _
      rw [e]
      simp
  rw [H L.length (Nat.le_refl _), List.take_length]
/-- How much marks hold. -/
def szL (L : List Mr) : Nat := L.length + (L.map (fun m => m.vl.size)).sum
theorem szL_snoc (L : List Mr) (m : Mr) : szL (L ++ [m]) = szL L + 1 + m.vl.size := by
  unfold szL
  simp
  omega
theorem szL_len (L : List Mr) : L.length ≤ szL L := by unfold szL; omega
theorem itoa_inj {a b : Int} (ha : -1 ≤ a ∧ a ≤ 30) (hb : -1 ≤ b ∧ b ≤ 30) (h : Lib.itoa a = Lib.itoa b) : a = b := by
  have H : ∀ u : Nat, u < 31 → ∀ v : Nat, v < 31 → (if u < 10 then [UInt8.ofNat (48 + u)] else [UInt8.ofNat (48 + u / 10), UInt8.ofNat (48 + u % 10)]) = (if v < 10 then [UInt8.ofNat (48 + v)] else [UInt8.ofNat (48 + v / 10), UInt8.ofNat (48 + v % 10)]) → u = v := by decide
  have H2 : ∀ u : Nat, u < 31 → (if u < 10 then [UInt8.ofNat (48 + u)] else [UInt8.ofNat (48 + u / 10), UInt8.ofNat (48 + u % 10)]) ≠ ([45, 49] : List UInt8) := by decide
  by_cases ea : a = -1
  · by_cases eb : b = -1
    · omega
    · subst ea
      have h1 := itoa_nat b.toNat (by omega)
      rw [show ((b.toNat : Nat) : Int) = b by omega] at h1
      rw [itoa_m1, h1] at h
      exact absurd h.symm (H2 b.toNat (by omega))
  · have h1 := itoa_nat a.toNat (by omega)
    rw [show ((a.toNat : Nat) : Int) = a by omega] at h1
    by_cases eb : b = -1
    · subst eb
      rw [itoa_m1, h1] at h
      exact absurd h (H2 a.toNat (by omega))
    · have h2 := itoa_nat b.toNat (by omega)
      rw [show ((b.toNat : Nat) : Int) = b by omega] at h2
      rw [h1, h2] at h
      have := H a.toNat (by omega) b.toNat (by omega) h
      omega
theorem bd_inj {a b : Mr} (ha : okR a = true) (hb : okR b = true) (h : bdR a = bdR b) : a = b := by
  have h1 : (bdR a).drop 4 = (bdR b).drop 4 := by rw [h]
  have h2 := bd_cut ha
  rw [h1, bd_cut hb] at h2
  simp only [Prod.mk.injEq, and_true] at h2
  obtain ⟨e1, e2⟩ := h2
  have e3 := itoa_inj (okR_parts hb).1 (okR_parts ha).1 e1
  have e4 := un_esc true a.vl.data.toList
  rw [← e2, un_esc true b.vl.data.toList] at e4
  have e5 : b.vl = a.vl := by
    simp only [Option.some.injEq] at e4
    have : b.vl.data = a.vl.data := Array.toList_inj.1 e4
    cases hA : a.vl
    cases hB : b.vl
    rw [hA, hB] at this
    simp at this
    rw [this]
  rw [bd_eq, bd_eq] at h
  simp only [List.cons.injEq] at h
  obtain ⟨c1, c2, c3, -, -⟩ := h
  have f : ∀ (x y : Bool) (c : UInt8), c ≠ 45 → (if x = true then c else 45) = (if y = true then c else 45) → x = y := by
    intro x y c hc he
    cases x <;> cases y <;> simp at he
    · rfl
    · exact absurd he.symm hc
    · exact absurd he hc
    · rfl
  obtain ⟨ag, adc, avl, anl, agv⟩ := a
  obtain ⟨bg, bdc, bvl, bnl, bgv⟩ := b
  dsimp only at *
  rw [f ag bg 103 (by decide) c1, f anl bnl 110 (by decide) c2, f agv bgv 100 (by decide) c3, e3, e5]
theorem tx_inj : ∀ (A B : List Mr), (∀ m ∈ A, okR m = true) → (∀ m ∈ B, okR m = true) → txR A = txR B → A = B
  | [], [], _, _, _ => rfl
  | [], b :: B, _, _, h => by rw [tx_nil, tx_cons] at h; simp [lnR] at h
  | a :: A, [], _, _, h => by rw [tx_nil, tx_cons] at h; simp [lnR] at h
  | a :: A, b :: B, ha, hb, h => by
    rw [tx_cons, tx_cons] at h
    unfold lnR at h
    rw [List.append_assoc, List.append_assoc] at h
    obtain ⟨h1, h2⟩ := first_end _ _ _ _ (bd_no10 (ha a (by simp))) (bd_no10 (hb b (by simp))) (by simpa using h)
    rw [bd_inj (ha a (by simp)) (hb b (by simp)) h1, tx_inj A B (fun m hm => ha m (by simp [hm])) (fun m hm => hb m (by simp [hm])) h2]
/-- What ReadMarks answers. -/
def RmkAns (s : ByteArray) (w : World) (e : Ending) (w' : World) : Prop := Below w.heap.size w w' ∧
  ((∃ L ad n c, OkL L ∧ txR L = s.data.toList ∧ e = .returned (.tuple #[.slice ad n c, .bool true]) ∧ MrO w.heap.size w' ad n c L) ∨
   ((¬ ∃ L, OkL L ∧ txR L = s.data.toList) ∧ e = .returned (.tuple #[.slice none 0 0, .bool false])))
theorem rmk_no {s : ByteArray} {w w' : World} (hb : Below w.heap.size w w') (h : ¬ ∃ L, OkL L ∧ txR L = s.data.toList) : RmkAns s w (.returned (.tuple #[.slice none 0 0, .bool false])) w' := ⟨hb, .inr ⟨h, rfl⟩⟩
end Go.Proofs.YtdbipaobanjbbaaDoor
