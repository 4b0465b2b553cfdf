/-
  Contracts of the draws of numbers: some number of at most 61 digits; nothing that was there is written.
-/
import Derived.Test.YtdglamiifcagoacDoorDrawText
import Derived.Test.YtdglamiifcagoacDoorReadS3
import Derived.Test.YtdglamiifcagoacDoorRoundText
namespace Go.Proofs.YtdglamiifcagoacDoor
open Go.RowKit
set_option linter.unusedVariables false
set_option linter.unusedSimpArgs false
theorem decRes_size (n : Bool) (v c : Nat) : (decRes n v c).2.1.size ≤ 60 := by
  unfold decRes
  split
  · exact Nat.zero_le _
  · split
    · rename_i h
      have e : (⟨(digs (canonV v c).1).toArray⟩ : ByteArray).size = (digs (canonV v c).1).length := by show (digs (canonV v c).1).toArray.size = _; simp
      rw [e]; exact h.1
    · exact Nat.zero_le _
theorem read_size (s : ByteArray) : (readDecA s).2.1.size ≤ 60 := by
  unfold readDecA readA
  split
  · exact Nat.zero_le _
  · exact decRes_size _ _ _
/-- Three cells of a block. -/
def Held (w : World) (B : Nat) (n : Bool) (s : ByteArray) (c : Int) : Prop := ∃ T, w.heap[B]? = some (.cells #[.bool n, .string s, .int .i64 c] T (0, 0))
theorem held_lt {w : World} {B : Nat} {n : Bool} {s : ByteArray} {c : Int} (h : Held w B n s c) : B < w.heap.size := by
  obtain ⟨T, h⟩ := h
  exact (Array.getElem?_eq_some_iff.1 h).1
theorem held_new (w : World) (n : Bool) (s : ByteArray) (c : Int) (T : TypeId) : Held (w.alloc (.cells #[.bool n, .string s, .int .i64 c] T)) w.heap.size n s c := ⟨T, heap_alloc_new w _⟩
theorem held_below {w w1 : World} {B : Nat} {n : Bool} {s : ByteArray} {c : Int} (h : Held w B n s c) (k : Below w.heap.size w w1) : Held w1 B n s c := by
  have hl := held_lt h
  obtain ⟨T, h⟩ := h
  exact ⟨T, (k.block B hl).trans h⟩
theorem held_alloc {w : World} {B : Nat} {n : Bool} {s : ByteArray} {c : Int} (h : Held w B n s c) (o : Obj) : Held (w.alloc o) B n s c := held_below h ((Below.refl _ _).alloc (Nat.le_refl _) _)
theorem held_drew {w w1 : World} {B G : Nat} {a : Option Addr} {m cap : Nat} {zs : List Int} {n : Bool} {s : ByteArray} {c : Int} (h : Held w B n s c) (k : Drew G a m cap zs w w1) (hne : B ≠ G) : Held w1 B n s c := by
  have hl := held_lt h
  obtain ⟨T, h⟩ := h
  exact ⟨T, (k.2.block B hl (fun e => hne (by cases e; rfl))).trans h⟩
theorem held_cells {w : World} {B : Nat} {n : Bool} {s : ByteArray} {c : Int} (h : Held w B n s c) :
    (w.cell? ⟨B, 0, none⟩ = some (.bool n) ∧ w.cell? ⟨B, 1, none⟩ = some (.string s) ∧ w.cell? ⟨B, 2, none⟩ = some (.int .i64 c)) ∧ (w.frozen? ⟨B, 0, none⟩ = false ∧ w.frozen? ⟨B, 1, none⟩ = false ∧ w.frozen? ⟨B, 2, none⟩ = false) := by
  obtain ⟨T, h⟩ := h
  exact ⟨⟨by rw [cell_of_row w B 0 _ T (0, 0) h]; rfl, by rw [cell_of_row w B 1 _ T (0, 0) h]; rfl, by rw [cell_of_row w B 2 _ T (0, 0) h]; rfl⟩, frozen_of_row w B 0 _ T h, frozen_of_row w B 1 _ T h, frozen_of_row w B 2 _ T h⟩
theorem drew_below {w w1 : World} {G : Nat} {a : Option Addr} {m cap : Nat} {zs : List Int} (h : RdAt w G a m cap zs) (k : Below w.heap.size w w1) : Drew G a m cap zs w w1 :=
  ⟨rd_grown h (row := none) ⟨k.os, k.tape, k.output, k.size, fun i hi _ => k.block i hi⟩ (fun i hi => by cases hi), ⟨k.os, k.tape, k.output, k.size, fun i hi _ => k.block i hi⟩⟩
theorem grown_set (w : World) (B i : Nat) (v : Value) : w.grownBy (w.setCell ⟨B, i, none⟩ v) (some B) :=
  ⟨rfl, rfl, rfl, by simp, fun k hk hne => Below.heap_setCell w ⟨B, i, none⟩ v k (fun e => hne (by rw [e]))⟩
theorem drew_set {w w3 : World} {G B i : Nat} {a : Option Addr} {m cap : Nat} {zs : List Int} (h : Drew G a m cap zs w w3) (hB : w.heap.size ≤ B) (hG : G < w.heap.size) (v : Value) : Drew G a m cap zs w (w3.setCell ⟨B, i, none⟩ v) :=
  ⟨rd_grown h.1 (grown_set w3 B i v) (fun k hk => by cases hk; omega), ⟨h.2.os, h.2.tape, h.2.output, by have := h.2.size; simpa using this, fun k hk hne => (Below.heap_setCell w3 ⟨B, i, none⟩ v k (by show k ≠ B; omega)).trans (h.2.block k hk hne)⟩⟩
theorem drew_three {w w3 : World} {G B : Nat} {a : Option Addr} {m cap : Nat} {zs : List Int} (h : Drew G a m cap zs w w3) (hB : w.heap.size ≤ B) (hG : G < w.heap.size) (x y z : Value) : Drew G a m cap zs w (((w3.setCell ⟨B, 0, none⟩ x).setCell ⟨B, 1, none⟩ y).setCell ⟨B, 2, none⟩ z) :=
  drew_set (drew_set (drew_set h hB hG x) hB hG y) hB hG z
theorem held_three {w : World} {B : Nat} {n : Bool} {s : ByteArray} {c : Int} (h : Held w B n s c) (x y z : Value) :
    (((w.setCell ⟨B, 0, none⟩ x).setCell ⟨B, 1, none⟩ y).setCell ⟨B, 2, none⟩ z).cell? ⟨B, 0, none⟩ = some x ∧ (((w.setCell ⟨B, 0, none⟩ x).setCell ⟨B, 1, none⟩ y).setCell ⟨B, 2, none⟩ z).cell? ⟨B, 1, none⟩ = some y ∧ (((w.setCell ⟨B, 0, none⟩ x).setCell ⟨B, 1, none⟩ y).setCell ⟨B, 2, none⟩ z).cell? ⟨B, 2, none⟩ = some z := by
  obtain ⟨T, h⟩ := h
  exact set_three h x y z
theorem held_other {w : World} {B D i : Nat} {n : Bool} {s : ByteArray} {c : Int} (h : Held w B n s c) (hne : B ≠ D) (v : Value) : Held (w.setCell ⟨D, i, none⟩ v) B n s c := by
  obtain ⟨T, h⟩ := h
  exact ⟨T, (Below.heap_setCell w ⟨D, i, none⟩ v B hne).trans h⟩
theorem held_set0 {w : World} {B : Nat} {n : Bool} {s : ByteArray} {c : Int} (h : Held w B n s c) (v : Bool) : Held (w.setCell ⟨B, 0, none⟩ (.bool v)) B v s c := by
  obtain ⟨T, h⟩ := h
  exact ⟨T, heap_setCell_same w B 0 _ T _ h⟩
theorem held_set1 {w : World} {B : Nat} {n : Bool} {s : ByteArray} {c : Int} (h : Held w B n s c) (v : ByteArray) : Held (w.setCell ⟨B, 1, none⟩ (.string v)) B n v c := by
  obtain ⟨T, h⟩ := h
  exact ⟨T, heap_setCell_same w B 1 _ T _ h⟩
theorem held_set2 {w : World} {B : Nat} {n : Bool} {s : ByteArray} {c : Int} (h : Held w B n s c) (v : Int) : Held (w.setCell ⟨B, 2, none⟩ (.int .i64 v)) B n s v := by
  obtain ⟨T, h⟩ := h
  exact ⟨T, heap_setCell_same w B 2 _ T _ h⟩
set_option maxHeartbeats 4000000 in
theorem d_dec (G : Nat) (a : Option Addr) (m cap : Nat) (zs : List Int) (w : World) (h : RdAt w G a m cap zs) :
    Calls Tryd.prog 18 #[.pointer (some ⟨G, 0, none⟩)] w fun e w' => ∃ (n : Bool) (s : ByteArray) (c : Int), s.size ≤ 61 ∧ e = .returned (.agg #[.bool n, .string s, .int .i64 c]) ∧ Drew G a m cap zs w w' := by
  have HH := hide h
  have hG := rd_lt h
  clear h
  go_enter Tryd.func18, Tryd.ntmps18
  go_wp2_with fail
  refine (d_decText G a m cap zs _ (rd_alloc HH.out _)).mono ?_
  rintro e w1 ⟨t, ht, rfl, hd⟩
  have HB1 := hide (held_drew (held_new w false ⟨#[]⟩ 0 _) hd (by omega))
  have HD1 := hide (drew_alloc _ hd)
  clear hd
  go_wp2_with fail
  refine (s_read t _ (by omega)).mono ?_
  rintro e w2 ⟨rfl, hb2⟩
  have HB2 := hide (held_below HB1.out hb2)
  have HD2 := hide (drew_trans HD1.out (drew_below HD1.out.1 hb2))
  have hsz := read_size t
  obtain ⟨R, hR⟩ : ∃ R, readDecA t = R := ⟨_, rfl⟩
  rw [hR] at hsz ⊢
  obtain ⟨n9, s9, c9, o9⟩ := R
  have hs9 : s9.size ≤ 60 := hsz
  simp only [resV]
  clear hR hb2 hsz
  go_wp2_with fail
  refine (d_below G a m cap zs 30 _ (by omega) (by omega) (rd_alloc HD2.out.1 _)).mono ?_
  rintro e w3 ⟨y, hy0, hy1, rfl, hd⟩
  have hne : w2.heap.size ≠ G := by have := rd_lt HD2.out.1; omega
  have HE := hide (held_drew (held_new w2 n9 s9 c9 _) hd hne)
  have HB3 := hide (held_drew (held_alloc HB2.out _) hd (by omega))
  have HD3 := hide (drew_trans HD2.out (drew_alloc _ hd))
  clear hd
  rcases (show y = 29 ∨ y = 28 ∨ y = 27 ∨ y ≤ 26 by omega) with hy | hy | hy | hy
  · subst hy
    go_wp2_with fail
    refine (d_off G a m cap zs _ HD3.out.1).mono ?_
    rintro e w4 ⟨v, rfl, hd⟩
    replace HE := hide (held_drew HE.out hd hne)
    replace HB3 := hide (held_drew HB3.out hd (by omega))
    replace HD3 := hide (drew_trans HD3.out hd)
    clear hd
    have hBD : w.heap.size ≠ w2.heap.size := by have := held_lt HB2.out; omega
    have HEs := hide (held_set2 HE.out v)
    have HBs := hide (held_other (i := 2) HB3.out hBD (.int .i64 v))
    have HC := hide (held_three HBs.out (.bool n9) (.string s9) (.int .i64 v))
    have HDF := hide (drew_set (i := 2) HD3.out (B := w2.heap.size) (by have := held_lt HB2.out; omega) hG (.int .i64 v))
    obtain ⟨⟨e1, e2, e3⟩, f1, f2, f3⟩ := held_cells HE.out
    obtain ⟨⟨i1, i2, i3⟩, j1, j2, j3⟩ := held_cells HEs.out
    obtain ⟨⟨b1, b2, b3⟩, g1, g2, g3⟩ := held_cells HBs.out
    go_wp2
    obtain ⟨c0, c1, c2⟩ := HC.out
    exact bodyPost_ret (v := .agg #[.bool n9, .string s9, .int .i64 v]) (by simp [results, Tryd.results18, go_sem, c0, c1, c2]) rfl ⟨_, _, _, by omega, rfl, drew_three HDF.out (Nat.le_refl _) hG _ _ _⟩
  · subst hy
    obtain ⟨u, hu⟩ : ∃ u, s9 ++ (⟨#[48]⟩ : ByteArray) = u := ⟨_, rfl⟩
    have hus : u.size ≤ 61 := by rw [← hu, ByteArray.size_append, sz1]; omega
    have hBD : w.heap.size ≠ w2.heap.size := by have := held_lt HB2.out; omega
    have HEs := hide (held_set1 HE.out u)
    have HBs := hide (held_other (i := 1) HB3.out hBD (.string u))
    have HC := hide (held_three HBs.out (.bool n9) (.string u) (.int .i64 c9))
    have HDF := hide (drew_set (i := 1) HD3.out (B := w2.heap.size) (by have := held_lt HB2.out; omega) hG (.string u))
    obtain ⟨⟨e1, e2, e3⟩, f1, f2, f3⟩ := held_cells HE.out
    obtain ⟨⟨i1, i2, i3⟩, j1, j2, j3⟩ := held_cells HEs.out
    obtain ⟨⟨b1, b2, b3⟩, g1, g2, g3⟩ := held_cells HBs.out
    go_wp2
    obtain ⟨c0, c1, c2⟩ := HC.out
    exact bodyPost_ret (v := .agg #[.bool n9, .string u, .int .i64 c9]) (by simp [results, Tryd.results18, go_sem, c0, c1, c2]) rfl ⟨_, _, _, hus, rfl, drew_three HDF.out (Nat.le_refl _) hG _ _ _⟩
  · subst hy
    have hBD : w.heap.size ≠ w2.heap.size := by have := held_lt HB2.out; omega
    have HEs := hide (held_set0 HE.out (!n9))
    have HBs := hide (held_other (i := 0) HB3.out hBD (.bool !n9))
    have HC := hide (held_three HBs.out (.bool (!n9)) (.string s9) (.int .i64 c9))
    have HDF := hide (drew_set (i := 0) HD3.out (B := w2.heap.size) (by have := held_lt HB2.out; omega) hG (.bool !n9))
    obtain ⟨⟨e1, e2, e3⟩, f1, f2, f3⟩ := held_cells HE.out
    obtain ⟨⟨i1, i2, i3⟩, j1, j2, j3⟩ := held_cells HEs.out
    obtain ⟨⟨b1, b2, b3⟩, g1, g2, g3⟩ := held_cells HBs.out
    go_wp2
    obtain ⟨c0, c1, c2⟩ := HC.out
    exact bodyPost_ret (v := .agg #[.bool (!n9), .string s9, .int .i64 c9]) (by simp [results, Tryd.results18, go_sem, c0, c1, c2]) rfl ⟨_, _, _, by omega, rfl, drew_three HDF.out (Nat.le_refl _) hG _ _ _⟩
  · have HC := hide (held_three HB3.out (.bool n9) (.string s9) (.int .i64 c9))
    have HDF := HD3
    obtain ⟨⟨e1, e2, e3⟩, f1, f2, f3⟩ := held_cells HE.out
    obtain ⟨⟨b1, b2, b3⟩, g1, g2, g3⟩ := held_cells HB3.out
    have q1 : (y == 29) = false := by simp; omega
    have q2 : (y == 28) = false := by simp; omega
    have q3 : (y == 27) = false := by simp; omega
    go_wp2
    obtain ⟨c0, c1, c2⟩ := HC.out
    exact bodyPost_ret (v := .agg #[.bool n9, .string s9, .int .i64 c9]) (by simp [results, Tryd.results18, go_sem, c0, c1, c2]) rfl ⟨_, _, _, by omega, rfl, drew_three HDF.out (Nat.le_refl _) hG _ _ _⟩
end Go.Proofs.YtdglamiifcagoacDoor
