/-
  Two drawn numbers for a product; numbers in their boxes.
-/
import Derived.Test.YtdglamiifcagoacDoorDrawTwo
import Derived.Test.YtdglamiifcagoacDoorSumMath
import Derived.Test.YtdglamiifcagoacDoorDrawDecs
import Derived.Test.YtdglamiifcagoacDoorAddW
import Derived.Test.YtdglamiifcagoacDoorProdMath
import Derived.Test.YtdglamiifcagoacDoorTimesS
namespace Go.Proofs.YtdglamiifcagoacDoor
open Go.RowKit
set_option linter.unusedVariables false
set_option linter.unusedSimpArgs false
theorem l_big0 (a : Option Addr) (n cap : Nat) (w : World) (h : n ≤ 1048576) : Calls Tryd.prog 4 #[.slice a n cap] w fun e w' => e = .returned (.bool false) ∧ w' = w := by
  go_enter Tryd.func4, Tryd.ntmps4
  go_wp2
  go_ret
  exact ⟨ret_bool (by simp; omega), rfl⟩
theorem src_go {w w1 : World} {a : Option Addr} {zs : List Int} {B : Nat} (h : SrcAt w a zs B) (k : Below B w w1) : SrcAt w1 a zs B := by
  intro hne
  obtain ⟨b, off, e, hb, hc⟩ := h hne
  exact ⟨b, off, e, hb, fun j hj => (k.cell (p := ⟨b, off + j, none⟩) hb).trans (hc j hj)⟩
theorem ba_no (s : ByteArray) (h : s.size = 0) : s.toList.isEmpty = true := by
  have : s = ByteArray.empty := ByteArray.size_eq_zero_iff.1 h
  subst this
  rw [ByteArray.toList_eq]; rfl
theorem ba_ne (s : ByteArray) (h : s.size ≠ 0) : s.toList.isEmpty = false := ne_list s (by omega)
/-- Numbers in their boxes. -/
def St (w w' : World) (l : List (Nat × Bool × ByteArray × Int)) : Prop := (∀ x ∈ l, HeldN w' x.1 x.2.1 x.2.2.1 x.2.2.2) ∧ Below w.heap.size w w'
section
variable {w w1 w2 : World} {l : List (Nat × Bool × ByteArray × Int)}
theorem st_go (h : St w w1 l) (k : Below w1.heap.size w1 w2) : St w w2 l := ⟨fun x hx => heldN_below (h.1 x hx) k, h.2.trans (k.mono h.2.size)⟩
theorem st_push (h : St w w1 l) (n : Bool) (s : ByteArray) (c : Int) (T : TypeId) : St w (w1.alloc (.cells #[.bool n, .string s, .int .i64 c] T)) ((w1.heap.size, n, s, c) :: l) := by
  refine ⟨fun x hx => ?_, h.2.alloc h.2.size _⟩
  rcases List.mem_cons.1 hx with rfl | hx
  · exact heldN_new w1 n s c T
  · exact heldN_alloc (h.1 x hx) _
theorem st_drew (h : St w w1 l) : St w w1.drew l := st_go h ⟨rfl, rfl, rfl, Nat.le_refl _, fun _ _ => rfl⟩
theorem st_at (h : St w w1 l) {g : Nat} {n : Bool} {s : ByteArray} {c : Int} (hm : (g, n, s, c) ∈ l) : w1.cell? ⟨g, 0, none⟩ = some (.bool n) ∧ w1.cell? ⟨g, 1, none⟩ = some (.string s) ∧ w1.cell? ⟨g, 2, none⟩ = some (.int .i64 c) := (heldN_cells (h.1 _ hm)).1
theorem st_nil (h : Below w.heap.size w w1) : St w w1 [] := by
  refine ⟨fun x hx => ?_, h⟩
  simp at hx
end
set_option maxRecDepth 100000 in
set_option maxHeartbeats 4000000 in
theorem d_times2 (a : Option Addr) (n cap : Nat) (zs : List Int) (w : World) (hl : zs.length = n) (hz : ∀ x ∈ zs, 0 ≤ x ∧ x ≤ 255) (hn : n ≤ 1048576) (hs : SrcAt w a zs w.heap.size) :
    Calls Tryd.prog 5 #[.slice a n cap] w fun e w' => ∃ (m1 : Bool) (s1 : ByteArray) (c1 : Int) (m2 : Bool) (s2 : ByteArray) (c2 : Int), s1.size ≤ 61 ∧ s2.size ≤ 61 ∧ e = .returned (.tuple #[.agg #[.bool m1, .string s1, .int .i64 c1], .agg #[.bool m2, .string s2, .int .i64 c2]]) ∧ Below w.heap.size w w' := by
  have HS := hide hs
  have HL := hide hl
  have HZ := hide hz
  clear hs hl hz
  go_enter Tryd.func5, Tryd.ntmps5
  go_wp2_with fail
  have hW : ((w.alloc (.cells #[.bool false, .string ⟨#[]⟩, .int .i64 0] 25)).alloc (.cells #[.bool false, .string ⟨#[]⟩, .int .i64 0] 25)).heap.size = w.heap.size + 1 + 1 := by simp
  have hA2 := heldN_alloc (heldN_new w false ⟨#[]⟩ 0 25) (.cells #[.bool false, .string ⟨#[]⟩, .int .i64 0] 25)
  have hA3 := heldN_new (w.alloc (.cells #[.bool false, .string ⟨#[]⟩, .int .i64 0] 25)) false ⟨#[]⟩ 0 25
  refine (d_two a n cap zs _ HL.out HZ.out hn (src_up2 (src_grown (src_grown HS.out (Nat.le_refl _) (World.grownBy_alloc w _ none) (fun k hk => by cases hk)) (by simp) (World.grownBy_alloc _ _ none) (fun k hk => by cases hk)) (by simp; omega))).mono ?_
  rintro e w1 ⟨m1, s1, c1, m2, s2, c2, hz1, hz2, rfl, hb1⟩
  have hR1 : HeldN w1 w.heap.size false ⟨#[]⟩ 0 := heldN_below hA2 hb1
  have hR2 : HeldN w1 (w.heap.size + 1) false ⟨#[]⟩ 0 := by
    have := heldN_below hA3 hb1
    simpa using this
  have hB1 : Below w.heap.size w w1 := (((Below.refl w.heap.size w).alloc (Nat.le_refl _) _).alloc (by simp) _).trans (hb1.mono (by rw [hW]; omega))
  have HR1 := hide hR1
  have HR2 := hide hR2
  have HB1 := hide hB1
  obtain ⟨⟨b0, b1, b2⟩, g0, g1, g2⟩ := heldN_cells hR1
  obtain ⟨⟨e0, e1, e2⟩, h0, h1, h2⟩ := heldN_cells hR2
  clear hb1 hW hA2 hA3 hR1 hR2 hB1
  go_wp2
  obtain ⟨T1, hT1⟩ := hn_far (i := 2) (hn_far (i := 1) (hn_far (i := 0) (hn_sets (n' := m1) (s' := s1) (c' := c1) HR1.out) (.bool m2) (D := w.heap.size + 1) (by omega)) (.string s2) (D := w.heap.size + 1) (by omega)) (.int .i64 c2) (D := w.heap.size + 1) (by omega)
  obtain ⟨T2, hT2⟩ := hn_sets (n' := m2) (s' := s2) (c' := c2) (hn_far (i := 2) (hn_far (i := 1) (hn_far (i := 0) HR2.out (.bool m1) (D := w.heap.size) (by omega)) (.string s1) (D := w.heap.size) (by omega)) (.int .i64 c1) (D := w.heap.size) (by omega))
  refine bodyPost_ret (v := .tuple #[.agg #[.bool m1, .string s1, .int .i64 c1], .agg #[.bool m2, .string s2, .int .i64 c2]]) (ret_two Tryd.results5 _ _ w.heap.size (w.heap.size + 1) T1 T2 _ _ _ _ _ rfl rfl hT1 hT2 Tryd.underlying25 rfl (by kernel_rfl) (by kernel_rfl)) rfl ⟨m1, s1, c1, m2, s2, c2, hz1, hz2, rfl, ?_⟩
  iterate 6 (refine Below.setCell ?_ (by simp) _)
  exact HB1.out
end Go.Proofs.YtdglamiifcagoacDoor
