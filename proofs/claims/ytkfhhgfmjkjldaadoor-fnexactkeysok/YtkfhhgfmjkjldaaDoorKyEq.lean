/-
  Contracts of the laws' helpers on rows of keys: a copy in new memory.
-/
import Derived.Test.YtkfhhgfmjkjldaaDoorKyRow
namespace Go.Proofs.YtkfhhgfmjkjldaaDoor
open Go.RowKit Go.Joins
set_option linter.unusedVariables false
set_option linter.unusedSimpArgs false
/-- Cells lie in block G. -/
def KdAt (w : World) (G : Nat) (cs : Array Value) : Prop := ∃ T, w.heap[G]? = some (.cells cs T (0, 0))
section
variable {w w1 : World} {G : Nat} {cs : Array Value}
theorem kd_lt (h : KdAt w G cs) : G < w.heap.size := by
  obtain ⟨T, h⟩ := h
  exact (Array.getElem?_eq_some_iff.1 h).1
theorem kd_go (h : KdAt w G cs) (hb : Below w.heap.size w w1) : KdAt w1 G cs := by
  have hl := kd_lt h
  obtain ⟨T, h⟩ := h
  exact ⟨T, (hb.block G hl).trans h⟩
theorem kd_new (w : World) (cs : Array Value) (T : TypeId) : KdAt (w.alloc (.cells cs T)) w.heap.size cs := ⟨T, heap_alloc_new w _⟩
theorem kd_cell (h : KdAt w G cs) (i : Nat) : w.cell? ⟨G, i, none⟩ = cs[i]? := by
  obtain ⟨T, h⟩ := h
  exact cell_of_row w G i _ T (0, 0) h
theorem kd_frozen (h : KdAt w G cs) (i : Nat) : w.frozen? ⟨G, i, none⟩ = false := by
  obtain ⟨T, h⟩ := h
  simp [World.frozen?, h]
theorem kd_far (h : KdAt w G cs) (p : Addr) (v : Value) (hne : p.block ≠ G) : KdAt (w.setCell p v) G cs := by
  obtain ⟨T, h⟩ := h
  exact ⟨T, by rw [heap_setCell_far _ _ _ _ hne]; exact h⟩
theorem kd_set (h : KdAt w G cs) (i : Nat) (v : Value) : KdAt (w.setCell ⟨G, i, none⟩ v) G (cs.setIfInBounds i v) := by
  obtain ⟨T, h⟩ := h
  exact ⟨T, heap_setCell_same w G i _ _ v h⟩
end
theorem kd_three {w w2 : World} {c1 c2 c3 : Array Value} {T U V : TypeId} (hb : Below (((w.alloc (.cells c1 T)).alloc (.cells c2 U)).alloc (.cells c3 V)).heap.size (((w.alloc (.cells c1 T)).alloc (.cells c2 U)).alloc (.cells c3 V)) w2) :
    KdAt w2 w.heap.size c1 ∧ KdAt w2 (w.heap.size + 1) c2 ∧ KdAt w2 (w.heap.size + 1 + 1) c3 ∧ Below w.heap.size w w2 := by
  have h1 := kd_new w c1 T
  have h2 := kd_new (w.alloc (.cells c1 T)) c2 U
  have h3 := kd_new ((w.alloc (.cells c1 T)).alloc (.cells c2 U)) c3 V
  have st : ∀ (x : World) (o : Obj), Below x.heap.size x (x.alloc o) := fun x o => (Below.refl _ _).alloc (Nat.le_refl _) _
  refine ⟨kd_go (kd_go (kd_go h1 (st _ _)) (st _ _)) hb, ?_, ?_, ?_⟩
  · have := kd_go (kd_go h2 (st _ _)) hb
    simpa using this
  · have := kd_go h3 hb
    simpa using this
  · refine ((((Below.refl w.heap.size w).alloc (Nat.le_refl _) _).alloc (by simp) _).alloc (by simp; omega) _).trans (hb.mono (by simp; omega))
theorem tx_set {w : World} {g : Nat} {L : List ByteArray} {B : Nat} (h : TxAt w (some ⟨g, 0, none⟩) L B) (p : Addr) (v : Value) (hne : p.block ≠ g) : TxAt (w.setCell p v) (some ⟨g, 0, none⟩) L B := fun h0 => by
  obtain ⟨b, off, e, hb, hc⟩ := h h0
  simp only [Option.some.injEq, Addr.mk.injEq] at e
  obtain ⟨rfl, rfl, -⟩ := e
  exact ⟨g, 0, rfl, hb, fun j hj => by rw [World.cell?_setCell_far _ _ _ _ hne]; exact hc j hj⟩
set_option maxRecDepth 100000 in
set_option maxHeartbeats 4000000 in
theorem l_toK (nm : ByteArray) (kd : Int) (on pa : ByteArray) (ad : Option Addr) (fl : List ByteArray) (n cp : Nat) (re : ByteArray) (w : World) (hL : fl.length = n) (hn : n ≤ 1048576) (hr : TxAt w ad fl w.heap.size) :
    Calls Tryd.prog 14 #[.agg #[.string nm, .int .i64 kd, .string on, .string pa, .slice ad n cp, .string re]] w fun e w' => ∃ G, e = .returned (.agg #[.string nm, .int .i64 kd, .string on, .string pa, .slice (some ⟨G, 0, none⟩) n n, .string re]) ∧ w.heap.size ≤ G ∧
      TxAt w' (some ⟨G, 0, none⟩) fl w'.heap.size ∧ Below w.heap.size w w' := by
  have HR := hide hr
  have HL := hide hL
  clear hr hL
  go_enter Tryd.func14, Tryd.ntmps14
  go_wp2_with (go_at_call 21; refine (to_strs _ _ _ fl _ HL.out hn (tx_up (tx_go HR.out ((((Below.refl _ _).alloc (Nat.le_refl _) _).alloc (by simp) _).alloc (by simp; omega) _)) (by simp; omega))).mono ?_; rintro e w2 ⟨rfl, hr2, hb2⟩; obtain ⟨hN1, hN2, hN3, hB⟩ := kd_three hb2; have HN2 := hide hN2; have HR2 := hide (tx_own hr2); have HB := hide hB; have a5 := kd_cell hN1 5; have b0 := kd_cell hN2 0; have b1 := kd_cell hN2 1; have b2 := kd_cell hN2 2; have b3 := kd_cell hN2 3; have b4 := kd_cell hN2 4; have b5 := kd_cell hN2 5; have c0 := kd_cell hN3 0; have c1 := kd_cell hN3 1; have c2 := kd_cell hN3 2; have c3 := kd_cell hN3 3; have c4 := kd_cell hN3 4; have c5 := kd_cell hN3 5; have f0 := kd_frozen hN2; have g0 := kd_frozen hN3; simp at a5 b0 b1 b2 b3 b4 b5 c0 c1 c2 c3 c4 c5; clear hb2 hr2 hN1 hN2 hN3 hB)
  refine bodyPost_ret (v := .agg #[.string nm, .int .i64 kd, .string on, .string pa, .slice (some ⟨w.heap.size + 1 + 1 + 1, 0, none⟩) n n, .string re]) ?_ rfl ⟨_, rfl, by omega, ?_, ?_⟩
  · have h := kd_far (kd_far HN2.out ⟨w.heap.size + 1 + 1, 4, none⟩ (.slice (some ⟨w.heap.size + 1 + 1 + 1, 0, none⟩) n n) (by simp)) ⟨w.heap.size + 1 + 1, 5, none⟩ (.string re) (by simp)
    obtain ⟨T, hT⟩ := kd_set (kd_set (kd_set (kd_set (kd_set (kd_set h 0 (.string nm)) 1 (.int .i64 kd)) 2 (.string on)) 3 (.string pa)) 4 (.slice (some ⟨w.heap.size + 1 + 1 + 1, 0, none⟩) n n)) 5 (.string re)
    exact results_cell_row Tryd.results14 _ _ (w.heap.size + 1) T _ _ _ rfl hT Tryd.underlying33 rfl (by kernel_rfl)
  · have h := HR2.out
    simp only [heap_setCell_size]
    iterate 8 (refine tx_set ?_ _ _ (by simp))
    simpa using h
  · iterate 8 (refine Below.setCell ?_ (by simp; try omega) _)
    exact HB.out
end Go.Proofs.YtkfhhgfmjkjldaaDoor
