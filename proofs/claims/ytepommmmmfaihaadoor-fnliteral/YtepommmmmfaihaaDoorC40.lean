/-
  Contracts of the specification's reader of expressions: an atom, a piece.
-/
import Derived.Test.YtepommmmmfaihaaDoorC37
import Derived.Test.YtepommmmmfaihaaDoorC38
import Derived.Test.YtepommmmmfaihaaDoorC39
import Derived.Test.YtepommmmmfaihaaDoorC32
namespace Go.Proofs.YtepommmmmfaihaaDoor
open Go.RowKit Go.Joins
set_option linter.unusedVariables false
set_option linter.unusedSimpArgs false
theorem s_atom (n : Nat) (hC : ∀ m, m < n → ChS m) : AtS n := by
  intro B R C k X w g hlt hn hg hX h
  obtain ⟨f, rfl⟩ : ∃ f, g = f + 1 := ⟨g - 1, by omega⟩
  have hr : C.drop k = C[k] :: C.drop (k + 1) := List.drop_eq_getElem_cons hlt
  rw [hr]
  by_cases e1 : C[k] = 40
  · exact s_atom40 n hC B R C k X w f hlt hn hg hX h _ hr e1
  by_cases e2 : C[k] = 91
  · exact s_atom91 n hC B R C k X w f hlt hn hg hX h _ hr e1 e2
  by_cases e3 : C[k] = 46
  · exact s_atom46 n hC B R C k X w f hlt hn hg hX h _ hr e1 e2 e3
  by_cases e4 : C[k] = 92
  · exact s_atom92 n hC B R C k X w f hlt hn hg hX h _ hr e1 e2 e3 e4
  · exact s_atomel n hC B R C k X w f hlt hn hg hX h _ hr e1 e2 e3 e4
/-- While a count is read: the reader, the node in block N. -/
structure CS (B R N M : Nat) (w : World) (C : List Int) (k : Nat) (bd : Bool) (X : List Nd) (a mn mx : Int) : Prop where
  rd : SD (fun j => B ≤ j ∧ j < M) B R w C k bd X
  nd : CkN w N a mn mx
  hN : M ≤ N
  hB : B ≤ M
section
variable {B R N M : Nat} {w w' : World} {C : List Int} {k k' : Nat} {bd bd' : Bool} {X : List Nd} {a mn mx : Int}
theorem cs_neR (h : CkN w N a mn mx) {S : Nat → Prop} (hr : SD S B R w C k bd X) : N ≠ R := by
  rintro rfl
  obtain ⟨_, _, _, _, _, hx, _⟩ := hr
  unfold SX at hx
  rw [h] at hx
  simp only [Option.some.injEq, Obj.cells.injEq] at hx
  exact absurd hx.2.1 (by decide)
theorem cs_r (h : CS B R N M w C k bd X a mn mx) (q : Kp (fun j => j = R) w w') (hr : SD (fun j => B ≤ j ∧ j < M) B R w' C k' bd' X) : CS B R N M w' C k' bd' X a mn mx :=
  ⟨hr, (q.block N (ck_lt h.nd) (cs_neR h.nd h.rd)).trans h.nd, h.hN, h.hB⟩
theorem cs_bl (h : CS B R N M w C k bd X a mn mx) (q : Below w.heap.size w w') : CS B R N M w' C k bd X a mn mx := ⟨sd_bl h.rd q, (q.block N (ck_lt h.nd)).trans h.nd, h.hN, h.hB⟩
theorem cs_b (h : CS B R N M w C k bd X a mn mx) (b : Bool) : CS B R N M (w.setCell ⟨R, 2, none⟩ (.bool b)) C k b X a mn mx ∧ Below B w (w.setCell ⟨R, 2, none⟩ (.bool b)) := ⟨cs_r h (kp_r _ R 2 _) (sd_b h.rd b), sd_kpB h.rd (kp_r _ R 2 _)⟩
theorem cs_set (h : CS B R N M w C k bd X a mn mx) (i : Nat) (v : Value) {mn' mx' : Int} (hn : CkN (w.setCell ⟨N, i, none⟩ v) N a mn' mx') : CS B R N M (w.setCell ⟨N, i, none⟩ v) C k bd X a mn' mx' ∧ Below B w (w.setCell ⟨N, i, none⟩ v) := by
  have ks : Kp (fun j => j = N) w (w.setCell ⟨N, i, none⟩ v) := kp_set (S := fun j => j = N) _ _ _ rfl
  have h1 := h.hN
  have h2 := h.hB
  have h3 := ck_lt h.nd
  exact ⟨⟨sd_hi h.rd ks (fun j hj => by have hj' : j = N := hj; omega) (fun e => cs_neR h.nd h.rd e.symm) h.hB, hn, h.hN, h.hB⟩, kp_below ks (by omega) (fun j hj => by have hj' : j = N := hj; omega)⟩
theorem cs_mn (h : CS B R N M w C k bd X a mn mx) (y : Int) : CS B R N M (w.setCell ⟨N, 5, none⟩ (.int .i64 y)) C k bd X a y mx ∧ Below B w (w.setCell ⟨N, 5, none⟩ (.int .i64 y)) := cs_set h 5 _ (heap_setCell_same w N 5 _ _ _ h.nd)
theorem cs_mx (h : CS B R N M w C k bd X a mn mx) (y : Int) : CS B R N M (w.setCell ⟨N, 6, none⟩ (.int .i64 y)) C k bd X a mn y ∧ Below B w (w.setCell ⟨N, 6, none⟩ (.int .i64 y)) := cs_set h 6 _ (heap_setCell_same w N 6 _ _ _ h.nd)
theorem cs_add (h : CS B R N M w C k false X a mn mx) (hX : X.length ≤ 120) : Calls Tryd.prog 59 #[.pointer (some ⟨R, 0, none⟩), .agg #[.int .i64 5, .bool false, .slice none 0 0, .int .i64 a, .int .i64 0, .int .i64 mn, .int .i64 mx]] w fun e w' => e = .returned (.int .i64 (X.length : Int)) ∧ SD (fun j => B ≤ j) B R w' C k (decide (120 < X.length + 1)) (X ++ [cnN a mn mx]) ∧ Below B w w' :=
  s_add B R C k X (cnN a mn mx) none 0 w hX (by simp [cnN]) h.rd (fun j hj => hj.1) (World.ownsRow_nil _ _ _ _) (fun k hk => by cases hk)
theorem cs_ok (a mn mx : Int) (w : World) : Calls Tryd.prog 45 #[.agg #[.int .i64 5, .bool false, .slice none 0 0, .int .i64 a, .int .i64 0, .int .i64 mn, .int .i64 mx]] w fun e w' => e = .returned (.bool (ndOk (cnN a mn mx))) ∧ Below w.heap.size w w' :=
  s_nodeok 5 false none 0 0 a 0 mn mx (fun i => (([] : List (Int × Int))[i]?.getD (0, 0)).1) (fun i => (([] : List (Int × Int))[i]?.getD (0, 0)).2) w (Nat.zero_le _) (fun h0 => absurd h0 (Nat.lt_irrefl 0))
end
end Go.Proofs.YtepommmmmfaihaaDoor
