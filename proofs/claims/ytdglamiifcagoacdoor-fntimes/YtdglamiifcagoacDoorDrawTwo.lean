/-
  Contract: two drawn numbers, whatever the code is.
-/
import Derived.Test.YtdglamiifcagoacDoorDrawDec
import Derived.Test.YtdglamiifcagoacDoorHeld
import Derived.Deep.RegionLaw
import Derived.Laws.ResultCell
import Derived.Lib.SmallJoins
namespace Go.Proofs.YtdglamiifcagoacDoor
open Go.RowKit Go.Joins
set_option linter.unusedVariables false
set_option linter.unusedSimpArgs false
theorem hn_grown {w1 w2 : World} {K : Nat} {n : Bool} {s : ByteArray} {c : Int} {row : Option Nat} (h : HeldN w1 K n s c) (hg : w1.grownBy w2 row) (hne : some K ≠ row) : HeldN w2 K n s c := by
  have hl := heldN_lt h
  obtain ⟨T, h⟩ := h
  exact ⟨T, (hg.block K hl hne).trans h⟩
/-- While two numbers are drawn: the reader, the first number, the answer's two places. -/
def DT (w w' : World) (G N : Nat) (a : Option Addr) (n cap : Nat) (zs : List Int) (m : Bool) (s : ByteArray) (c : Int) : Prop :=
  RdAt w' G a n cap zs ∧ (w.heap.size + 1 < G ∧ G < N) ∧ HeldN w' N m s c ∧ HeldN w' w.heap.size false ⟨#[]⟩ 0 ∧ HeldN w' (w.heap.size + 1) false ⟨#[]⟩ 0 ∧ Below w.heap.size w w'
section
variable {w w1 w2 : World} {G N : Nat} {a : Option Addr} {n cap : Nat} {zs : List Int} {m : Bool} {s : ByteArray} {c : Int}
theorem dt_drew (h : DT w w1 G N a n cap zs m s c) (k : Drew G a n cap zs w1 w2) : DT w w2 G N a n cap zs m s c := by
  obtain ⟨h1, ⟨h2, h3⟩, h4, h5, h6, h7⟩ := h
  exact ⟨k.1, ⟨h2, h3⟩, hn_grown h4 k.2 (fun e => by cases e; omega), hn_grown h5 k.2 (fun e => by cases e; omega), hn_grown h6 k.2 (fun e => by cases e; omega), h7.grown k.2 h7.size (fun x hx => by cases hx; omega)⟩
theorem dt_dr (h : DT w w1 G N a n cap zs m s c) : DT w w1.drew G N a n cap zs m s c := by
  have g : w1.grownBy w1.drew none := ⟨rfl, rfl, rfl, Nat.le_refl _, fun _ _ _ => rfl⟩
  obtain ⟨h1, h2, h4, h5, h6, h7⟩ := h
  exact ⟨rd_grown h1 g (fun k hk => by cases hk), h2, hn_grown h4 g (fun e => by cases e), hn_grown h5 g (fun e => by cases e), hn_grown h6 g (fun e => by cases e), h7.drew⟩
end
theorem results_cell_cell {P : Program} {fn : Func} {p u : Tmp} {ty ty' : TypeId} (h : fn.results = #[.cell p ty, .cell u ty']) (tmps : Array Value) (w : World) :
    (results fn tmps).run P w = ((asAddr (tmps.getD p undef)).run P w).andThen fun a w₁ => ((loadVar ty a).run P w₁).andThen fun v w₂ => ((asAddr (tmps.getD u undef)).run P w₂).andThen fun b w₃ => ((loadVar ty' b).run P w₃).andThen fun x w₄ => .ok (.tuple #[v, x]) w₄ := by
  simp only [results, h]
  simp [Sem.run_bind, Result.andThen]
theorem ret_two {P : Program} {fn : Func} {p u : Tmp} {ty : TypeId} (h : fn.results = #[.cell p ty, .cell u ty]) (tmps : Array Value) (w : World) (g g' : Nat) (t t' : TypeId) (cs cs' : Array Value) (fr fr' : Nat × Nat) (d : TypeDesc)
    (hp : tmps.getD p undef = .pointer (some ⟨g, 0, none⟩)) (hp' : tmps.getD u undef = .pointer (some ⟨g', 0, none⟩)) (hg : w.heap[g]? = some (.cells cs t fr)) (hg' : w.heap[g']? = some (.cells cs' t' fr'))
    (hu : P.underlying ty = some d) (hd : (match d with | .struct _ | .array _ _ => true | _ => false) = true) (hi : (P.info? ty).map (·.size) = some cs.size) (hi' : (P.info? ty).map (·.size) = some cs'.size) :
    (results fn tmps).run P w = .ok (.tuple #[.agg cs, .agg cs']) w := by
  rw [results_cell_cell h]
  simp only [hp, hp', asAddr, Sem.run_pure, Result.andThen, run_loadVar_row w g t ty cs fr d hg hu hd hi, run_loadVar_row w g' t' ty cs' fr' d hg' hu hd hi']
theorem src_up2 {w : World} {a : Option Addr} {zs : List Int} {B B' : Nat} (h : SrcAt w a zs B) (hB : B ≤ B') : SrcAt w a zs B' := by
  intro hne
  obtain ⟨b, off, e, hb, hc⟩ := h hne
  exact ⟨b, off, e, by omega, hc⟩
theorem hn_sets {w : World} {K : Nat} {n n' : Bool} {s s' : ByteArray} {c c' : Int} (h : HeldN w K n s c) : HeldN (((w.setCell ⟨K, 0, none⟩ (.bool n')).setCell ⟨K, 1, none⟩ (.string s')).setCell ⟨K, 2, none⟩ (.int .i64 c')) K n' s' c' := by
  obtain ⟨T, h0⟩ := h
  have h1 := block_setCell (i := 0) h0 (.bool n')
  have h2 := block_setCell (i := 1) h1 (.string s')
  have h3 := block_setCell (i := 2) h2 (.int .i64 c')
  exact ⟨T, by simpa using h3⟩
theorem hn_drew {w : World} {K : Nat} {n : Bool} {s : ByteArray} {c : Int} (h : HeldN w K n s c) : HeldN w.drew K n s c := by
  obtain ⟨T, h⟩ := h
  exact ⟨T, h⟩
theorem hn_far {w : World} {K : Nat} {n : Bool} {s : ByteArray} {c : Int} (h : HeldN w K n s c) {D i : Nat} (v : Value) (hne : D ≠ K) : HeldN (w.setCell ⟨D, i, none⟩ v) K n s c := by
  obtain ⟨T, h⟩ := h
  exact ⟨T, by rw [show (w.setCell ⟨D, i, none⟩ v).heap[K]? = w.heap[K]? by simp [World.setCell, Array.getElem?_modify, hne]]; exact h⟩
set_option maxRecDepth 100000 in
set_option maxHeartbeats 4000000 in
theorem d_two (a : Option Addr) (n cap : Nat) (zs : List Int) (w : World) (hl : zs.length = n) (hz : ∀ x ∈ zs, 0 ≤ x ∧ x ≤ 255) (hn : n ≤ 1048576) (hs : SrcAt w a zs w.heap.size) :
    Calls Tryd.prog 10 #[.slice a n cap] w fun e w' => ∃ (m1 : Bool) (s1 : ByteArray) (c1 : Int) (m2 : Bool) (s2 : ByteArray) (c2 : Int), s1.size ≤ 61 ∧ s2.size ≤ 61 ∧ e = .returned (.tuple #[.agg #[.bool m1, .string s1, .int .i64 c1], .agg #[.bool m2, .string s2, .int .i64 c2]]) ∧ Below w.heap.size w w' := by
  have HS := hide hs
  have HL := hide hl
  have HZ := hide hz
  clear hs hl hz
  go_enter Tryd.func10, Tryd.ntmps10
  go_wp2_with fail
  have hW : ((w.alloc (.cells #[.bool false, .string ⟨#[]⟩, .int .i64 0] 25)).alloc (.cells #[.bool false, .string ⟨#[]⟩, .int .i64 0] 25)).heap.size = w.heap.size + 1 + 1 := by simp
  have hA1 := heldN_new w false ⟨#[]⟩ 0 25
  have hA2 := heldN_alloc hA1 (.cells #[.bool false, .string ⟨#[]⟩, .int .i64 0] 25)
  have hA3 := heldN_new (w.alloc (.cells #[.bool false, .string ⟨#[]⟩, .int .i64 0] 25)) false ⟨#[]⟩ 0 25
  refine (d_open a n cap zs _ HL.out HZ.out hn (src_up2 (src_grown (src_grown HS.out (Nat.le_refl _) (World.grownBy_alloc w _ none) (fun k hk => by cases hk)) (by simp) (World.grownBy_alloc _ _ none) (fun k hk => by cases hk)) (by simp; omega))).mono ?_
  rintro e w1 ⟨rfl, hrd, hb1⟩
  rw [hW] at hrd
  have hR1 : HeldN w1 w.heap.size false ⟨#[]⟩ 0 := heldN_below hA2 hb1
  have hR2 : HeldN w1 (w.heap.size + 1) false ⟨#[]⟩ 0 := by
    have := heldN_below hA3 hb1
    simpa using this
  have hB1 : Below w.heap.size w w1 := (((Below.refl w.heap.size w).alloc (Nat.le_refl _) _).alloc (by simp) _).trans (hb1.mono (by rw [hW]; omega))
  have HX : Hid (RdAt w1 (w.heap.size + 1 + 1) a n cap zs ∧ HeldN w1 w.heap.size false ⟨#[]⟩ 0 ∧ HeldN w1 (w.heap.size + 1) false ⟨#[]⟩ 0 ∧ Below w.heap.size w w1) := ⟨hrd, hR1, hR2, hB1⟩
  clear hrd hR1 hR2 hB1 hb1 hW hA1 hA2 hA3
  go_wp2_with fail
  refine (d_dec (w.heap.size + 1 + 1) a n cap zs _ HX.out.1).mono ?_
  rintro e w2 ⟨m1, s1, c1, hs1, rfl, hd⟩
  have HD : Hid (DT w (w2.alloc (.cells #[.bool m1, .string s1, .int .i64 c1] 25)) (w.heap.size + 1 + 1) w2.heap.size a n cap zs m1 s1 c1) := by
    obtain ⟨x1, x2, x3, x4⟩ := HX.out
    have hlt : w.heap.size + 1 + 1 < w2.heap.size := rd_lt hd.1
    have y4 : Below w.heap.size w w2 := x4.grown hd.2 x4.size (fun x hx => by cases hx; omega)
    exact ⟨rd_alloc hd.1 _, ⟨by omega, hlt⟩, heldN_new _ _ _ _ _, heldN_alloc (hn_grown x2 hd.2 (fun e => by simp at e; omega)) _, heldN_alloc (hn_grown x3 hd.2 (fun e => by simp at e)) _, y4.alloc y4.size _⟩
  clear hd HX
  go_wp2_with fail
  refine (d_once (w.heap.size + 1 + 1) a n cap zs 5 _ (by omega) (by omega) HD.out.1).mono ?_
  rintro e w3 ⟨o, rfl, hd⟩
  replace HD := hide (dt_drew HD.out hd)
  clear hd
  cases o
  · obtain ⟨⟨a0, a1, a2⟩, f0, f1, f2⟩ := heldN_cells (dt_dr HD.out).2.2.1
    go_wp2_with fail
    go_region_law (first
      | (go_simp; go_at_call 18; refine (d_dec (w.heap.size + 1 + 1) a n cap zs _ (dt_dr HD.out).1).mono ?_; rintro e w4 ⟨m2, s2, c2, hs2, rfl, hd⟩; have HX4 := hide (dt_drew (dt_dr HD.out) hd); obtain ⟨⟨d0, d1, d2⟩, _, _, _⟩ := heldN_cells HX4.out.2.2.1; obtain ⟨⟨b0, b1, b2⟩, g0, g1, g2⟩ := heldN_cells HX4.out.2.2.2.1; obtain ⟨⟨e0, e1, e2⟩, h0, h1, h2⟩ := heldN_cells HX4.out.2.2.2.2.1; clear hd)
      | (fail))
    all_goals
      go_wp2
      obtain ⟨T1, hT1⟩ := hn_far (i := 2) (hn_far (i := 1) (hn_far (i := 0) (hn_sets (n' := m1) (s' := s1) (c' := c1) HX4.out.2.2.2.1) (.bool m2) (D := w.heap.size + 1) (by omega)) (.string s2) (D := w.heap.size + 1) (by omega)) (.int .i64 c2) (D := w.heap.size + 1) (by omega)
      obtain ⟨T2, hT2⟩ := hn_sets (n' := m2) (s' := s2) (c' := c2) (hn_far (i := 2) (hn_far (i := 1) (hn_far (i := 0) HX4.out.2.2.2.2.1 (.bool m1) (D := w.heap.size) (by omega)) (.string s1) (D := w.heap.size) (by omega)) (.int .i64 c1) (D := w.heap.size) (by omega))
      refine bodyPost_ret (v := .tuple #[.agg #[.bool m1, .string s1, .int .i64 c1], .agg #[.bool m2, .string s2, .int .i64 c2]]) (ret_two Tryd.results10 _ _ w.heap.size (w.heap.size + 1) T1 T2 _ _ _ _ _ rfl rfl hT1 hT2 Tryd.underlying25 rfl (by kernel_rfl) (by kernel_rfl)) rfl ⟨m1, s1, c1, m2, s2, c2, hs1, hs2, rfl, ?_⟩
      iterate 6 (refine Below.setCell ?_ (by simp) _)
      exact HX4.out.2.2.2.2.2
  · have HX5 := HD
    have n0 : w.heap.size + 1 < w2.heap.size := by have := HD.out.2.1; omega
    have n1 : ¬ w2.heap.size = w.heap.size := by omega
    have n2 : ¬ w.heap.size = w2.heap.size := by omega
    have n3 : ¬ w2.heap.size = w.heap.size + 1 := by omega
    have n4 : ¬ w.heap.size + 1 = w2.heap.size := by omega
    obtain ⟨⟨d0, d1, d2⟩, _, _, _⟩ := heldN_cells HX5.out.2.2.1
    obtain ⟨⟨b0, b1, b2⟩, g0, g1, g2⟩ := heldN_cells HX5.out.2.2.2.1
    obtain ⟨⟨e0, e1, e2⟩, h0, h1, h2⟩ := heldN_cells HX5.out.2.2.2.2.1
    go_wp2_with fail
    go_region
    all_goals
      go_wp2
      obtain ⟨T1, hT1⟩ := hn_drew (hn_far (i := 2) (hn_far (i := 1) (hn_far (i := 0) (hn_sets (n' := m1) (s' := s1) (c' := c1) HX5.out.2.2.2.1) (.bool m1) (D := w.heap.size + 1) (by omega)) (.string s1) (D := w.heap.size + 1) (by omega)) (.int .i64 c1) (D := w.heap.size + 1) (by omega))
      obtain ⟨T2, hT2⟩ := hn_drew (hn_sets (n' := m1) (s' := s1) (c' := c1) (hn_far (i := 2) (hn_far (i := 1) (hn_far (i := 0) HX5.out.2.2.2.2.1 (.bool m1) (D := w.heap.size) (by omega)) (.string s1) (D := w.heap.size) (by omega)) (.int .i64 c1) (D := w.heap.size) (by omega)))
      refine bodyPost_ret (v := .tuple #[.agg #[.bool m1, .string s1, .int .i64 c1], .agg #[.bool m1, .string s1, .int .i64 c1]]) (ret_two Tryd.results10 _ _ w.heap.size (w.heap.size + 1) T1 T2 _ _ _ _ _ rfl rfl hT1 hT2 Tryd.underlying25 rfl (by kernel_rfl) (by kernel_rfl)) rfl ⟨m1, s1, c1, m1, s1, c1, hs1, hs1, rfl, ?_⟩
      refine Below.drew ?_
      iterate 6 (refine Below.setCell ?_ (by simp) _)
      exact HX5.out.2.2.2.2.2
end Go.Proofs.YtdglamiifcagoacDoor
