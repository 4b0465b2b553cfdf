/-
  Contracts: the machine in memory; a place more, a fork more, one place or another.
-/
import Derived.Test.YtepommmmmfaihaaDoorC10
import Derived.Test.YtepommmmmfaihaaDoorC4
import Derived.WalkLawsBesides
import Derived.Deep.RegionWith
import Derived.Deep.RegionLaw
import Derived.Deep.DeepCutAuto
namespace Go.Proofs.YtepommmmmfaihaaDoor
open Go.RowKit Go.Joins
set_option linter.unusedVariables false
set_option linter.unusedSimpArgs false
theorem infoSP : (Tryd.prog.info? 97).map (fun i => (i.zero, i.size, i.bytes)) = some (some (.agg #[.bool false, .int .i64 0, .int .i64 0, .int .i64 0]), 4, 32) := by kernel_rfl
theorem grown_undrewM {w w' : World} {row : Option Nat} (h : w.drew.grownBy w' row) : w.grownBy w' row := ⟨h.os, h.tape, h.output, h.size, h.block⟩
def spV1 (s : Sp) : List Value := [.bool s.fk, .int .i64 s.cs, .int .i64 s.nx, .int .i64 s.ot]
def spV : List Sp → List Value
  | [] => []
  | s :: t => spV1 s ++ spV t
theorem spV_len : ∀ M : List Sp, (spV M).length = M.length * 4
  | [] => rfl
  | s :: t => by rw [spV, List.length_append, spV_len t, List.length_cons]; show 4 + _ = _; omega
theorem spV_app : ∀ (M : List Sp) (s : Sp), spV (M ++ [s]) = spV M ++ spV1 s
  | [], s => by rw [List.nil_append, spV, spV, spV, List.append_nil, List.nil_append]
  | a :: t, s => by rw [List.cons_append, spV, spV, spV_app t s, List.append_assoc]
theorem spV_at : ∀ (M : List Sp) (k : Nat) (s : Sp), M[k]? = some s → ∀ i, i < 4 → (spV M)[k * 4 + i]? = (spV1 s)[i]?
  | [], k, s, h, i, hi => by simp at h
  | a :: t, 0, s, h, i, hi => by
    simp at h; subst h
    rw [spV, List.getElem?_append_left (by show 0 * 4 + i < 4; omega), Nat.zero_mul, Nat.zero_add]
  | a :: t, k + 1, s, h, i, hi => by
    rw [spV, List.getElem?_append_right (by show 4 ≤ _; omega)]
    have e : (k + 1) * 4 + i - (spV1 a).length = k * 4 + i := by show _ - 4 = _; omega
    rw [e]
    exact spV_at t k s (by simpa using h) i hi
theorem spV_set : ∀ (M : List Sp) (k : Nat) (s : Sp), k < M.length → spV (M.set k s) = ((((spV M).set (k * 4) (.bool s.fk)).set (k * 4 + 1) (.int .i64 s.cs)).set (k * 4 + 2) (.int .i64 s.nx)).set (k * 4 + 3) (.int .i64 s.ot)
  | [], k, s, h => by simp at h
  | a :: t, 0, s, h => by rfl
  | a :: t, k + 1, s, h => by
    have e : ∀ i, (k + 1) * 4 + i = (k * 4 + i) + 1 + 1 + 1 + 1 := fun i => by omega
    have e0 : (k + 1) * 4 = (k * 4) + 1 + 1 + 1 + 1 := by omega
    rw [List.set_cons_succ, spV, spV_set t k s (by simpa using h), spV, e 1, e 2, e 3, e0]
    rfl
/-- What a call leaves: memory below B, and all that was there but the machine and rows of places. -/
def Bf (B R : Nat) (w w' : World) : Prop := Below B w w' ∧ Kp (fun j => j = R ∨ ∃ cur, w.heap[j]? = some (.cells cur 97 (0, 0))) w w'
theorem bf_trans {B R : Nat} {w w1 w2 : World} (h : Bf B R w w1) (k : Bf B R w1 w2) : Bf B R w w2 := by
  refine ⟨h.1.trans k.1, h.2.trans k.2 (fun j hj hT => ?_)⟩
  by_cases hs : j = R ∨ ∃ cur, w.heap[j]? = some (.cells cur 97 (0, 0))
  · exact hs
  · have e := h.2.block j hj hs
    rcases hT with e1 | ⟨cur, hc⟩
    · exact .inl e1
    · rw [e] at hc
      exact .inr ⟨cur, hc⟩
theorem bf_refl (B R : Nat) (w : World) : Bf B R w w := ⟨Below.refl _ _, Kp.refl _ _⟩
theorem bf_alloc {B R : Nat} {w : World} (h : B ≤ w.heap.size) (o : Obj) : Bf B R w (w.alloc o) := ⟨(Below.refl _ _).alloc h _, kp_alloc _ _⟩
theorem bf_go {B R : Nat} {w w' : World} (h : B ≤ w.heap.size) (k : Below w.heap.size w w') : Bf B R w w' := ⟨k.mono h, ⟨k.os, k.tape, k.output, k.size, fun j hj _ => k.block j hj⟩⟩
theorem bf_drew {B R : Nat} {w w' : World} (h : Bf B R w w') : Bf B R w w'.drew := ⟨h.1.trans ⟨rfl, rfl, rfl, Nat.le_refl _, fun _ _ => rfl⟩, h.2.trans (kp_drew (S := fun _ => False) _) (fun _ _ x => x.elim)⟩
/-- A node in a block of its own. -/
def BXm (w : World) (G : Nat) (kd : Int) (nt : Bool) (a : Option Addr) (n c : Nat) (A B mn mx : Int) : Prop := w.heap[G]? = some (.cells #[.int .i64 kd, .bool nt, .slice a n c, .int .i64 A, .int .i64 B, .int .i64 mn, .int .i64 mx] 43 (0, 0))
theorem bf_node {B R : Nat} {w w' : World} {G : Nat} {kd : Int} {nt : Bool} {a : Option Addr} {n c : Nat} {A B' mn mx : Int} (h : Bf B R w w') (hn : BXm w G kd nt a n c A B' mn mx) (hR : G ≠ R) : BXm w' G kd nt a n c A B' mn mx := by
  unfold BXm at hn ⊢
  refine (h.2.block G (Array.getElem?_eq_some_iff.1 hn).1 ?_).trans hn
  rintro (e | ⟨cur, hc⟩)
  · exact hR e
  · rw [hn] at hc
    simp only [Option.some.injEq, Obj.cells.injEq] at hc
    exact absurd hc.2.1 (by decide)
theorem bx_nd {w : World} {G : Nat} {kd : Int} {nt : Bool} {a : Option Addr} {n c : Nat} {A B mn mx : Int} (h : BXm w G kd nt a n c A B mn mx) : NodeAt w G kd nt a n c A B mn mx := ⟨_, h⟩
theorem bx_new (w : World) (kd : Int) (nt : Bool) (a : Option Addr) (n c : Nat) (A B mn mx : Int) : BXm (w.alloc (.cells #[.int .i64 kd, .bool nt, .slice a n c, .int .i64 A, .int .i64 B, .int .i64 mn, .int .i64 mx] 43)) w.heap.size kd nt a n c A B mn mx := heap_alloc_new w _
/-- The machine's cells. -/
def MX (w : World) (R : Nat) (v0 v2 v3 : Value) (sa : Option Addr) (m sc : Nat) : Prop := w.heap[R]? = some (.cells #[v0, .slice sa m sc, v2, v3] 61 (0, 0))
/-- The machine, with its row of places. -/
def MA (B : Nat) (w : World) (R : Nat) (v0 v2 v3 : Value) (M : List Sp) : Prop := B ≤ R ∧ ∃ sa sc, MX w R v0 v2 v3 sa M.length sc ∧ w.ownsRow B 97 4 (.slice sa M.length sc) M.length (spV M)
section
variable {w w' : World} {B R m sc : Nat} {v0 v2 v3 : Value} {sa : Option Addr} {M : List Sp}
theorem mx_cells (h : MX w R v0 v2 v3 sa m sc) : w.cell? ⟨R, 0, none⟩ = some v0 ∧ w.cell? ⟨R, 1, none⟩ = some (.slice sa m sc) ∧ w.cell? ⟨R, 2, none⟩ = some v2 ∧ w.cell? ⟨R, 3, none⟩ = some v3 := by
  have e : ∀ i, w.cell? ⟨R, i, none⟩ = (#[v0, .slice sa m sc, v2, v3] : Array Value)[i]? := fun i => by rw [cell_of_row w R i _ _ (0, 0) h]
  exact ⟨e 0, e 1, e 2, e 3⟩
theorem mx_frozen (h : MX w R v0 v2 v3 sa m sc) (i : Nat) : w.frozen? ⟨R, i, none⟩ = false := frozen_of_row w R i _ _ h
theorem mx_lt (h : MX w R v0 v2 v3 sa m sc) : R < w.heap.size := (Array.getElem?_eq_some_iff.1 h).1
theorem mx_o (h : MX w R v0 v2 v3 sa m sc) (sa' : Option Addr) (m' sc' : Nat) : MX (w.setCell ⟨R, 1, none⟩ (.slice sa' m' sc')) R v0 v2 v3 sa' m' sc' := heap_setCell_same w R 1 _ _ (.slice sa' m' sc') h
theorem ma_kp {S : Nat → Prop} (h : MA B w R v0 v2 v3 M) (k : Kp S w w') (hR : ¬ S R) (hS : ∀ j cur, S j → w.heap[j]? ≠ some (.cells cur 97 (0, 0))) : MA B w' R v0 v2 v3 M := by
  obtain ⟨h0, sa, sc, h1, h2⟩ := h
  refine ⟨h0, sa, sc, (k.block R (mx_lt h1) hR).trans h1, own_kp h2 k (fun j hj hs => ?_)⟩
  obtain ⟨cur, hc⟩ := own_type h2 hj
  exact hS j cur hs hc
theorem ma_go (h : MA B w R v0 v2 v3 M) (k : Below w.heap.size w w') : MA B w' R v0 v2 v3 M := ma_kp (S := fun j => w.heap.size ≤ j) h ⟨k.os, k.tape, k.output, k.size, fun j hj _ => k.block j hj⟩ (fun hs => by obtain ⟨h0, sa, sc, h1, h2⟩ := h; have := mx_lt h1; have hs' : w.heap.size ≤ R := hs; omega) (fun j cur hs e => by have hs' : w.heap.size ≤ j := hs; rw [Array.getElem?_eq_none hs'] at e; cases e)
theorem ma_lt (h : MA B w R v0 v2 v3 M) : B ≤ w.heap.size ∧ R < w.heap.size := by
  obtain ⟨h0, sa, sc, h1, h2⟩ := h
  have := mx_lt h1
  exact ⟨by omega, this⟩
/-- A place of the row. -/
theorem ma_at (h : MA B w R v0 v2 v3 M) : ∃ sa sc, w.cell? ⟨R, 0, none⟩ = some v0 ∧ w.cell? ⟨R, 1, none⟩ = some (.slice sa M.length sc) ∧ w.cell? ⟨R, 2, none⟩ = some v2 ∧ w.cell? ⟨R, 3, none⟩ = some v3 ∧ ∀ k s, M[k]? = some s → ∃ g, sa = some ⟨g, 0, none⟩ ∧ g < w.heap.size ∧ w.cell? ⟨g, k * 4, none⟩ = some (.bool s.fk) ∧ w.cell? ⟨g, k * 4 + 1, none⟩ = some (.int .i64 s.cs) ∧ w.cell? ⟨g, k * 4 + 2, none⟩ = some (.int .i64 s.nx) ∧ w.cell? ⟨g, k * 4 + 3, none⟩ = some (.int .i64 s.ot) := by
  obtain ⟨h0, sa, sc, h1, h2⟩ := h
  obtain ⟨c0, c1, c2, c3⟩ := mx_cells h1
  refine ⟨sa, sc, c0, c1, c2, c3, fun k s hk => ?_⟩
  have hl : k < M.length := (List.getElem?_eq_some_iff.1 hk).1
  have hx := spV_at M k s hk
  rcases h2.2 with ⟨-, hz⟩ | ⟨g, cap, cur, hv, hg⟩
  · omega
  · simp only [Value.slice.injEq] at hv
    obtain ⟨rfl, -, -⟩ := hv
    have ha : ∀ i, i < 4 → w.cell? ⟨g, k * 4 + i, none⟩ = (spV1 s)[i]? := fun i hi => by
      rw [World.ownsRow.cellAt h2 (k * 4 + i) (by omega), hx i hi]
    exact ⟨g, rfl, (h2.lt g rfl).2, ha 0 (by omega), ha 1 (by omega), ha 2 (by omega), ha 3 (by omega)⟩
theorem ma_fin {s : Sp} {gg cap' : Nat} {w9 : World} {o : Obj} (hm : M.length = m) (h0 : B ≤ R) (h1 : MX w R v0 v2 v3 sa M.length sc) (h2 : w.ownsRow B 97 4 (.slice sa M.length sc) M.length (spV M))
    (hown9 : w9.ownsRow B 97 4 (.slice (some ⟨gg, 0, none⟩) (m + 1) cap') (m + 1) (spV M ++ [.bool s.fk, .int .i64 s.cs, .int .i64 s.nx, .int .i64 s.ot])) (hg : (w.alloc o).grownBy w9 (Value.slice sa m sc).ownBlock) :
    w9.cell? ⟨R, 1, none⟩ = some (.slice sa m sc) ∧ w9.frozen? ⟨R, 1, none⟩ = false ∧ MA B (w9.setCell ⟨R, 1, none⟩ (.slice (some ⟨gg, 0, none⟩) (m + 1) cap')) R v0 v2 v3 (M ++ [s]) ∧ Bf B R w (w9.setCell ⟨R, 1, none⟩ (.slice (some ⟨gg, 0, none⟩) (m + 1) cap')) := by
  subst hm
  have hlt := mx_lt h1
  have hkp : Kp (fun j => (Value.slice sa M.length sc).ownBlock = some j) w w9 := (kp_alloc w o).trans (kp_grown (S := fun j => (Value.slice sa M.length sc).ownBlock = some j) hg (fun j hj => hj)) (fun j _ hj => hj)
  have r9 : MX w9 R v0 v2 v3 sa M.length sc := (hkp.block R hlt (fun e => type_ne h2 e h1 (by decide) rfl)).trans h1
  have b9 : Below B w w9 := kp_below hkp (by omega) (fun k hk9 => (h2.lt k hk9).1)
  have hkp2 : Kp (fun j => j = R ∨ ∃ cur, w.heap[j]? = some (.cells cur 97 (0, 0))) w w9 := ⟨hkp.os, hkp.tape, hkp.output, hkp.size, fun j hj hs => hkp.block j hj (fun e => hs (.inr (own_type h2 e)))⟩
  have ks : Kp (fun j => j = R) w9 (w9.setCell ⟨R, 1, none⟩ (.slice (some ⟨gg, 0, none⟩) (M.length + 1) cap')) := kp_set (S := fun j => j = R) _ _ _ rfl
  have bs : Below B w9 (w9.setCell ⟨R, 1, none⟩ (.slice (some ⟨gg, 0, none⟩) (M.length + 1) cap')) := kp_below ks (by have := hkp.size; omega) (fun j hj => by have hj' : j = R := hj; omega)
  have hl : (M ++ [s]).length = M.length + 1 := by simp
  refine ⟨(mx_cells r9).2.1, mx_frozen r9 1, ⟨h0, some ⟨gg, 0, none⟩, cap', ?_, ?_⟩, b9.trans bs, hkp2.trans ks (fun j _ hj => .inl hj)⟩
  · rw [hl]; exact mx_o r9 _ _ _
  · rw [hl, spV_app]
    exact own_kp hown9 ks (fun j hj => type_ne hown9 hj r9 (by decide))
end
set_option maxRecDepth 100000 in
set_option maxHeartbeats 8000000 in
theorem i_addM (B R : Nat) (v0 v2 v3 : Value) (M : List Sp) (s : Sp) (m : Nat) (w : World) (hM : M.length = m) (hX : m ≤ 400000) (h : MA B w R v0 v2 v3 M) :
    Calls Tryd.prog 52 #[.pointer (some ⟨R, 0, none⟩), .agg #[.bool s.fk, .int .i64 s.cs, .int .i64 s.nx, .int .i64 s.ot]] w fun e w' => e = .returned (.int .i64 m) ∧ MA B w' R v0 v2 v3 (M ++ [s]) ∧ Bf B R w w' := by
  obtain ⟨i0, hi0, hz0, hz1, hz2⟩ := info_parts infoSP
  obtain ⟨fk, cs, nx, ot⟩ := s
  have hbB := ma_lt h
  have bA : Bf B R w (w.alloc (.cells #[.bool fk, .int .i64 cs, .int .i64 nx, .int .i64 ot] 97)) := bf_alloc hbB.1 _
  have hA := ma_go h ((Below.refl w.heap.size w).alloc (Nat.le_refl _) (.cells #[.bool fk, .int .i64 cs, .int .i64 nx, .int .i64 ot] 97))
  have hG := heap_alloc_new w (.cells #[.bool fk, .int .i64 cs, .int .i64 nx, .int .i64 ot] 97)
  have hsz : w.heap.size < (w.alloc (.cells #[.bool fk, .int .i64 cs, .int .i64 nx, .int .i64 ot] 97)).heap.size := by simp
  obtain ⟨G, hGw⟩ : ∃ G, w.heap.size = G := ⟨_, rfl⟩
  go_enter Tryd.func52, Tryd.ntmps52
  go_wp2_with fail
  obtain ⟨W, hW⟩ : ∃ W, w.alloc (.cells #[.bool fk, .int .i64 cs, .int .i64 nx, .int .i64 ot] 97) = W := ⟨_, rfl⟩
  rw [hGw] at hG hsz
  rw [hW] at hG hA hsz bA
  rw [hW]
  clear hW
  obtain ⟨h0, sa, sc, h1, h2⟩ := hA
  have hBW : B ≤ W.heap.size := by omega
  have hRW := mx_lt h1
  have cG : ∀ i, W.drew.cell? ⟨G, i, none⟩ = (#[.bool fk, .int .i64 cs, .int .i64 nx, .int .i64 ot] : Array Value)[i]? := fun i => by rw [cell_of_row W.drew G i _ _ (0, 0) hG]
  have g0 : W.drew.cell? ⟨G, 0, none⟩ = some (.bool fk) := cG 0
  have g1 : W.drew.cell? ⟨G, 1, none⟩ = some (.int .i64 cs) := cG 1
  have g2 : W.drew.cell? ⟨G, 2, none⟩ = some (.int .i64 nx) := cG 2
  have g3 : W.drew.cell? ⟨G, 3, none⟩ = some (.int .i64 ot) := cG 3
  have r1 : W.drew.cell? ⟨R, 1, none⟩ = some (.slice sa M.length sc) := (mx_cells (w := W.drew) h1).2.1
  have r1a : ∀ o, (W.alloc o).cell? ⟨R, 1, none⟩ = some (.slice sa M.length sc) := fun o => (mx_cells (w := W.alloc o) ((kp_alloc (S := fun _ => False) W o).block R hRW (fun x => x) |>.trans h1)).2.1
  have r1b : ∀ o, (W.alloc o).drew.cell? ⟨R, 1, none⟩ = some (.slice sa M.length sc) := fun o => r1a o
  have H1 := hide h1
  have H2 := hide h2
  have HOW := hide h2
  have HA := hide bA
  have HM := hide hM
  rw [hM] at r1 r1a r1b HOW
  clear cG h1 h2 bA h hG hM hGw hbB
  go_region_law (first
    | (refine step_append_lies _ (by rfl) _ _ _ (by rfl) B 97 i0 _ 4 32 Tryd.underlying57 hi0 hz0 hz1 hz2 rfl (by omega) (.slice sa m sc) m (spV M) (by rfl) (HOW.out.alloc _).drew ⟨W.heap.size, 0, none⟩ 1 1 [.bool fk, .int .i64 cs, .int .i64 nx, .int .i64 ot] (by rfl) (by rfl) (World.news_of_block (cs := #[.bool fk, .int .i64 cs, .int .i64 nx, .int .i64 ot]) (t := 97) (fr := (0, 0)) (heap_alloc_new W _)) (by simp [Value.oneCell']) (by omega) (by unfold maxLen; omega) (by omega) (by simp; omega) (W.heap.size + 1) (by simp) ?_; intro gg cap' w9 hown9 hgrow9 hat9 hlt9; have hgr9 := grown_undrewM hgrow9; obtain ⟨hc9, hf9, h9, hb9⟩ := ma_fin (s := ⟨fk, cs, nx, ot⟩) HM.out h0 H1.out H2.out hown9 hgr9; have H9 := hide h9; have HB9 := hide (bf_trans HA.out hb9); clear hown9 hgrow9 hgr9 hat9 h9 hb9)
    | (fail))
  all_goals
    obtain ⟨sa9, sc9, d0, d1, d2, d3, -⟩ := ma_at H9.out
    rw [List.length_append, HM.out] at d1
    have e1 : IntKind.i64.wrap (((m + [(⟨fk, cs, nx, ot⟩ : Sp)].length : Nat) : Int) - 1) = (m : Int) := by rw [IntKind.wrap_i64]; simp; omega
    clear hc9 hf9
    go_wp2
    go_ret
    refine ⟨?_, H9.out, HB9.out⟩
    first | rfl | (congr 2; omega) | (simp; omega)
end Go.Proofs.YtepommmmmfaihaaDoor
