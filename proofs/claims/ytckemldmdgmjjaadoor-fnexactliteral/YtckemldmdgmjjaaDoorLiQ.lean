/-
  Contracts: two rows of expression nodes that are alike are told so.
-/
import Derived.Test.YtckemldmdgmjjaaDoorBase
import Derived.Test.YtckemldmdgmjjaaDoorChecked
import Derived.WalkKit
import Derived.Below
import Derived.OwnWalk
import Derived.Laws.OwnMore
import Derived.RegionTactic
import Derived.Deep.QuietTactic
import Derived.Deep.RegionWith
import Derived.BigQuiet
import Derived.Deep.Draws
import Derived.KernelRfl
import Derived.Deep.RegionHeld3
import Derived.Lib.SmallJoins
namespace Go.Proofs.YtckemldmdgmjjaaDoor
open Go.RowKit Go.Joins
set_option linter.unusedVariables false
set_option linter.unusedSimpArgs false
/-- What is laid of a row of ranges: its first 'n' pairs of cells hold L and H, in a block below 'B'. -/
def RngAt (w : World) (a : Option Addr) (n : Nat) (L H : Nat → Int) (B : Nat) : Prop :=
  0 < n → ∃ b off, a = some ⟨b, off, none⟩ ∧ b < B ∧ ∀ j, j < n → w.cell? ⟨b, off + j * 2, none⟩ = some (.int .i64 (L j)) ∧ w.cell? ⟨b, off + j * 2 + 1, none⟩ = some (.int .i64 (H j))
theorem rngAt_go {w w' : World} {a : Option Addr} {n : Nat} {L H : Nat → Int} {B : Nat} (h : RngAt w a n L H B) (k : Below B w w') : RngAt w' a n L H B := fun h0 => by
  obtain ⟨b, off, e, hb, hc⟩ := h h0
  exact ⟨b, off, e, hb, fun j hj => ⟨(k.cell (p := ⟨b, off + j * 2, none⟩) hb).trans (hc j hj).1, (k.cell (p := ⟨b, off + j * 2 + 1, none⟩) hb).trans (hc j hj).2⟩⟩
theorem rngAt_up {w : World} {a : Option Addr} {n : Nat} {L H : Nat → Int} {B B' : Nat} (h : RngAt w a n L H B) (k : B ≤ B') : RngAt w a n L H B' := fun h0 => by
  obtain ⟨b, off, e, hb, hc⟩ := h h0
  exact ⟨b, off, e, Nat.lt_of_lt_of_le hb k, hc⟩

theorem l_eqR (l h : Int) (w : World) : Calls Tryd.prog 20 #[.agg #[.int .i64 l, .int .i64 h], .agg #[.int .i64 l, .int .i64 h]] w fun e w' => e = .returned (.bool true) ∧ Below w.heap.size w w' := by
  go_enter Tryd.func20, Tryd.ntmps20
  go_wp2
  go_ret
  exact ⟨rfl, ((Below.refl _ _).alloc (Nat.le_refl _) _).alloc (by simp) _⟩
def EQ (w w' : World) (p q : Addr) (l h : Int) : Prop := Below w.heap.size w w' ∧ (p.block < w.heap.size ∧ q.block < w.heap.size) ∧
  (w'.cell? p = some (.int .i64 l) ∧ w'.cell? ⟨p.block, p.off + 1, p.spot⟩ = some (.int .i64 h)) ∧ (w'.cell? q = some (.int .i64 l) ∧ w'.cell? ⟨q.block, q.off + 1, q.spot⟩ = some (.int .i64 h))
theorem eq_go {w w1 w2 : World} {p q : Addr} {l h : Int} (x : EQ w w1 p q l h) (k : Below w1.heap.size w1 w2) : EQ w w2 p q l h := by
  obtain ⟨hb, ⟨h1, h2⟩, ⟨c1, c2⟩, ⟨c3, c4⟩⟩ := x
  have s := hb.size
  exact ⟨hb.trans (k.mono s), ⟨h1, h2⟩, ⟨(k.cell (p := p) (by omega)).trans c1, (k.cell (p := ⟨p.block, p.off + 1, p.spot⟩) (by simp; omega)).trans c2⟩, ⟨(k.cell (p := q) (by omega)).trans c3, (k.cell (p := ⟨q.block, q.off + 1, q.spot⟩) (by simp; omega)).trans c4⟩⟩
theorem eq_drew {w w1 : World} {p q : Addr} {l h : Int} (x : EQ w w1 p q l h) : EQ w w1.drew p q l h := eq_go x ⟨rfl, rfl, rfl, Nat.le_refl _, fun _ _ => rfl⟩
theorem eq_all {w w1 : World} {b o b' o' : Nat} {l h : Int} (x : EQ w w1 ⟨b, o, none⟩ ⟨b', o', none⟩ l h) : EQ w w1 ⟨b, o, none⟩ ⟨b', o', none⟩ l h ∧ w1.cell? ⟨b, o, none⟩ = some (.int .i64 l) ∧ w1.cell? ⟨b, o + 1, none⟩ = some (.int .i64 h) ∧ w1.cell? ⟨b', o', none⟩ = some (.int .i64 l) ∧ w1.cell? ⟨b', o' + 1, none⟩ = some (.int .i64 h) :=
  ⟨x, x.2.2.1.1, x.2.2.1.2, x.2.2.2.1, x.2.2.2.2⟩
set_option maxHeartbeats 1000000 in
theorem l_eqRs (a1 a2 : Option Addr) (n c1 c2 : Nat) (L H : Nat → Int) (w : World) (hn : n ≤ 1048576) (h1 : RngAt w a1 n L H w.heap.size) (h2 : RngAt w a2 n L H w.heap.size) :
    Calls Tryd.prog 17 #[.slice a1 n c1, .slice a2 n c2] w fun e w' => e = .returned (.bool true) ∧ Below w.heap.size w w' := by
  have H1 := hide h1
  have H2 := hide h2
  clear h1 h2
  go_enter Tryd.func17, Tryd.ntmps17
  go_wp2
  go_loopw [5] (fun i wr => ∃ k : Nat, k ≤ n ∧ i = .int .i64 k ∧ Below w.heap.size w wr) (fun i _ => n - (intOf i).toNat)
  case atStart => exact ⟨0, Nat.zero_le _, rfl, Below.refl _ _⟩
  case round =>
    obtain ⟨k, hk, rfl, hb⟩ := hrel
    by_cases hlt : k < n
    · obtain ⟨b, off, rfl, hbs, hc⟩ := H1.out (by omega)
      obtain ⟨b', off', rfl, hbs', hc'⟩ := H2.out (by omega)
      have X : Hid (EQ w wr ⟨b, off + k * 2, none⟩ ⟨b', off' + k * 2, none⟩ (L k) (H k)) := ⟨hb, ⟨hbs, hbs'⟩, ⟨(hb.cell hbs).trans (hc k hlt).1, (hb.cell (p := ⟨b, off + k * 2 + 1, none⟩) hbs).trans (hc k hlt).2⟩, ⟨(hb.cell hbs').trans (hc' k hlt).1, (hb.cell (p := ⟨b', off' + k * 2 + 1, none⟩) hbs').trans (hc' k hlt).2⟩⟩
      have hi : (k : Int) < (n : Int) := by omega
      have hi0 : (0 : Int) ≤ (k : Int) := by omega
      clear hc hc' hb
      go_wp2
      go_region_held3 (fun w' => EQ w w' ⟨b, off + k * 2, none⟩ ⟨b', off' + k * 2, none⟩ (L k) (H k) ∧ w'.cell? ⟨b, off + k * 2, none⟩ = some (.int .i64 (L k)) ∧ w'.cell? ⟨b, off + k * 2 + 1, none⟩ = some (.int .i64 (H k)) ∧ w'.cell? ⟨b', off' + k * 2, none⟩ = some (.int .i64 (L k)) ∧ w'.cell? ⟨b', off' + k * 2 + 1, none⟩ = some (.int .i64 (H k))) (first | assumption | exact eq_all (eq_drew X.out) | exact eq_all X.out) (first | (go_at_call 20; refine (l_eqR _ _ _).mono ?_; rintro e w2 ⟨rfl, hb2⟩; have X2 := hide (eq_go (eq_drew X.out) hb2); replace X := X2; clear X2 hb2))
      all_goals
        go_wp2
        go_roundw
        case rel => exact ⟨k + 1, by omega, by go_num, X.out.1⟩
        case measure => simp [intOf]; omega
    · go_wp2
      go_ret
      exact ⟨rfl, hb⟩
/-- A node lies in block G. -/
def NodeAt (w : World) (G : Nat) (kd : Int) (nt : Bool) (a : Option Addr) (n c : Nat) (A B mn mx : Int) : Prop :=
  ∃ T, w.heap[G]? = some (.cells #[.int .i64 kd, .bool nt, .slice a n c, .int .i64 A, .int .i64 B, .int .i64 mn, .int .i64 mx] T (0, 0))
section
variable {w w1 : World} {G : Nat} {kd : Int} {nt : Bool} {a : Option Addr} {n c : Nat} {A B mn mx : Int}
theorem nodeAt_lt (h : NodeAt w G kd nt a n c A B mn mx) : G < w.heap.size := by
  obtain ⟨T, h⟩ := h
  exact (Array.getElem?_eq_some_iff.1 h).1
theorem nodeAt_go (h : NodeAt w G kd nt a n c A B mn mx) (k : Below w.heap.size w w1) : NodeAt w1 G kd nt a n c A B mn mx := by
  have hl := nodeAt_lt h
  obtain ⟨T, h⟩ := h
  exact ⟨T, (k.block G hl).trans h⟩
theorem nodeAt_at {X : Nat} (h : NodeAt w G kd nt a n c A B mn mx) (k : Below X w w1) (hG : G < X) : NodeAt w1 G kd nt a n c A B mn mx := by
  obtain ⟨T, h⟩ := h
  exact ⟨T, (k.block G hG).trans h⟩
theorem nodeAt_new (w : World) (kd : Int) (nt : Bool) (a : Option Addr) (n c : Nat) (A B mn mx : Int) (T : TypeId) : NodeAt (w.alloc (.cells #[.int .i64 kd, .bool nt, .slice a n c, .int .i64 A, .int .i64 B, .int .i64 mn, .int .i64 mx] T)) w.heap.size kd nt a n c A B mn mx := ⟨T, heap_alloc_new w _⟩
theorem nodeAt_cells (h : NodeAt w G kd nt a n c A B mn mx) : w.cell? ⟨G, 0, none⟩ = some (.int .i64 kd) ∧ w.cell? ⟨G, 1, none⟩ = some (.bool nt) ∧ w.cell? ⟨G, 2, none⟩ = some (.slice a n c) ∧ w.cell? ⟨G, 3, none⟩ = some (.int .i64 A) ∧ w.cell? ⟨G, 4, none⟩ = some (.int .i64 B) ∧ w.cell? ⟨G, 5, none⟩ = some (.int .i64 mn) ∧ w.cell? ⟨G, 6, none⟩ = some (.int .i64 mx) := by
  obtain ⟨T, h⟩ := h
  have e : ∀ i, w.cell? ⟨G, i, none⟩ = #[Value.int .i64 kd, .bool nt, .slice a n c, .int .i64 A, .int .i64 B, .int .i64 mn, .int .i64 mx][i]? := fun i => by rw [cell_of_row w G i _ T (0, 0) h]
  exact ⟨e 0, e 1, e 2, e 3, e 4, e 5, e 6⟩
theorem nodeAt_frozen (h : NodeAt w G kd nt a n c A B mn mx) (i : Nat) : w.frozen? ⟨G, i, none⟩ = false := by
  obtain ⟨T, h⟩ := h
  simp [World.frozen?, h]
end
theorem two_nodes {w w2 : World} {kd kd' : Int} {nt nt' : Bool} {a a' : Option Addr} {n c n' c' : Nat} {A B mn mx A' B' mn' mx' : Int} {T U : TypeId}
    (k : Below ((w.alloc (.cells #[.int .i64 kd, .bool nt, .slice a n c, .int .i64 A, .int .i64 B, .int .i64 mn, .int .i64 mx] T)).alloc (.cells #[.int .i64 kd', .bool nt', .slice a' n' c', .int .i64 A', .int .i64 B', .int .i64 mn', .int .i64 mx'] U)).heap.size
      ((w.alloc (.cells #[.int .i64 kd, .bool nt, .slice a n c, .int .i64 A, .int .i64 B, .int .i64 mn, .int .i64 mx] T)).alloc (.cells #[.int .i64 kd', .bool nt', .slice a' n' c', .int .i64 A', .int .i64 B', .int .i64 mn', .int .i64 mx'] U)) w2) :
    NodeAt w2 w.heap.size kd nt a n c A B mn mx ∧ NodeAt w2 (w.heap.size + 1) kd' nt' a' n' c' A' B' mn' mx' ∧ Below w.heap.size w w2 := by
  have h1 := nodeAt_new w kd nt a n c A B mn mx T
  have h2 := nodeAt_new (w.alloc (.cells #[.int .i64 kd, .bool nt, .slice a n c, .int .i64 A, .int .i64 B, .int .i64 mn, .int .i64 mx] T)) kd' nt' a' n' c' A' B' mn' mx' U
  have st : ∀ (x : World) (o : Obj), Below x.heap.size x (x.alloc o) := fun x o => (Below.refl _ _).alloc (Nat.le_refl _) _
  refine ⟨nodeAt_go (nodeAt_go h1 (st _ _)) k, ?_, ?_⟩
  · have := nodeAt_go h2 k
    simpa using this
  · exact (((Below.refl w.heap.size w).alloc (Nat.le_refl _) _).alloc (by simp) _).trans (k.mono (by simp; omega))
set_option maxHeartbeats 4000000 in
theorem l_eqN (kd : Int) (nt : Bool) (a a' : Option Addr) (n c c' : Nat) (A B mn mx : Int) (L H : Nat → Int) (w : World) (hn : n ≤ 1048576) (hr : RngAt w a n L H w.heap.size) (hr' : RngAt w a' n L H w.heap.size) : Calls Tryd.prog 12 #[.agg #[.int .i64 kd, .bool nt, .slice a n c, .int .i64 A, .int .i64 B, .int .i64 mn, .int .i64 mx], .agg #[.int .i64 kd, .bool nt, .slice a' n c', .int .i64 A, .int .i64 B, .int .i64 mn, .int .i64 mx]] w fun e w' => e = .returned (.bool true) ∧ Below w.heap.size w w' := by
  have HR := hide hr
  have HR' := hide hr'
  clear hr hr'
  go_enter Tryd.func12, Tryd.ntmps12
  go_wp2_with (go_at_call 17; refine (l_eqRs _ _ _ _ _ L H _ hn (rngAt_up (rngAt_go HR.out (((Below.refl _ _).alloc (Nat.le_refl _) _).alloc (by simp) _)) (by simp; omega)) (rngAt_up (rngAt_go HR'.out (((Below.refl _ _).alloc (Nat.le_refl _) _).alloc (by simp) _)) (by simp; omega))).mono ?_; rintro e w2 ⟨rfl, hb2⟩; have HX2 := hide (two_nodes hb2); obtain ⟨a0, a1, a2, a3, a4, a5, a6⟩ := nodeAt_cells HX2.out.1; obtain ⟨b0, b1, b2, b3, b4, b5, b6⟩ := nodeAt_cells HX2.out.2.1; clear hb2)
  go_ret
  exact ⟨rfl, HX2.out.2.2⟩
/-- A row of nodes, as numbers. -/
structure Rx where
  len : Nat
  K : Nat → Int
  A : Nat → Int
  B : Nat → Int
  MN : Nat → Int
  MX : Nat → Int
  NT : Nat → Bool
  NR : Nat → Nat
  L : Nat → Nat → Int
  H : Nat → Nat → Int
def RxCells (w : World) (b o : Nat) (X : Rx) (j : Nat) (ad : Option Addr) (cp : Nat) : Prop := w.cell? ⟨b, o, none⟩ = some (.int .i64 (X.K j)) ∧ w.cell? ⟨b, o + 1, none⟩ = some (.bool (X.NT j)) ∧ w.cell? ⟨b, o + 2, none⟩ = some (.slice ad (X.NR j) cp) ∧ w.cell? ⟨b, o + 3, none⟩ = some (.int .i64 (X.A j)) ∧ w.cell? ⟨b, o + 4, none⟩ = some (.int .i64 (X.B j)) ∧ w.cell? ⟨b, o + 5, none⟩ = some (.int .i64 (X.MN j)) ∧ w.cell? ⟨b, o + 6, none⟩ = some (.int .i64 (X.MX j))
def RxRow (w : World) (b off : Nat) (X : Rx) (B : Nat) : Prop := ∀ j, j < X.len → ∃ ad cp, RxCells w b (off + j * 7) X j ad cp ∧ RngAt w ad (X.NR j) (X.L j) (X.H j) B
def RxAt (w : World) (a : Option Addr) (X : Rx) (B : Nat) : Prop := 0 < X.len → ∃ b off, a = some ⟨b, off, none⟩ ∧ b < B ∧ RxRow w b off X B
theorem rxCells_go {w w' : World} {b o : Nat} {X : Rx} {j : Nat} {ad : Option Addr} {cp B : Nat} (h : RxCells w b o X j ad cp) (hb : b < B) (k : Below B w w') : RxCells w' b o X j ad cp := by
  obtain ⟨h0, h1, h2, h3, h4, h5, h6⟩ := h
  exact ⟨(k.cell (p := ⟨b, o, none⟩) hb).trans h0, (k.cell (p := ⟨b, o + 1, none⟩) hb).trans h1, (k.cell (p := ⟨b, o + 2, none⟩) hb).trans h2, (k.cell (p := ⟨b, o + 3, none⟩) hb).trans h3, (k.cell (p := ⟨b, o + 4, none⟩) hb).trans h4, (k.cell (p := ⟨b, o + 5, none⟩) hb).trans h5, (k.cell (p := ⟨b, o + 6, none⟩) hb).trans h6⟩
theorem rxRow_go {w w' : World} {b off : Nat} {X : Rx} {B : Nat} (h : RxRow w b off X B) (hb : b < B) (k : Below B w w') : RxRow w' b off X B := fun j hj => by
  obtain ⟨ad, cp, hc, hr⟩ := h j hj
  exact ⟨ad, cp, rxCells_go hc hb k, rngAt_go hr k⟩
theorem rxRow_up {w : World} {b off : Nat} {X : Rx} {B B' : Nat} (h : RxRow w b off X B) (k : B ≤ B') : RxRow w b off X B' := fun j hj => by
  obtain ⟨ad, cp, hc, hr⟩ := h j hj
  exact ⟨ad, cp, hc, rngAt_up hr k⟩
theorem rxAt_go {w w' : World} {a : Option Addr} {X : Rx} {B : Nat} (h : RxAt w a X B) (k : Below B w w') : RxAt w' a X B := fun h0 => by
  obtain ⟨b, off, e, hb, hr⟩ := h h0
  exact ⟨b, off, e, hb, rxRow_go hr hb k⟩
theorem rxAt_up {w : World} {a : Option Addr} {X : Rx} {B B' : Nat} (h : RxAt w a X B) (k : B ≤ B') : RxAt w a X B' := fun h0 => by
  obtain ⟨b, off, e, hb, hr⟩ := h h0
  exact ⟨b, off, e, Nat.lt_of_lt_of_le hb k, rxRow_up hr k⟩
def EQN (w w' : World) (b o b' o' : Nat) (X : Rx) (k : Nat) (ad : Option Addr) (cp : Nat) (ad' : Option Addr) (cp' : Nat) : Prop := Below w.heap.size w w' ∧ (b < w.heap.size ∧ b' < w.heap.size) ∧
  RxCells w' b o X k ad cp ∧ RxCells w' b' o' X k ad' cp' ∧ RngAt w' ad (X.NR k) (X.L k) (X.H k) w.heap.size ∧ RngAt w' ad' (X.NR k) (X.L k) (X.H k) w.heap.size
section
variable {w w1 w2 : World} {b o b' o' : Nat} {X : Rx} {k : Nat} {ad : Option Addr} {cp : Nat} {ad' : Option Addr} {cp' : Nat}
theorem eqn_go (x : EQN w w1 b o b' o' X k ad cp ad' cp') (h : Below w1.heap.size w1 w2) : EQN w w2 b o b' o' X k ad cp ad' cp' := by
  obtain ⟨hb, ⟨h1, h2⟩, c1, c2, r1, r2⟩ := x
  have hh := h.mono hb.size
  exact ⟨hb.trans hh, ⟨h1, h2⟩, rxCells_go c1 h1 hh, rxCells_go c2 h2 hh, rngAt_go r1 hh, rngAt_go r2 hh⟩
theorem eqn_drew (x : EQN w w1 b o b' o' X k ad cp ad' cp') : EQN w w1.drew b o b' o' X k ad cp ad' cp' := eqn_go x ⟨rfl, rfl, rfl, Nat.le_refl _, fun _ _ => rfl⟩
theorem eqn_all (x : EQN w w1 b o b' o' X k ad cp ad' cp') : EQN w w1 b o b' o' X k ad cp ad' cp' ∧ (w1.cell? ⟨b, o, none⟩ = some (.int .i64 (X.K k)) ∧ w1.cell? ⟨b, o + 1, none⟩ = some (.bool (X.NT k)) ∧ w1.cell? ⟨b, o + 2, none⟩ = some (.slice ad (X.NR k) cp) ∧ w1.cell? ⟨b, o + 3, none⟩ = some (.int .i64 (X.A k)) ∧ w1.cell? ⟨b, o + 4, none⟩ = some (.int .i64 (X.B k)) ∧ w1.cell? ⟨b, o + 5, none⟩ = some (.int .i64 (X.MN k)) ∧ w1.cell? ⟨b, o + 6, none⟩ = some (.int .i64 (X.MX k))) ∧ w1.cell? ⟨b', o', none⟩ = some (.int .i64 (X.K k)) ∧ w1.cell? ⟨b', o' + 1, none⟩ = some (.bool (X.NT k)) ∧ w1.cell? ⟨b', o' + 2, none⟩ = some (.slice ad' (X.NR k) cp') ∧ w1.cell? ⟨b', o' + 3, none⟩ = some (.int .i64 (X.A k)) ∧ w1.cell? ⟨b', o' + 4, none⟩ = some (.int .i64 (X.B k)) ∧ w1.cell? ⟨b', o' + 5, none⟩ = some (.int .i64 (X.MN k)) ∧ w1.cell? ⟨b', o' + 6, none⟩ = some (.int .i64 (X.MX k)) := ⟨x, x.2.2.1, x.2.2.2.1⟩
theorem eqn_r1 (x : EQN w w1 b o b' o' X k ad cp ad' cp') : RngAt w1 ad (X.NR k) (X.L k) (X.H k) w1.heap.size := rngAt_up x.2.2.2.2.1 x.1.size
theorem eqn_r2 (x : EQN w w1 b o b' o' X k ad cp ad' cp') : RngAt w1 ad' (X.NR k) (X.L k) (X.H k) w1.heap.size := rngAt_up x.2.2.2.2.2 x.1.size
end
set_option maxRecDepth 100000 in
set_option maxHeartbeats 4000000 in
theorem l_eqNs (X : Rx) (n : Nat) (a1 a2 : Option Addr) (c1 c2 : Nat) (w : World) (hX : X.len = n) (hn : n ≤ 1048576) (hnr : ∀ j, j < n → X.NR j ≤ 1048576) (h1 : RxAt w a1 X w.heap.size) (h2 : RxAt w a2 X w.heap.size) :
    Calls Tryd.prog 6 #[.slice a1 n c1, .slice a2 n c2] w fun e w' => e = .returned (.bool true) ∧ Below w.heap.size w w' := by
  have HX := hide hX
  have HNR := hide hnr
  have H1 := hide h1
  have H2 := hide h2
  clear h1 h2 hnr hX
  go_enter Tryd.func6, Tryd.ntmps6
  go_wp2
  go_loopw [5] (fun i wr => ∃ k : Nat, k ≤ n ∧ i = .int .i64 k ∧ Below w.heap.size w wr) (fun i _ => n - (intOf i).toNat)
  case atStart => exact ⟨0, Nat.zero_le _, rfl, Below.refl _ _⟩
  case round =>
    obtain ⟨k, hk, rfl, hb⟩ := hrel
    by_cases hlt : k < n
    · obtain ⟨b, off, rfl, hbs, hc⟩ := H1.out (by rw [HX.out]; omega)
      obtain ⟨b', off', rfl, hbs', hc'⟩ := H2.out (by rw [HX.out]; omega)
      obtain ⟨ad, cp, hk1, hr1⟩ := hc k (by rw [HX.out]; omega)
      obtain ⟨ad', cp', hk2, hr2⟩ := hc' k (by rw [HX.out]; omega)
      have hnk := HNR.out k hlt
      have XX : Hid (EQN w wr b (off + k * 7) b' (off' + k * 7) X k ad cp ad' cp') := ⟨hb, ⟨hbs, hbs'⟩, rxCells_go hk1 hbs hb, rxCells_go hk2 hbs' hb, rngAt_go hr1 hb, rngAt_go hr2 hb⟩
      have hi : (k : Int) < (n : Int) := by omega
      have hi0 : (0 : Int) ≤ (k : Int) := by omega
      clear hc hc' hb hk1 hk2 hr1 hr2
      go_wp2
      go_region_held3 (fun w' => EQN w w' b (off + k * 7) b' (off' + k * 7) X k ad cp ad' cp' ∧ (w'.cell? ⟨b, off + k * 7, none⟩ = some (.int .i64 (X.K k)) ∧ w'.cell? ⟨b, off + k * 7 + 1, none⟩ = some (.bool (X.NT k)) ∧ w'.cell? ⟨b, off + k * 7 + 2, none⟩ = some (.slice ad (X.NR k) cp) ∧ w'.cell? ⟨b, off + k * 7 + 3, none⟩ = some (.int .i64 (X.A k)) ∧ w'.cell? ⟨b, off + k * 7 + 4, none⟩ = some (.int .i64 (X.B k)) ∧ w'.cell? ⟨b, off + k * 7 + 5, none⟩ = some (.int .i64 (X.MN k)) ∧ w'.cell? ⟨b, off + k * 7 + 6, none⟩ = some (.int .i64 (X.MX k))) ∧ w'.cell? ⟨b', off' + k * 7, none⟩ = some (.int .i64 (X.K k)) ∧ w'.cell? ⟨b', off' + k * 7 + 1, none⟩ = some (.bool (X.NT k)) ∧ w'.cell? ⟨b', off' + k * 7 + 2, none⟩ = some (.slice ad' (X.NR k) cp') ∧ w'.cell? ⟨b', off' + k * 7 + 3, none⟩ = some (.int .i64 (X.A k)) ∧ w'.cell? ⟨b', off' + k * 7 + 4, none⟩ = some (.int .i64 (X.B k)) ∧ w'.cell? ⟨b', off' + k * 7 + 5, none⟩ = some (.int .i64 (X.MN k)) ∧ w'.cell? ⟨b', off' + k * 7 + 6, none⟩ = some (.int .i64 (X.MX k))) (first | assumption | exact eqn_all (eqn_drew XX.out) | exact eqn_all XX.out) (first | (go_at_call 12; refine (l_eqN _ _ _ _ _ _ _ _ _ _ _ (X.L k) (X.H k) _ hnk (eqn_r1 (And.left (by assumption))) (eqn_r2 (And.left (by assumption)))).mono ?_; rintro e w2 ⟨rfl, hb2⟩; have X2 := hide (eqn_go (eqn_drew XX.out) hb2); replace XX := X2; clear X2 hb2))
      all_goals
        go_wp2
        go_roundw
        case rel => exact ⟨k + 1, by omega, by go_num, XX.out.1⟩
        case measure => simp [intOf]; omega
    · go_wp2
      go_ret
      exact ⟨rfl, hb⟩
end Go.Proofs.YtckemldmdgmjjaaDoor
