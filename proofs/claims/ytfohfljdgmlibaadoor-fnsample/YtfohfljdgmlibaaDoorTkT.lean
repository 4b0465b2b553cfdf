/-
  Contract: what a node tells of its rows, and what follows what in them (the program's closure that calls itself).
-/
import Derived.Test.YtfohfljdgmlibaaDoorTkL
namespace Go.Proofs.YtfohfljdgmlibaaDoor
open Go.RowKit Go.Joins
set_option linter.unusedVariables false
set_option linter.unusedSimpArgs false
/-- The closure that tells. -/
def tellV (PB T TB : Nat) : Value := .func (.func 66) #[] #[.pointer (some ⟨PB, 0, none⟩), .pointer (some ⟨T, 0, none⟩), .pointer (some ⟨TB, 0, none⟩)]
/-- What stands while a model is gone through: the library's table, the captured variables, the model. -/
structure TkW (w : World) (D : Pn) (n b0 off cap PB T TB B0 : Nat) : Prop where
  tz : TzT w
  pb : CellsAt w PB #[.slice (some ⟨b0, off, none⟩) n cap]
  tb : CellsAt w TB #[tellV PB T TB]
  row : PnRow w b0 off D B0
  hb0 : b0 < B0
  hB : B0 ≤ T
  hsz : B0 ≤ w.heap.size
  htz : 0 < B0
  hPB : PB ≠ T
  hTB : TB ≠ T
theorem tkW_go {w w' : World} {D : Pn} {n b0 off cap PB T TB B0 : Nat} (h : TkW w D n b0 off cap PB T TB B0) (hg : w.grownBy w' (some T)) : TkW w' D n b0 off cap PB T TB B0 :=
  have hb := grown_below hg h.hB h.hsz
  ⟨fun j hj => (hb.cell (p := ⟨0, j, none⟩) h.htz).trans (h.tz j hj), cellsAt_grown h.pb hg h.hPB, cellsAt_grown h.tb hg h.hTB, pnRow_go h.row h.hb0 hb, h.hb0, h.hB, Nat.le_trans h.hsz hg.size, h.htz, h.hPB, h.hTB⟩
/-- What a node answers. -/
def TellA (D : Pn) (i T : Nat) (mv : Value) (F : Nat → Nat) (e : Nat) (w : World) (r : Ending) (w' : World) : Prop := ∃ (f l : Nat) (F' : Nat → Nat), r = .returned (.agg #[.bool (nl D i), .int .u64 (f : Int), .int .u64 (l : Int)]) ∧ BitS f (ed D false i) ∧ BitS l (ed D true i) ∧ LkB F F' (lk D i) ∧ CellsAt w' T (tkC mv F' e) ∧ w.grownBy w' (some T)
theorem tkW_drew {w : World} {D : Pn} {n b0 off cap PB T TB B0 : Nat} (h : TkW w D n b0 off cap PB T TB B0) : TkW w.drew D n b0 off cap PB T TB B0 := tkW_go h ⟨rfl, rfl, rfl, Nat.le_refl _, fun _ _ _ => rfl⟩
/-- What a call has in memory of its own while it goes through a node: its answer, the node, what the node tells so far, and the ways. -/
def TkB (w wr : World) (T : Nat) (rs nd : Array Value) (e : Bool) (f l : Nat) (mv : Value) (F : Nat → Nat) (e0 : Nat) : Prop := CellsAt wr w.heap.size rs ∧ CellsAt wr (w.heap.size + 1) nd ∧ CellsAt wr (w.heap.size + 1 + 1) #[.bool e, .int .u64 (f : Int), .int .u64 (l : Int)] ∧ CellsAt wr T (tkC mv F e0) ∧ w.grownBy wr (some T)
theorem tkB_go {w wr w2 : World} {T : Nat} {rs nd : Array Value} {e : Bool} {f l : Nat} {mv : Value} {F F2 : Nat → Nat} {e0 : Nat} (h : TkB w wr T rs nd e f l mv F e0) (hg : wr.grownBy w2 (some T)) (hc : CellsAt w2 T (tkC mv F2 e0)) (hT : T < w.heap.size) : TkB w w2 T rs nd e f l mv F2 e0 :=
  ⟨cellsAt_grown h.1 hg (by omega), cellsAt_grown h.2.1 hg (by omega), cellsAt_grown h.2.2.1 hg (by omega), hc, grown_trans9 h.2.2.2.2 hg⟩
theorem tkB_drew {w wr : World} {T : Nat} {rs nd : Array Value} {e : Bool} {f l : Nat} {mv : Value} {F : Nat → Nat} {e0 : Nat} (h : TkB w wr T rs nd e f l mv F e0) : TkB w wr.drew T rs nd e f l mv F e0 := ⟨h.1, h.2.1, h.2.2.1, h.2.2.2.1, grown_drew9 h.2.2.2.2⟩
theorem tkB_set {w wr : World} {T : Nat} {rs nd : Array Value} {e e' : Bool} {f l f' l' : Nat} {mv : Value} {F : Nat → Nat} {e0 : Nat} (h : TkB w wr T rs nd e f l mv F e0) (hT : T < w.heap.size) : TkB w (((wr.setCell ⟨w.heap.size + 1 + 1, 0, none⟩ (.bool e')).setCell ⟨w.heap.size + 1 + 1, 1, none⟩ (.int .u64 (f' : Int))).setCell ⟨w.heap.size + 1 + 1, 2, none⟩ (.int .u64 (l' : Int))) T rs nd e' f' l' mv F e0 := by
  obtain ⟨h1, h2, h3, h4, h5⟩ := h
  refine ⟨?_, ?_, ?_, ?_, ?_⟩
  · refine cellsAt_far (cellsAt_far (cellsAt_far h1 _ ?_) _ ?_) _ ?_ <;> (simp only []; omega)
  · refine cellsAt_far (cellsAt_far (cellsAt_far h2 _ ?_) _ ?_) _ ?_ <;> (simp only []; omega)
  · exact cellsAt_set (cellsAt_set (cellsAt_set h3 _) _) _
  · refine cellsAt_far (cellsAt_far (cellsAt_far h4 _ ?_) _ ?_) _ ?_ <;> (simp only []; omega)
  · refine grown_far (grown_far (grown_far h5 _ ?_) _ ?_) _ ?_ <;> (simp only []; omega)
theorem tkB_set0 {w wr : World} {T : Nat} {rs nd : Array Value} {e e' : Bool} {f l : Nat} {mv : Value} {F : Nat → Nat} {e0 : Nat} (h : TkB w wr T rs nd e f l mv F e0) (hT : T < w.heap.size) : TkB w (wr.setCell ⟨w.heap.size + 1 + 1, 0, none⟩ (.bool e')) T rs nd e' f l mv F e0 := by
  obtain ⟨h1, h2, h3, h4, h5⟩ := h
  exact ⟨cellsAt_far h1 _ (by simp only []; omega), cellsAt_far h2 _ (by simp only []; omega), cellsAt_set h3 _, cellsAt_far h4 _ (by simp only []; omega), grown_far h5 _ (by simp only []; omega)⟩
theorem tkB_own {w wr : World} {T : Nat} {rs nd : Array Value} {e : Bool} {f l : Nat} {mv : Value} {F : Nat → Nat} {e0 : Nat} (h : TkB w wr T rs nd e f l mv F e0) : wr.cell? ⟨w.heap.size + 1 + 1, 0, none⟩ = some (.bool e) ∧ wr.cell? ⟨w.heap.size + 1 + 1, 1, none⟩ = some (.int .u64 (f : Int)) ∧ wr.cell? ⟨w.heap.size + 1 + 1, 2, none⟩ = some (.int .u64 (l : Int)) ∧ wr.frozen? ⟨w.heap.size + 1 + 1, 0, none⟩ = false ∧ wr.frozen? ⟨w.heap.size + 1 + 1, 1, none⟩ = false ∧ wr.frozen? ⟨w.heap.size + 1 + 1, 2, none⟩ = false :=
  ⟨cellsAt_cell h.2.2.1 0, cellsAt_cell h.2.2.1 1, cellsAt_cell h.2.2.1 2, cellsAt_frozen h.2.2.1 0, cellsAt_frozen h.2.2.1 1, cellsAt_frozen h.2.2.1 2⟩
/-- The answer is written. -/
theorem tkB_end {w wr : World} {T : Nat} {rs nd : Array Value} {e : Bool} {f l : Nat} {mv : Value} {F : Nat → Nat} {e0 : Nat} {a b c : Value} (h : TkB w wr T rs nd e f l mv F e0) (hT : T < w.heap.size) : CellsAt (((wr.setCell ⟨w.heap.size, 0, none⟩ a).setCell ⟨w.heap.size, 1, none⟩ b).setCell ⟨w.heap.size, 2, none⟩ c) T (tkC mv F e0) := by
  refine cellsAt_far (cellsAt_far (cellsAt_far h.2.2.2.1 _ ?_) _ ?_) _ ?_ <;> (simp only []; omega)
theorem tkB_end2 {w wr : World} {T : Nat} {rs nd : Array Value} {e : Bool} {f l : Nat} {mv : Value} {F : Nat → Nat} {e0 : Nat} {a b c : Value} (h : TkB w wr T rs nd e f l mv F e0) (hT : T < w.heap.size) : w.grownBy (((wr.setCell ⟨w.heap.size, 0, none⟩ a).setCell ⟨w.heap.size, 1, none⟩ b).setCell ⟨w.heap.size, 2, none⟩ c) (some T) := by
  refine grown_far (grown_far (grown_far h.2.2.2.2 _ ?_) _ ?_) _ ?_ <;> (simp only []; omega)
theorem i_often (oc : Int) (w : World) : Calls Tryd.prog 69 #[.int .i64 oc] w fun r w' => r = .returned (.bool (decide (oc = 2 ∨ oc = 3))) ∧ w' = w := by
  by_cases h1 : oc = 2
  · subst h1
    go_enter Tryd.func69, Tryd.ntmps69
    go_wp2
    go_ret
    exact ⟨rfl, rfl⟩
  · have f1 : (oc == 2) = false := by simpa using h1
    by_cases h2 : oc = 3
    · subst h2
      go_enter Tryd.func69, Tryd.ntmps69
      go_wp2
      go_ret
      exact ⟨rfl, rfl⟩
    · have f2 : (oc == 3) = false := by simpa using h2
      have HD : Hid (decide (oc = 2 ∨ oc = 3) = false) := hide (by simp [h1, h2])
      clear h1 h2
      go_enter Tryd.func69, Tryd.ntmps69
      go_wp2
      go_ret
      exact ⟨by rw [HD.out]; rfl, rfl⟩
theorem i_opt9 (oc : Int) (w : World) : Calls Tryd.prog 71 #[.int .i64 oc] w fun r w' => r = .returned (.bool (decide (oc = 1 ∨ oc = 2))) ∧ w' = w := by
  by_cases h1 : oc = 1
  · subst h1
    go_enter Tryd.func71, Tryd.ntmps71
    go_wp2
    go_ret
    exact ⟨rfl, rfl⟩
  · have f1 : (oc == 1) = false := by simpa using h1
    by_cases h2 : oc = 2
    · subst h2
      go_enter Tryd.func71, Tryd.ntmps71
      go_wp2
      go_ret
      exact ⟨rfl, rfl⟩
    · have f2 : (oc == 2) = false := by simpa using h2
      have HD : Hid (decide (oc = 1 ∨ oc = 2) = false) := hide (by simp [h1, h2])
      clear h1 h2
      go_enter Tryd.func71, Tryd.ntmps71
      go_wp2
      go_ret
      exact ⟨by rw [HD.out]; rfl, rfl⟩
end Go.Proofs.YtfohfljdgmlibaaDoor
