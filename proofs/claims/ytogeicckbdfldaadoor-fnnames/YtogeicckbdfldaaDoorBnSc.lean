/-
  Contracts: the maps of all items' bindings, made by the program.
-/
import Derived.Test.YtogeicckbdfldaaDoorBnB
import Derived.Test.YtogeicckbdfldaaDoorItRow
import Derived.Lib.Builder
import Derived.Deep.AppendLies
import Derived.Deep.RegionLaw
import Derived.RegionTactic
import Derived.Deep.QuietTactic
import Derived.BigQuiet
namespace Go.Proofs.YtogeicckbdfldaaDoor
open Go.RowKit Go.Maps
set_option linter.unusedVariables false
set_option linter.unusedSimpArgs false
theorem infoM : (Tryd.prog.info? 80).map (fun i => (i.zero, i.size, i.bytes)) = some (some (.map none), 1, 8) := by kernel_rfl
theorem map_below {w w' : World} {b n : Nat} {f : ByteArray → Option ByteArray} (h : MapAt w b n f) (hb : Below w.heap.size w w') : MapAt w' b n f := by
  obtain ⟨D, h1, h2⟩ := h
  exact ⟨D, h1.kept (row := none) ⟨hb.os, hb.tape, hb.output, hb.size, fun k hk _ => hb.block k hk⟩ (by simp), h2⟩
theorem map_grown {w w' : World} {b n : Nat} {row : Option Nat} {f : ByteArray → Option ByteArray} (h : MapAt w b n f) (hg : w.grownBy w' row) (hne : some b ≠ row) : MapAt w' b n f := by
  obtain ⟨D, h1, h2⟩ := h
  exact ⟨D, h1.kept hg hne, h2⟩
theorem map_set {w : World} {b n : Nat} {f : ByteArray → Option ByteArray} (h : MapAt w b n f) (p : Addr) (v : Value) (hne : p.block ≠ b) : MapAt (w.setCell p v) b n f := by
  refine map_grown h (row := some p.block) ⟨rfl, rfl, rfl, by simp [World.setCell], fun k _ hk => heap_setCell_far w p v k (fun e => hk (by rw [e]))⟩ (fun e => hne (Option.some.inj e).symm)
theorem map_block {w : World} {b n : Nat} {f : ByteArray → Option ByteArray} (h : MapAt w b n f) {cs : Array Value} {T : TypeId} {fr : Nat × Nat} {g : Nat} (hg : w.heap[g]? = some (.cells cs T fr)) : g ≠ b := by
  intro e
  subst e
  obtain ⟨D, ⟨es, cl, h1, _⟩, _⟩ := h
  rw [hg] at h1
  cases h1
/-- The maps of the first k items lie in the blocks ms. -/
def MapsAt (w : World) (D : Dc) (ms : List Nat) : Prop := ∀ j (h : j < ms.length), MapAt w ms[j] (D.AC j) (mF (D.AN j) (D.AV j) (D.AC j))
/-- While the maps are made. -/
def ScRel (w0 wr : World) (D : Dc) (l : Value) (k : Nat) : Prop := ∃ ms : List Nat, ms.length = k ∧ Lib.BuilderAt 62 80 w0.heap.size (w0.heap.size + 1) l (ms.map fun b => Value.map (some b)) wr ∧ MapsAt wr D ms ∧ Below w0.heap.size w0 wr ∧ wr.heap[w0.heap.size]? = some (.cells #[.slice none 0 0, .slice none 0 0] 62 (0, 0))
abbrev ST : TypeId := 62
abbrev MT : TypeId := 80
theorem sc_shape {w : World} {B : Nat} {e : TypeId} {v : Value} {n : Nat} {xs : List Value} (h : w.ownsRow B e 1 v n xs) : ∃ ad cap, v = .slice ad n cap := by
  rcases h.2 with ⟨rfl, rfl⟩ | ⟨g, cap, cur, rfl, _⟩
  · exact ⟨_, _, rfl⟩
  · exact ⟨_, _, rfl⟩
theorem row_ne {w : World} {B : Nat} {v : Value} {n : Nat} {xs : List Value} (h : w.ownsRow B MT 1 v n xs) {b m : Nat} {f : ByteArray → Option ByteArray} (hm : MapAt w b m f) : some b ≠ v.ownBlock := by
  rcases h.2 with ⟨rfl, rfl⟩ | ⟨g, cap, cur, rfl, _, hg, _⟩
  · simp [Value.ownBlock]
  · intro e
    simp only [Value.ownBlock, Option.some.injEq] at e
    exact map_block hm hg e.symm
theorem own_bel {w w' : World} {B : Nat} {v : Value} {n : Nat} {xs : List Value} (h : w.ownsRow B MT 1 v n xs) (hb : Below w.heap.size w w') : w'.ownsRow B MT 1 v n xs := by
  refine h.kept (row := none) ⟨hb.os, hb.tape, hb.output, hb.size, fun k hk _ => hb.block k hk⟩ ?_
  cases hv : v.ownBlock with
  | none => exact .inl rfl
  | some k => exact .inr (by simp)
/-- What holds behind the call, and behind the append and the store. -/
theorem sc_next {w wr w5 w6 : World} {D : Dc} {l v v6 : Value} {k : Nat} {ms : List Nat} {o o5 : Obj} (hml : ms.length = k) (hbk : wr.heap[w.heap.size + 1]? = some (.cells #[l, v] ST (0, 0))) (hown : wr.ownsRow w.heap.size MT 1 v k (ms.map fun b => Value.map (some b))) (hne : v.ownBlock ≠ some (w.heap.size + 1)) (hms : MapsAt wr D ms) (hb : Below w.heap.size w wr) (hrb : wr.heap[w.heap.size]? = some (.cells #[.slice none 0 0, .slice none 0 0] ST (0, 0)))
    (hb5 : Below (wr.heap.size + 1) (wr.alloc o) w5) (hmp : MapAt w5 (wr.heap.size + 1) (D.AC k) (mF (D.AN k) (D.AV k) (D.AC k))) (hg : (w5.alloc o5).grownBy w6 v.ownBlock) (ho6 : w6.ownsRow w.heap.size MT 1 v6 (k + 1) ((ms.map fun b => Value.map (some b)) ++ [.map (some (wr.heap.size + 1))])) :
    w6.heap[w.heap.size + 1]? = some (.cells #[l, v] ST (0, 0)) ∧ ScRel w (w6.setCell ⟨w.heap.size + 1, 1, none⟩ v6) D l (k + 1) := by
  have hlt : w.heap.size + 1 < wr.heap.size := (Array.getElem?_eq_some_iff.1 hbk).1
  have hs5 : wr.heap.size + 1 ≤ w5.heap.size := by have := hb5.size; simpa using this
  have hbelow : Below wr.heap.size wr w5 := ((Below.refl wr.heap.size wr).alloc (Nat.le_refl _) o).trans (hb5.mono (Nat.le_succ _))
  have hbk5 : w5.heap[w.heap.size + 1]? = some (.cells #[l, v] ST (0, 0)) := (hbelow.block _ hlt).trans hbk
  have hbk6 : w6.heap[w.heap.size + 1]? = some (.cells #[l, v] ST (0, 0)) := (hg.block _ (by simp; omega) (fun e => hne e.symm)).trans ((Lib.alloc_old w5 o5 _ (by omega)).trans hbk5)
  have hown5 : (w5.alloc o5).ownsRow w.heap.size MT 1 v k (ms.map fun b => Value.map (some b)) := (own_bel hown hbelow).alloc o5
  have hup : ∀ {b m : Nat} {f : ByteArray → Option ByteArray}, MapAt w5 b m f → MapAt (w6.setCell ⟨w.heap.size + 1, 1, none⟩ v6) b m f := fun {b m f} h => by
    have h1 : MapAt (w5.alloc o5) b m f := map_grown h (World.grownBy_alloc w5 o5 none) (by simp)
    have h2 : MapAt w6 b m f := map_grown h1 hg (row_ne hown5 h1)
    exact map_set h2 _ _ (map_block h2 hbk6)
  refine ⟨hbk6, ms ++ [wr.heap.size + 1], by simp [hml], ?_, ?_, ?_, ?_⟩
  · have hl : (((ms ++ [wr.heap.size + 1]).map fun b => Value.map (some b))).length = k + 1 := by simp [hml]
    exact Lib.BuilderAt.put (T := ST) (e := MT) (Nat.le_succ _) hbk6 (by rw [hl]; simpa using ho6) (by decide)
  · intro j hj
    rw [List.length_append, List.length_singleton] at hj
    by_cases e : j < ms.length
    · rw [List.getElem_append_left e]
      exact hup (map_below (hms j e) hbelow)
    · have ej : j = k := by omega
      subst ej
      have e2 : (ms ++ [wr.heap.size + 1])[ms.length]'(by simp) = wr.heap.size + 1 := by simp
      subst hml
      rw [e2]
      exact hup hmp
  · exact (((hb.trans (hbelow.mono hb.size)).alloc (by have := hb.size; omega) o5).grown hg (by have := hb.size; simp; omega) (fun j hj => (hown.lt j hj).1)).setCell (p := ⟨w.heap.size + 1, 1, none⟩) (Nat.le_succ _) _
  · refine (heap_setCell_far w6 ⟨w.heap.size + 1, 1, none⟩ v6 w.heap.size (by show w.heap.size + 1 ≠ w.heap.size; omega)).trans ?_
    refine (hg.block _ (by simp; omega) (fun e => Lib.ownBlock_ne hown hrb (by decide) e.symm)).trans ?_
    exact (Lib.alloc_old w5 o5 _ (by omega)).trans ((hbelow.block _ (by omega)).trans hrb)
theorem below_d1 {b : Nat} {w w1 : World} (h : Below b w w1) : Below b w w1.drew := ⟨h.os, h.tape, h.output, h.size, h.block⟩
theorem bel_5 {wr w5 : World} {o : Obj} (h : Below (wr.alloc o).drew.heap.size (wr.alloc o).drew w5) : Below (wr.heap.size + 1) (wr.alloc o) w5 := by
  have e : (wr.alloc o).drew.heap.size = wr.heap.size + 1 := by show (wr.alloc o).heap.size = _; simp
  rw [e] at h
  exact ⟨h.os, h.tape, h.output, h.size, h.block⟩
theorem map_5 {wr w5 : World} {o : Obj} {n : Nat} {f : ByteArray → Option ByteArray} (h : MapAt w5 (wr.alloc o).drew.heap.size n f) : MapAt w5 (wr.heap.size + 1) n f := by
  have e : (wr.alloc o).drew.heap.size = wr.heap.size + 1 := by show (wr.alloc o).heap.size = _; simp
  rw [e] at h
  exact h
end Go.Proofs.YtogeicckbdfldaaDoor
