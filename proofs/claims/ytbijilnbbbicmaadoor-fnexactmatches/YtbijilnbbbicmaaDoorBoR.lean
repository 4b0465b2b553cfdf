/-
  Plain laws on rows of truth values of the call's own.
-/
import Derived.Test.YtbijilnbbbicmaaDoorGen
import Derived.Test.YtbijilnbbbicmaaDoorKpG
import Derived.Test.YtbijilnbbbicmaaDoorAppAny
namespace Go.Proofs.YtbijilnbbbicmaaDoor
open Go.RowKit Go.Joins
set_option linter.unusedVariables false
set_option linter.unusedSimpArgs false
theorem infoBo : (Tryd.prog.info? 4).map (fun i => (i.zero, i.size, i.bytes)) = some (some (.bool false), 1, 1) := by kernel_rfl
/-- A row of truth values lies somewhere. -/
def BoAt (w : World) (a : Option Addr) (f : List Bool) (B : Nat) : Prop := ∃ b off, a = some ⟨b, off, none⟩ ∧ b < B ∧ ∀ j, j < f.length → w.cell? ⟨b, off + j, none⟩ = some (.bool (f[j]?.getD false))
theorem bo_go {w w' : World} {a : Option Addr} {f : List Bool} {B : Nat} (h : BoAt w a f B) (hb : Below B w w') : BoAt w' a f B := by
  obtain ⟨b, off, e, hl, hc⟩ := h
  exact ⟨b, off, e, hl, fun j hj => (hb.cell (p := ⟨b, off + j, none⟩) hl).trans (hc j hj)⟩
theorem bo_up {w : World} {a : Option Addr} {f : List Bool} {B B' : Nat} (h : BoAt w a f B) (hB : B ≤ B') : BoAt w a f B' := by
  obtain ⟨b, off, e, hl, hc⟩ := h
  exact ⟨b, off, e, Nat.lt_of_lt_of_le hl hB, hc⟩
/-- A row of one's own. -/
def BoX (B : Nat) (w : World) (g c n : Nat) (f : List Bool) : Prop := f.length = n ∧ w.ownsRow B 4 1 (.slice (some ⟨g, 0, none⟩) n c) n (f.map Value.bool)
theorem boX_at {B : Nat} {w : World} {g c n : Nat} {f : List Bool} (h : BoX B w g c n f) : B ≤ g ∧ g < w.heap.size ∧ ∀ j, j < n → w.cell? ⟨g, j, none⟩ = some (.bool (f[j]?.getD false)) := by
  have hl := h.2.lt g rfl
  refine ⟨hl.1, hl.2, fun j hj => ?_⟩
  rw [World.ownsRow.cellAt h.2 j (by omega), List.getElem?_map, List.getElem?_eq_getElem (by rw [h.1]; exact hj)]
  rfl
theorem boX_bo {B : Nat} {w : World} {g c n : Nat} {f : List Bool} (h : BoX B w g c n f) : BoAt w (some ⟨g, 0, none⟩) f w.heap.size := by
  obtain ⟨-, h2, h3⟩ := boX_at h
  exact ⟨g, 0, rfl, h2, fun j hj => by rw [Nat.zero_add]; exact h3 j (by rw [← h.1]; exact hj)⟩
theorem boX_go {B : Nat} {w w2 : World} {g c n : Nat} {f : List Bool} (h : BoX B w g c n f) (hb : Below w.heap.size w w2) : BoX B w2 g c n f := ⟨h.1, gOwn_after h.2 hb⟩
theorem boX_low {B B' : Nat} {w : World} {g c n : Nat} {f : List Bool} (h : BoX B w g c n f) (hB : B' ≤ B) : BoX B' w g c n f := ⟨h.1, gOwn_lower h.2 hB⟩
theorem boX_set {B : Nat} {w : World} {g c n : Nat} {f : List Bool} (h : BoX B w g c n f) (j : Nat) (v : Bool) : BoX B (w.setCell ⟨g, j, none⟩ (.bool v)) g c n (f.set j v) := by
  refine ⟨by rw [List.length_set]; exact h.1, ?_⟩
  have := (h.2.stored j (.bool v)).1
  rw [List.map_set]
  exact this
theorem boX_frozen {B : Nat} {w : World} {g c n : Nat} {f : List Bool} (h : BoX B w g c n f) (j : Nat) : w.frozen? ⟨g, j, none⟩ = false := h.2.frozenAt j
theorem boX_far {B : Nat} {w : World} {g c n : Nat} {f : List Bool} (h : BoX B w g c n f) {p : Addr} (hp : p.block ≠ g) (v : Value) : BoX B (w.setCell p v) g c n f := ⟨h.1, gOwn_set h.2 p v (by simp [Value.ownBlock]; exact fun e => hp e.symm)⟩
theorem boX_alloc {B : Nat} {w : World} {g c n : Nat} {f : List Bool} (h : BoX B w g c n f) (o : Obj) : BoX B (w.alloc o) g c n f := ⟨h.1, World.ownsRow.alloc h.2 o⟩
theorem boX_of {B : Nat} {w : World} {ad : Option Addr} {c n : Nat} {f : List Bool} (hl : f.length = n) (h0 : 0 < n) (h : w.ownsRow B 4 1 (.slice ad n c) n (f.map Value.bool)) : ∃ g, ad = some ⟨g, 0, none⟩ ∧ BoX B w g c n f := by
  rcases h.2 with ⟨-, hz⟩ | ⟨g, cap, cur, hv, -⟩
  · omega
  · simp only [Value.slice.injEq] at hv
    obtain ⟨rfl, -, -⟩ := hv
    exact ⟨g, rfl, hl, h⟩
theorem bo_src {w : World} {b off : Nat} {f : List Bool} (h : ∀ j, j < f.length → w.cell? ⟨b, off + j, none⟩ = some (.bool (f[j]?.getD false))) : ∀ j u, (f.map Value.bool)[j]? = some u → w.cell? ((⟨b, off, none⟩ : Addr).add j) = some u := by
  intro j u hu
  have hadd : (⟨b, off, none⟩ : Addr).add j = ⟨b, off + j, none⟩ := by unfold Addr.add; split <;> simp_all
  have hj : j < f.length := by
    rcases Nat.lt_or_ge j f.length with h' | h'
    · exact h'
    · rw [List.getElem?_eq_none (by rw [List.length_map]; exact h')] at hu; cases hu
  rw [hadd, h j hj]
  rw [List.getElem?_map, List.getElem?_eq_getElem hj] at hu
  rw [List.getElem?_eq_getElem hj]
  exact hu
theorem bools_one (L : List Bool) : ∀ u ∈ L.map Value.bool, u.oneCell' = true := by
  intro u hu
  obtain ⟨z, -, rfl⟩ := List.mem_map.1 hu
  rfl
theorem set_at (f : List Bool) (j : Nat) (v : Bool) (hj : j < f.length) (b : Nat) : (f.set j v)[b]?.getD false = if b = j then v else f[b]?.getD false := by
  by_cases e : b = j
  · subst e; rw [if_pos rfl, List.getElem?_set_self hj]; rfl
  · rw [if_neg e, List.getElem?_set_ne (fun h => e h.symm)]
/-- What is reached from a row's places by R. -/
def Fwd (f g : List Bool) (m : Nat) (R : Nat → Nat → Prop) : Prop := ∀ b, b ≤ m → (g[b]?.getD false = true ↔ ∃ a, a ≤ m ∧ f[a]?.getD false = true ∧ R a b)
theorem fwd_congr {f g : List Bool} {m : Nat} {R R' : Nat → Nat → Prop} (h : Fwd f g m R) (hR : ∀ a b, R a b ↔ R' a b) : Fwd f g m R' := fun b hb => by
  rw [h b hb]
  constructor
  · rintro ⟨a, h1, h2, h3⟩; exact ⟨a, h1, h2, (hR a b).1 h3⟩
  · rintro ⟨a, h1, h2, h3⟩; exact ⟨a, h1, h2, (hR a b).2 h3⟩
end Go.Proofs.YtbijilnbbbicmaaDoor
