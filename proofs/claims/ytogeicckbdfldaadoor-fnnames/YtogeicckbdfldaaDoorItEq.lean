/-
  Contracts: two rows of items that are alike are told so.
-/
import Derived.Test.YtogeicckbdfldaaDoorItRow
namespace Go.Proofs.YtogeicckbdfldaaDoor
open Go.RowKit Go.Joins
set_option linter.unusedVariables false
set_option linter.unusedSimpArgs false
theorem two_items {w w2 : World} {up : Int} {nm tx : ByteArray} {a a' : Option Addr} {n c c' : Nat} {T U : TypeId}
    (k : Below ((w.alloc (.cells #[.int .i64 up, .string nm, .string tx, .slice a n c] T)).alloc (.cells #[.int .i64 up, .string nm, .string tx, .slice a' n c'] U)).heap.size ((w.alloc (.cells #[.int .i64 up, .string nm, .string tx, .slice a n c] T)).alloc (.cells #[.int .i64 up, .string nm, .string tx, .slice a' n c'] U)) w2) :
    ItAt w2 w.heap.size up nm tx a n c ∧ ItAt w2 (w.heap.size + 1) up nm tx a' n c' ∧ Below w.heap.size w w2 := by
  have h1 := itAt_new w up nm tx a n c T
  have h2 := itAt_new (w.alloc (.cells #[.int .i64 up, .string nm, .string tx, .slice a n c] T)) up nm tx a' n c' U
  have st : ∀ (x : World) (o : Obj), Below x.heap.size x (x.alloc o) := fun x o => (Below.refl _ _).alloc (Nat.le_refl _) _
  refine ⟨itAt_go (itAt_go h1 (st _ _)) k, ?_, ?_⟩
  · have := itAt_go h2 k
    simpa using this
  · exact (((Below.refl w.heap.size w).alloc (Nat.le_refl _) _).alloc (by simp) _).trans (k.mono (by simp; omega))
def EQI (w w' : World) (b o b' o' : Nat) (D : Dc) (k : Nat) (ad : Option Addr) (cp : Nat) (ad' : Option Addr) (cp' : Nat) : Prop := Below w.heap.size w w' ∧ (b < w.heap.size ∧ b' < w.heap.size) ∧
  DcCells w' b o D k ad cp ∧ DcCells w' b' o' D k ad' cp' ∧ AtAt w' ad (D.AC k) (D.AN k) (D.AV k) w.heap.size ∧ AtAt w' ad' (D.AC k) (D.AN k) (D.AV k) w.heap.size
section
variable {w w1 w2 : World} {b o b' o' : Nat} {D : Dc} {k : Nat} {ad : Option Addr} {cp : Nat} {ad' : Option Addr} {cp' : Nat}
theorem eqi_go (x : EQI w w1 b o b' o' D k ad cp ad' cp') (h : Below w1.heap.size w1 w2) : EQI w w2 b o b' o' D k ad cp ad' cp' := by
  obtain ⟨hb, ⟨h1, h2⟩, c1, c2, r1, r2⟩ := x
  have hh := h.mono hb.size
  exact ⟨hb.trans hh, ⟨h1, h2⟩, dcCells_go c1 h1 hh, dcCells_go c2 h2 hh, atAt_go r1 hh, atAt_go r2 hh⟩
theorem eqi_drew (x : EQI w w1 b o b' o' D k ad cp ad' cp') : EQI w w1.drew b o b' o' D k ad cp ad' cp' := eqi_go x ⟨rfl, rfl, rfl, Nat.le_refl _, fun _ _ => rfl⟩
theorem eqi_all (x : EQI w w1 b o b' o' D k ad cp ad' cp') : EQI w w1 b o b' o' D k ad cp ad' cp' ∧ (w1.cell? ⟨b, o, none⟩ = some (.int .i64 (D.U k)) ∧ w1.cell? ⟨b, o + 1, none⟩ = some (.string (D.NM k)) ∧ w1.cell? ⟨b, o + 2, none⟩ = some (.string (D.TX k)) ∧ w1.cell? ⟨b, o + 3, none⟩ = some (.slice ad (D.AC k) cp)) ∧ w1.cell? ⟨b', o', none⟩ = some (.int .i64 (D.U k)) ∧ w1.cell? ⟨b', o' + 1, none⟩ = some (.string (D.NM k)) ∧ w1.cell? ⟨b', o' + 2, none⟩ = some (.string (D.TX k)) ∧ w1.cell? ⟨b', o' + 3, none⟩ = some (.slice ad' (D.AC k) cp') := ⟨x, x.2.2.1, x.2.2.2.1⟩
theorem eqi_r1 (x : EQI w w1 b o b' o' D k ad cp ad' cp') : AtAt w1 ad (D.AC k) (D.AN k) (D.AV k) w1.heap.size := atAt_up x.2.2.2.2.1 x.1.size
theorem eqi_r2 (x : EQI w w1 b o b' o' D k ad cp ad' cp') : AtAt w1 ad' (D.AC k) (D.AN k) (D.AV k) w1.heap.size := atAt_up x.2.2.2.2.2 x.1.size
end
end Go.Proofs.YtogeicckbdfldaaDoor
