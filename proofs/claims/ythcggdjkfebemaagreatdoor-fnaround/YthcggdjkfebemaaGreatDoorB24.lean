/-
  Texts put together: DrGrow0, PaD.
-/
import Derived.Test.YthcggdjkfebemaaGreatDoorB23
import Derived.Test.YthcggdjkfebemaaGreatDoorB7
import Derived.Deep.RegionLaw
import Derived.Deep.AppendLies
import Derived.Test.YthcggdjkfebemaaGreatDoorB22
import Derived.Deep.RegionHeld3
/-
  Contract: a drawn document grows: whatever the code is, a row of items of its own, not too long, each with few attributes.
-/
namespace Go.Proofs.YthcggdjkfebemaaGreatDoor
open Go.RowKit Go.Joins
set_option linter.unusedVariables false
set_option linter.unusedSimpArgs false
theorem infoIt : (Tryz.prog.info? IT).map (fun i => (i.zero, i.size, i.bytes)) = some (some (.agg #[.int .i64 0, .string ⟨#[]⟩, .string ⟨#[]⟩, .slice none 0 0]), 4, 64) := by kernel_rfl
theorem infoAt : (Tryz.prog.info? AT).map (fun i => (i.zero, i.size, i.bytes)) = some (some (.agg #[.string ⟨#[]⟩, .string ⟨#[]⟩]), 2, 32) := by kernel_rfl
theorem gFour_new (w : World) (x y z u : Value) (T : TypeId) (j : Nat) (v : Value) (hj : [x, y, z, u][j]? = some v) : (w.alloc (.cells #[x, y, z, u] T)).cell? ((⟨w.heap.size, 0, none⟩ : Addr).add j) = some v := by
  match j, hj with
  | 0, hj => simp at hj; subst hj; simp [Addr.add]
  | 1, hj => simp at hj; subst hj; simp [Addr.add]
  | 2, hj => simp at hj; subst hj; simp [Addr.add]
  | 3, hj => simp at hj; subst hj; simp [Addr.add]
theorem gItem_list (u : Int) (x y : ByteArray) (a : Option Addr) (n c : Nat) : ∀ v ∈ [Value.int .i64 u, Value.string x, Value.string y, Value.slice a n c], v.oneCell' = true := by
  intro v hv
  simp at hv
  rcases hv with rfl | rfl | rfl | rfl <;> rfl
def cD : Nat → Nat
  | 0 => 3
  | d + 1 => 3 * (1 + cD d)
theorem grown_below {w w' : World} (h : Below w.heap.size w w') : w.grownBy w' none := ⟨h.os, h.tape, h.output, h.size, fun k hk _ => h.block k hk⟩
/-- While the document grows. -/
def GS (G : Nat) (a : Option Addr) (n cap : Nat) (zs : List Int) (w0 w : World) (ad : Option Addr) (m c : Nat) (D : Dc) : Prop := RdAt w G a n cap zs ∧ DrIt (G + 1) w ad m c D ∧ Below G w0 w ∧ KeepA w0 w
section
variable {G : Nat} {a : Option Addr} {n cap : Nat} {zs : List Int} {w0 w w1 w2 : World} {ad ad2 : Option Addr} {m c c2 : Nat} {D : Dc}
theorem gs_size (h : GS G a n cap zs w0 w ad m c D) : G < w.heap.size := rd_lt h.1
theorem gs_ne (h : GS G a n cap zs w0 w ad m c D) : (Value.slice ad m c).ownBlock ≠ some G := fun e => by have := drIt_lt h.2.1 G e; omega
theorem gs_drew (h : GS G a n cap zs w0 w ad m c D) (hd : Drew G a n cap zs w w1) : GS G a n cap zs w0 w1 ad m c D :=
  ⟨hd.1, drIt_kept h.2.1 hd.2 (fun k hk => by cases hk; exact gs_ne h) (keepA_drew (keepA_refl w) h.1 hd), below_drew h.2.2.1 hd (Nat.le_of_lt (gs_size h)), keepA_drew h.2.2.2 h.1 hd⟩
theorem gs_below (h : GS G a n cap zs w0 w ad m c D) (hb : Below w.heap.size w w1) : GS G a n cap zs w0 w1 ad m c D :=
  ⟨rd_grown h.1 (grown_below hb) (fun k hk => by cases hk), drIt_below h.2.1 hb, h.2.2.1.trans (hb.mono (Nat.le_of_lt (gs_size h))), keepA_below h.2.2.2 hb⟩
theorem gs_alloc (h : GS G a n cap zs w0 w ad m c D) (o : Obj) : GS G a n cap zs w0 (w.alloc o) ad m c D := gs_below h ((Below.refl _ _).alloc (Nat.le_refl _) o)
/-- One item more. -/
theorem gs_put {xs : List Value} {o : Obj} {u : Int} {nm tx : ByteArray} {aa : Option Addr} {ac cp : Nat} {an av : Nat → ByteArray} (hrd : RdAt w G a n cap zs) (hown : w.ownsRow (G + 1) IT 4 (.slice ad m c) m xs) (hits : Its w xs m D) (hbel : Below G w0 w) (hkeep : KeepA w0 w)
    (ho2 : w2.ownsRow (G + 1) IT 4 (.slice ad2 (m + 1) c2) (m + 1) (xs ++ [.int .i64 u, .string nm, .string tx, .slice aa ac cp])) (hg : (w.alloc o).grownBy w2 (Value.slice ad m c).ownBlock)
    (ha : AtD w aa ac an av) (hc : ac ≤ cp) (h1 : nm.size ≤ 8) (h2 : tx.size ≤ 8) (h3 : ac ≤ 8) (h4 : ∀ k, k < ac → (an k).size ≤ 8 ∧ (av k).size ≤ 8) : GS G a n cap zs w0 w2 ad2 (m + 1) c2 (D.put u nm tx ac an av) := by
  have hlt := rd_lt hrd
  have hgt : ∀ k, (Value.slice ad m c).ownBlock = some k → G < k := fun k hk => by have := hown.lt k hk; omega
  have hal : Below w.heap.size w (w.alloc o) := (Below.refl _ _).alloc (Nat.le_refl _) o
  have hk1 : KeepA w w2 := keepA_own (keepA_below (keepA_refl w) hal) (hown.alloc o) hg
  refine ⟨rd_grown (rd_alloc hrd o) hg hgt, ⟨_, ho2, its_put (its_keep hits hk1) hown.1 u nm tx aa ac cp an av (atD_keep ha hk1) hc h1 h2 h3 h4⟩, ?_, keepA_trans hkeep hk1⟩
  have hb2 : Below G w0 (w.alloc o) := hbel.alloc (Nat.le_of_lt hlt) o
  exact hb2.grown hg (by simp; omega) (fun k hk => Nat.le_of_lt (hgt k hk))
end
/-- While an item gets its attributes: it lies in block X, the last of wX. -/
def XS (G : Nat) (a : Option Addr) (n cap : Nat) (zs : List Int) (w0 wX w : World) (ad : Option Addr) (m c : Nat) (D : Dc) (X : Nat) (up : Int) (nm : ByteArray) (sa : Option Addr) (ka ca : Nat) (N V : Nat → ByteArray) : Prop :=
  RdAt w G a n cap zs ∧ (∃ xs, w.ownsRow (G + 1) IT 4 (.slice ad m c) m xs ∧ Its wX xs m D) ∧ Below G w0 w ∧ KeepA wX w ∧ w.heap[X]? = some (.cells #[.int .i64 up, .string nm, .string ⟨#[]⟩, .slice sa ka ca] IT (0, 0)) ∧
    (∃ ys, w.ownsRow (X + 1) AT 2 (.slice sa ka ca) ka ys ∧ PairsS ys ka N V) ∧ (∀ k, k < ka → (N k).size ≤ 8 ∧ (V k).size ≤ 8) ∧ (G < X ∧ wX.heap.size = X + 1 ∧ KeepA w0 wX ∧ ∀ k, (Value.slice ad m c).ownBlock = some k → k < X)
section
variable {G : Nat} {a : Option Addr} {n cap : Nat} {zs : List Int} {w0 wX w w1 w2 : World} {ad : Option Addr} {m c : Nat} {D : Dc} {X : Nat} {up : Int} {nm : ByteArray} {sa : Option Addr} {ka ca : Nat} {N V : Nat → ByteArray}
theorem xs_step {row : Option Nat} (h : XS G a n cap zs w0 wX w ad m c D X up nm sa ka ca N V) (hr : RdAt w1 G a n cap zs) (hg : w.grownBy w1 row) (hrow : ∀ k, row = some k → k = G) : XS G a n cap zs w0 wX w1 ad m c D X up nm sa ka ca N V := by
  obtain ⟨h1, ⟨xs, h2, h2'⟩, h3, h4, h5, ⟨ys, h6, h6'⟩, h7, h8, h9, h10, h11⟩ := h
  have hlt := (Array.getElem?_eq_some_iff.1 h5).1
  refine ⟨hr, ⟨xs, h2.kept hg ?_, h2'⟩, ?_, ?_, ?_, ⟨ys, h6.kept hg ?_, h6'⟩, h7, h8, h9, h10, h11⟩
  · cases hv : (Value.slice ad m c).ownBlock with
    | none => exact .inl rfl
    | some k => exact .inr fun e => by have e1 := hrow k e.symm; have := h2.lt k hv; omega
  · exact h3.grown hg (Nat.le_of_lt (rd_lt h1)) (fun k hk => by have := hrow k hk; omega)
  · refine keepA_step h4 hg fun k hk => ?_
    have e := hrow k hk
    subst e
    obtain ⟨⟨p, -, hG⟩, -⟩ := h1
    exact .inr ⟨_, _, _, hG, by decide⟩
  · rw [hg.block X hlt (fun e => by have := hrow X e.symm; omega)]; exact h5
  · cases hv : (Value.slice sa ka ca).ownBlock with
    | none => exact .inl rfl
    | some k => exact .inr fun e => by have e1 := hrow k e.symm; have := h6.lt k hv; omega
theorem xs_drew (h : XS G a n cap zs w0 wX w ad m c D X up nm sa ka ca N V) (hd : Drew G a n cap zs w w1) : XS G a n cap zs w0 wX w1 ad m c D X up nm sa ka ca N V := xs_step h hd.1 hd.2 (fun k hk => by cases hk; rfl)
theorem xs_below (h : XS G a n cap zs w0 wX w ad m c D X up nm sa ka ca N V) (hb : Below w.heap.size w w1) : XS G a n cap zs w0 wX w1 ad m c D X up nm sa ka ca N V :=
  xs_step (row := none) h (rd_grown h.1 (grown_below hb) (fun k hk => by cases hk)) (grown_below hb) (fun k hk => by cases hk)
theorem xs_dr (h : XS G a n cap zs w0 wX w ad m c D X up nm sa ka ca N V) : XS G a n cap zs w0 wX w.drew ad m c D X up nm sa ka ca N V := xs_below h ⟨rfl, rfl, rfl, Nat.le_refl _, fun _ _ => rfl⟩
theorem xs_alloc (h : XS G a n cap zs w0 wX w ad m c D X up nm sa ka ca N V) (o : Obj) : XS G a n cap zs w0 wX (w.alloc o) ad m c D X up nm sa ka ca N V := xs_below h ((Below.refl _ _).alloc (Nat.le_refl _) o)
theorem xs_lt (h : XS G a n cap zs w0 wX w ad m c D X up nm sa ka ca N V) : X + 1 ≤ w.heap.size := by have := h.2.2.2.1.1; have := h.2.2.2.2.2.2.2.2.1; omega
theorem xs_cell (h : XS G a n cap zs w0 wX w ad m c D X up nm sa ka ca N V) (i : Nat) : w.cell? ⟨X, i, none⟩ = #[Value.int .i64 up, .string nm, .string ⟨#[]⟩, .slice sa ka ca][i]? := by rw [cell_of_row w X i _ IT (0, 0) h.2.2.2.2.1]
theorem xs_frozen (h : XS G a n cap zs w0 wX w ad m c D X up nm sa ka ca N V) (i : Nat) : w.frozen? ⟨X, i, none⟩ = false := by simp [World.frozen?, h.2.2.2.2.1]
/-- The store of another list of attributes. -/
theorem xs_store {sa' : Option Addr} {ka' ca' : Nat} {N' V' : Nat → ByteArray} {ys : List Value} (h : XS G a n cap zs w0 wX w ad m c D X up nm sa ka ca N V) (hy : w.ownsRow (X + 1) AT 2 (.slice sa' ka' ca') ka' ys) (hp : PairsS ys ka' N' V') (hs : ∀ k, k < ka' → (N' k).size ≤ 8 ∧ (V' k).size ≤ 8) :
    XS G a n cap zs w0 wX (w.setCell ⟨X, 3, none⟩ (.slice sa' ka' ca')) ad m c D X up nm sa' ka' ca' N' V' := by
  obtain ⟨h1, ⟨xs, h2, h2'⟩, h3, h4, h5, -, -, h8, h9, h10, h11⟩ := h
  have hg := grown_set w ⟨X, 3, none⟩ (.slice sa' ka' ca')
  have hrow : ∀ k, some X = some k → k = X := fun k hk => by cases hk; rfl
  refine ⟨rd_grown h1 hg (fun k hk => by have := hrow k hk; omega), ⟨xs, h2.kept hg ?_, h2'⟩, ?_, ?_, ?_, ⟨ys, hy.kept hg ?_, hp⟩, hs, h8, h9, h10, h11⟩
  · cases hv : (Value.slice ad m c).ownBlock with
    | none => exact .inl rfl
    | some k => exact .inr fun e => by have e1 := hrow k e.symm; have := h11 k hv; omega
  · exact h3.grown hg (Nat.le_of_lt (rd_lt h1)) (fun k hk => by have := hrow k hk; omega)
  · exact keepA_step h4 hg fun k hk => by have e := hrow k hk; subst e; exact .inr ⟨_, _, _, h5, by decide⟩
  · have := block_setCell (i := 3) h5 (.slice sa' ka' ca')
    simpa using this
  · cases hv : (Value.slice sa' ka' ca').ownBlock with
    | none => exact .inl rfl
    | some k => exact .inr fun e => by have e1 := hrow k e.symm; have := hy.lt k hv; omega
/-- What a longer list of attributes leaves. -/
theorem xs_grown {v : Value} {k : Nat} {ys : List Value} (h : XS G a n cap zs w0 wX w ad m c D X up nm sa ka ca N V) (hv : w.ownsRow (X + 1) AT 2 v k ys) (hg : w.grownBy w1 v.ownBlock) {zs' : List Value} {sa' : Option Addr} {ka' ca' : Nat} {N' V' : Nat → ByteArray} (hy : w1.ownsRow (X + 1) AT 2 (.slice sa' ka' ca') ka' zs') (hp : PairsS zs' ka' N' V') (hs : ∀ k, k < ka' → (N' k).size ≤ 8 ∧ (V' k).size ≤ 8) :
    XS G a n cap zs w0 wX (w1.setCell ⟨X, 3, none⟩ (.slice sa' ka' ca')) ad m c D X up nm sa' ka' ca' N' V' := by
  obtain ⟨h1, ⟨xs, h2, h2'⟩, h3, h4, h5, -, -, h8, h9, h10, h11⟩ := h
  have hrow : ∀ k, v.ownBlock = some k → X + 1 ≤ k := fun k hk => (hv.lt k hk).1
  have hlt := (Array.getElem?_eq_some_iff.1 h5).1
  have h5' : w1.heap[X]? = some (.cells #[.int .i64 up, .string nm, .string ⟨#[]⟩, .slice sa ka ca] IT (0, 0)) := by
    rw [hg.block X hlt (fun e => by have := hrow X e.symm; omega)]; exact h5
  have base : ∃ N0 V0, XS G a n cap zs w0 wX (w1.setCell ⟨X, 3, none⟩ (.slice sa' ka' ca')) ad m c D X up nm sa' ka' ca' N0 V0 ∧ N0 = N' ∧ V0 = V' := by
    refine ⟨N', V', ?_, rfl, rfl⟩
    have hr1 : RdAt w1 G a n cap zs := rd_grown h1 hg (fun k hk => by have := hrow k hk; omega)
    have ho1 : w1.ownsRow (G + 1) IT 4 (.slice ad m c) m xs := h2.kept hg (by
      cases hv : (Value.slice ad m c).ownBlock with
      | none => exact .inl rfl
      | some k => exact .inr fun e => by have e1 := hrow k e.symm; have := h11 k hv; omega)
    have hb1 : Below G w0 w1 := h3.grown hg (Nat.le_of_lt (rd_lt h1)) (fun k hk => by have := hrow k hk; omega)
    have hk1 : KeepA wX w1 := keepA_step h4 hg fun k hk => .inl (by have := hrow k hk; omega)
    have hg2 := grown_set w1 ⟨X, 3, none⟩ (.slice sa' ka' ca')
    have hrow2 : ∀ k, some X = some k → k = X := fun k hk => by cases hk; rfl
    refine ⟨rd_grown hr1 hg2 (fun k hk => by have := hrow2 k hk; omega), ⟨xs, ho1.kept hg2 ?_, h2'⟩, ?_, ?_, ?_, ⟨zs', hy.kept hg2 ?_, hp⟩, hs, h8, h9, h10, h11⟩
    · cases hv : (Value.slice ad m c).ownBlock with
      | none => exact .inl rfl
      | some k => exact .inr fun e => by have e1 := hrow2 k e.symm; have := h11 k hv; omega
    · exact hb1.grown hg2 (Nat.le_of_lt (rd_lt hr1)) (fun k hk => by have := hrow2 k hk; omega)
    · exact keepA_step hk1 hg2 fun k hk => by have e := hrow2 k hk; subst e; exact .inr ⟨_, _, _, h5', by decide⟩
    · have := block_setCell (i := 3) h5' (.slice sa' ka' ca')
      simpa using this
    · cases hv : (Value.slice sa' ka' ca').ownBlock with
      | none => exact .inl rfl
      | some k => exact .inr fun e => by have e1 := hrow2 k e.symm; have := hy.lt k hv; omega
  obtain ⟨N0, V0, hX, rfl, rfl⟩ := base
  exact hX
end
def putF (N : Nat → ByteArray) (k : Nat) (x : ByteArray) : Nat → ByteArray := fun j => if j = k then x else N j
theorem pairs_putF {ys : List Value} {k : Nat} {N V : Nat → ByteArray} (h : PairsS ys k N V) (hl : ys.length = k * 2) (x y : ByteArray) : PairsS (ys ++ [.string x, .string y]) (k + 1) (putF N k x) (putF V k y) := by
  intro j hj
  unfold putF
  by_cases e : j = k
  · subst e
    rw [if_pos rfl, if_pos rfl, List.getElem?_append_right (by omega), List.getElem?_append_right (by omega), hl, show j * 2 - j * 2 = 0 by omega, show j * 2 + 1 - j * 2 = 1 by omega]
    exact ⟨rfl, rfl⟩
  · rw [if_neg e, if_neg e, List.getElem?_append_left (by omega), List.getElem?_append_left (by omega)]
    exact h j (by omega)
theorem small_putF {N V : Nat → ByteArray} {k : Nat} {x y : ByteArray} (h : ∀ j, j < k → (N j).size ≤ 8 ∧ (V j).size ≤ 8) (hx : x.size ≤ 8) (hy : y.size ≤ 8) : ∀ j, j < k + 1 → (putF N k x j).size ≤ 8 ∧ (putF V k y j).size ≤ 8 := fun j hj => by
  unfold putF
  by_cases e : j = k
  · rw [if_pos e, if_pos e]; exact ⟨hx, hy⟩
  · rw [if_neg e, if_neg e]; exact h j (by omega)
def GrowAns (G : Nat) (a : Option Addr) (n cap : Nat) (zs : List Int) (w : World) (m0 d : Nat) (e : Ending) (w' : World) : Prop := ∃ ad m c D, e = .returned (.slice ad m c) ∧ GS G a n cap zs w w' ad m c D ∧ m0 ≤ m ∧ m ≤ m0 + cD d
theorem gs_trans {G : Nat} {a : Option Addr} {n cap : Nat} {zs : List Int} {w0 w w1 : World} {ad ad1 : Option Addr} {m c m1 c1 : Nat} {D D1 : Dc} (h : GS G a n cap zs w0 w ad m c D) (k : GS G a n cap zs w w1 ad1 m1 c1 D1) : GS G a n cap zs w0 w1 ad1 m1 c1 D1 :=
  ⟨k.1, k.2.1, h.2.2.1.trans k.2.2.1, keepA_trans h.2.2.2 k.2.2.2⟩
theorem own_cap {w : World} {B : Nat} {e : TypeId} {z : Nat} {ad : Option Addr} {m c : Nat} {xs : List Value} (h : w.ownsRow B e z (.slice ad m c) m xs) : m ≤ c := by
  rcases h.2 with ⟨hv, h0⟩ | ⟨g, cp, cur, hv, -, -, hc, -⟩
  · omega
  · simp only [Value.slice.injEq] at hv
    omega
theorem own_addr {w : World} {B : Nat} {e : TypeId} {z : Nat} {ad : Option Addr} {m c : Nat} {xs : List Value} (h : w.ownsRow B e z (.slice ad m c) m xs) (hm : 0 < m) : ∃ g, ad = some ⟨g, 0, none⟩ := by
  rcases h.2 with ⟨hv, h0⟩ | ⟨g, cp, cur, hv, -⟩
  · omega
  · simp only [Value.slice.injEq] at hv
    exact ⟨g, hv.1⟩
theorem own_less {w : World} {B : Nat} {e : TypeId} {z g m c k : Nat} {xs : List Value} (h : w.ownsRow B e z (.slice (some ⟨g, 0, none⟩) m c) m xs) (hk : k ≤ m) : w.ownsRow B e z (.slice (some ⟨g, 0, none⟩) k c) k (xs.take (k * z)) := by
  have hkm : k * z ≤ m * z := Nat.mul_le_mul_right _ hk
  refine ⟨by rw [List.length_take, h.1]; omega, ?_⟩
  rcases h.2 with ⟨hv, h0⟩ | ⟨g', cp, cur, hv, hB, hh, hc, hm, hs, ht⟩
  · cases hv
  · simp only [Value.slice.injEq, Option.some.injEq, Addr.mk.injEq] at hv
    obtain ⟨⟨rfl, -⟩, -, rfl⟩ := hv
    exact .inr ⟨g, c, cur, rfl, hB, hh, by omega, hm, hs, by rw [← ht, List.take_take, Nat.min_eq_left hkm]⟩
theorem pairs_less {ys : List Value} {m k : Nat} {N V : Nat → ByteArray} (h : PairsS ys m N V) (hk : k ≤ m) : PairsS (ys.take (k * 2)) k N V := fun j hj => by
  rw [List.getElem?_take_of_lt (by omega), List.getElem?_take_of_lt (by omega)]
  exact h j (by omega)
theorem gFour_newS (w : World) (p : Addr) (q x y z u : Value) (T : TypeId) (j : Nat) (v : Value) (hj : [x, y, z, u][j]? = some v) : ((w.setCell p q).alloc (.cells #[x, y, z, u] T)).cell? ((⟨w.heap.size, 0, none⟩ : Addr).add j) = some v := by
  have h := gFour_new (w.setCell p q) x y z u T j v hj
  rw [heap_setCell_size] at h
  exact h
theorem rec_of {d : Nat} {P : Prop} (h : d = 0 ∨ P) (hd : ¬ d = 0) : P := by
  rcases h with h | h
  · exact absurd h hd
  · exact h
end Go.Proofs.YthcggdjkfebemaaGreatDoor

/-
  Contracts of the program's reader of documents: the row of items, the end of a text, the end of an element, a text.
-/
namespace Go.Proofs.YthcggdjkfebemaaGreatDoor
open Go.RowKit Go.Joins
set_option linter.unusedVariables false
set_option linter.unusedSimpArgs false
/-- Of a row of cells the first k items are those of D. -/
def ItP (w : World) (xs : List Value) (k : Nat) (D : Dc) : Prop := ∀ j, j < k → ∃ ad cp, (xs[j * 4]? = some (.int .i64 (D.U j)) ∧ xs[j * 4 + 1]? = some (.string (D.NM j)) ∧ xs[j * 4 + 2]? = some (.string (D.TX j)) ∧ xs[j * 4 + 3]? = some (.slice ad (D.AC j) cp)) ∧ AtD w ad (D.AC j) (D.AN j) (D.AV j) ∧ D.AC j ≤ cp
theorem itp_keep {w w' : World} {xs : List Value} {k : Nat} {D : Dc} (h : ItP w xs k D) (hk : KeepA w w') : ItP w' xs k D := fun j hj => by
  obtain ⟨ad, cp, h1, h2, h3⟩ := h j hj
  exact ⟨ad, cp, h1, atD_keep h2 hk, h3⟩
theorem itp_put {w : World} {xs : List Value} {k : Nat} {D : Dc} (h : ItP w xs k D) (hl : xs.length = k * 4) (ad : Option Addr) (cp : Nat) (ha : AtD w ad (D.AC k) (D.AN k) (D.AV k)) (hc : D.AC k ≤ cp) :
    ItP w (xs ++ [.int .i64 (D.U k), .string (D.NM k), .string (D.TX k), .slice ad (D.AC k) cp]) (k + 1) D := fun j hj => by
  by_cases e : j = k
  · subst e
    refine ⟨ad, cp, ?_, ha, hc⟩
    rw [List.getElem?_append_right (by omega), List.getElem?_append_right (by omega), List.getElem?_append_right (by omega), List.getElem?_append_right (by omega), hl, show j * 4 - j * 4 = 0 by omega, show j * 4 + 1 - j * 4 = 1 by omega, show j * 4 + 2 - j * 4 = 2 by omega, show j * 4 + 3 - j * 4 = 3 by omega]
    exact ⟨rfl, rfl, rfl, rfl⟩
  · obtain ⟨ad', cp', c, h5, h6⟩ := h j (by omega)
    refine ⟨ad', cp', ?_, h5, h6⟩
    rw [List.getElem?_append_left (by omega), List.getElem?_append_left (by omega), List.getElem?_append_left (by omega), List.getElem?_append_left (by omega)]
    exact c
def ItO (B : Nat) (w : World) (ad : Option Addr) (k c : Nat) (D : Dc) : Prop := ∃ xs, w.ownsRow B IT 4 (.slice ad k c) k xs ∧ ItP w xs k D
section
variable {B : Nat} {w w' : World} {ad : Option Addr} {k c : Nat} {D : Dc}
theorem ito_kept {row : Option Nat} (h : ItO B w ad k c D) (hg : w.grownBy w' row) (hne : ∀ j, row = some j → (Value.slice ad k c).ownBlock ≠ some j) (hk : KeepA w w') : ItO B w' ad k c D := by
  obtain ⟨xs, h1, h2⟩ := h
  refine ⟨xs, h1.kept hg ?_, itp_keep h2 hk⟩
  cases hv : (Value.slice ad k c).ownBlock with
  | none => exact .inl rfl
  | some j => exact .inr fun e => hne j e.symm (by rw [hv])
theorem ito_lt (h : ItO B w ad k c D) : ∀ j, (Value.slice ad k c).ownBlock = some j → B ≤ j ∧ j < w.heap.size := by
  obtain ⟨xs, h1, h2⟩ := h
  exact h1.lt
theorem ito_below (h : ItO B w ad k c D) (hb : Below w.heap.size w w') : ItO B w' ad k c D := by
  obtain ⟨xs, h1, h2⟩ := h
  exact ⟨xs, gOwn_after h1 hb, itp_keep h2 (keepA_below (keepA_refl w) hb)⟩
theorem ito_row (h : ItO B w ad k c D) (h0 : 0 < k) : ∃ g, ad = some ⟨g, 0, none⟩ ∧ B ≤ g ∧ g < w.heap.size ∧ ∀ j, j < k → ∃ ad' cp, (w.cell? ⟨g, j * 4, none⟩ = some (.int .i64 (D.U j)) ∧ w.cell? ⟨g, j * 4 + 1, none⟩ = some (.string (D.NM j)) ∧ w.cell? ⟨g, j * 4 + 2, none⟩ = some (.string (D.TX j)) ∧ w.cell? ⟨g, j * 4 + 3, none⟩ = some (.slice ad' (D.AC j) cp)) ∧ AtD w ad' (D.AC j) (D.AN j) (D.AV j) ∧ D.AC j ≤ cp := by
  obtain ⟨xs, h1, hi⟩ := h
  rcases h1.2 with ⟨hv, h9⟩ | ⟨g, cp, cur, hv, hB, hh, rest⟩
  · omega
  · simp only [Value.slice.injEq] at hv
    obtain ⟨rfl, _, rfl⟩ := hv
    refine ⟨g, rfl, hB, (h1.lt g rfl).2, fun j hj => ?_⟩
    obtain ⟨ad', cp', ⟨c0, c1, c2, c3⟩, ha, hc⟩ := hi j hj
    refine ⟨ad', cp', ⟨?_, ?_, ?_, ?_⟩, ha, hc⟩
    · rw [h1.cellAt (j * 4) (by omega)]; exact c0
    · rw [h1.cellAt (j * 4 + 1) (by omega)]; exact c1
    · rw [h1.cellAt (j * 4 + 2) (by omega)]; exact c2
    · rw [h1.cellAt (j * 4 + 3) (by omega)]; exact c3
theorem ito_dc (h : ItO B w ad k c D) (hk : k = D.n) : DcAt w ad D w.heap.size := fun h0 => by
  obtain ⟨g, rfl, -, hg, hr⟩ := ito_row h (by omega)
  refine ⟨g, 0, rfl, hg, fun j hj => ?_⟩
  obtain ⟨ad', cp, ⟨c0, c1, c2, c3⟩, ha, hc⟩ := hr j (by omega)
  exact ⟨ad', cp, ⟨by rw [Nat.zero_add]; exact c0, by rw [Nat.zero_add]; exact c1, by rw [Nat.zero_add]; exact c2, by rw [Nat.zero_add]; exact c3⟩, atD_at ha, hc⟩
end
/-- What may change while the reader goes on: what lies behind R, and R itself; no row of attributes that was there. -/
def Fr (R : Nat) (w w' : World) : Prop := Below R w w' ∧ KeepA w w'
theorem fr_refl (R : Nat) (w : World) : Fr R w w := ⟨Below.refl _ _, keepA_refl w⟩
theorem fr_trans {R : Nat} {w w1 w2 : World} (h : Fr R w w1) (k : Fr R w1 w2) : Fr R w w2 := ⟨h.1.trans k.1, keepA_trans h.2 k.2⟩
theorem fr_rg {R : Nat} {w w' : World} {l : List UInt8} {x1 x2 x3 : Value} (hB : RB w R l x1 x2 x3) (h : RG R w w') : Fr R w w' :=
  ⟨rg_low h (Nat.le_of_lt (rb_lt hB)), keepA_step (keepA_refl w) h (fun k hk => by cases hk; exact .inr ⟨_, _, _, hB, by decide⟩)⟩
theorem fr_env {R : Nat} {w w' : World} (h : Fr R w w') (hE : EnvR R w) : EnvR R w' := env_go hE h.1
/-- Where the reader is: i items read (the last one perhaps still open as a text), o open, l left. -/
def PS (R : Nat) (w : World) (D : Dc) (i : Nat) (o : Int) (pend : Bool) (l : List UInt8) : Prop :=
  ∃ ad c k tx, k + pend.toNat = i ∧ RB w R l (.slice ad k c) (.int .i64 o) (.string tx) ∧ ItO (R + 1) w ad k c D ∧ (pend = false → tx = ⟨#[]⟩) ∧ (pend = true → tx = D.TX k ∧ tx ≠ ⟨#[]⟩ ∧ D.NM k = ⟨#[]⟩ ∧ D.U k = o ∧ D.AC k = 0)
theorem ps_rd {R : Nat} {w w' : World} {D : Dc} {ad : Option Addr} {k c : Nat} {l l' : List UInt8} {x2 x3 y2 y3 : Value} (hB : RB w R l (.slice ad k c) x2 x3) (hI : ItO (R + 1) w ad k c D) (h : RdP R w l' (.slice ad k c) y2 y3 w') : ItO (R + 1) w' ad k c D :=
  ito_kept hI h.2 (fun j hj e => by cases hj; have := (ito_lt hI R e).1; omega) (fr_rg hB h.2).2
theorem ito_rg {R k c : Nat} {w w' : World} {D : Dc} {ad : Option Addr} {l : List UInt8} {x1 x2 x3 : Value} (hB : RB w R l x1 x2 x3) (hI : ItO (R + 1) w ad k c D) (h : RG R w w') : ItO (R + 1) w' ad k c D :=
  ito_kept hI h (fun j hj e => by cases hj; have := (ito_lt hI R e).1; omega) (fr_rg hB h).2
theorem isE_nil {s : ByteArray} (h : isE s = true) : s = ⟨#[]⟩ := by
  unfold isE at h
  rw [ByteArray.toList_eq] at h
  simp at h
  exact ByteArray.ext h
theorem isE_no {s : ByteArray} (h : isE s = false) : s ≠ ⟨#[]⟩ := fun e => by rw [e] at h; simp [isE, ByteArray.toList_eq] at h
theorem ne_list {s : ByteArray} (h : s ≠ ⟨#[]⟩) : (s.toList != (⟨#[]⟩ : ByteArray).toList) = true := by
  rw [bne_iff_ne]
  intro e
  rw [ByteArray.toList_eq, ByteArray.toList_eq] at e
  exact h (ByteArray.ext (Array.toList_inj.1 e))
theorem ne_empty {s : ByteArray} (h : s ≠ ⟨#[]⟩) : s.toList.isEmpty = false := by
  cases e : s.toList.isEmpty
  · rfl
  · exact absurd (isE_nil e) h
theorem itp_text {w : World} {xs : List Value} {k : Nat} {D : Dc} {o : Int} {tx : ByteArray} (h : ItP w xs k D) (hl : xs.length = k * 4) (h1 : tx = D.TX k) (h3 : D.NM k = ⟨#[]⟩) (h4 : D.U k = o) (h5 : D.AC k = 0) : ItP w (xs ++ [.int .i64 o, .string ⟨#[]⟩, .string tx, .slice none 0 0]) (k + 1) D := by
  have h9 := itp_put h hl none 0 (by rw [h5]; intro h; omega) (by rw [h5]; exact Nat.le_refl _)
  rw [h4, h3, ← h1, h5] at h9
  exact h9
theorem ap_step {R k c : Nat} {w w8 : World} {l : List UInt8} {ad : Option Addr} {x2 x3 : Value} {xs : List Value} {ob : Obj} (hB : RB w R l (.slice ad k c) x2 x3) (ho : w.ownsRow (R + 1) IT 4 (.slice ad k c) k xs) (hg : (w.alloc ob).grownBy w8 (Value.slice ad k c).ownBlock) : RB w8 R l (.slice ad k c) x2 x3 ∧ Fr R w w8 := by
  have hlt := rb_lt hB
  have hs : (w.alloc ob).heap.size = w.heap.size + 1 := by simp
  have hb : Below w.heap.size w (w.alloc ob) := (Below.refl _ _).alloc (Nat.le_refl _) ob
  refine ⟨(hg.block R (by omega) (fun e => by have := (ho.lt R e.symm).1; omega)).trans (rb_below hB hb), ⟨by rw [hg.os, hb.os], by rw [hg.tape, hb.tape], by rw [hg.output, hb.output], Nat.le_trans (by omega) hg.size, fun j hj => ?_⟩, keepA_own (keepA_below (keepA_refl w) hb) (ho.alloc ob) hg⟩
  exact (hg.block j (by omega) (fun e => by have := (ho.lt j e.symm).1; omega)).trans (hb.block j (by omega))
theorem ns_ne (R : Nat) : ∀ (k : Nat), R + 1 ≤ k → k ≠ R := fun k h e => by omega
section
variable {R : Nat} {w : World} {D : Dc} {i : Nat} {o : Int} {l r : List UInt8}
set_option maxRecDepth 100000 in
set_option maxHeartbeats 8000000 in
theorem i_endText (pend : Bool) (hn : i ≤ 200) (h : PS R w D i o pend l) :
    Calls Tryz.prog 82 #[.pointer (some ⟨R, 0, none⟩)] w fun e w' => e = .returned (.tuple #[]) ∧ PS R w' D i o false l ∧ Fr R w w' := by
  obtain ⟨i0, hi, hz0, hz1, hz2⟩ := info_parts infoIt
  obtain ⟨ad, c, k, tx, hk, hB, hI, hf, ht⟩ := h
  obtain ⟨c0, c1, c2, c3⟩ := rb_cells hB
  have HB := hide hB
  have HI := hide hI
  have hlt := rb_lt hB
  have fz := rb_frozen hB
  cases pend
  · have htx := hf rfl
    subst htx
    have HK : Hid (k = i) := hide (by simpa using hk)
    clear hB hI hf ht hk
    go_enter Tryz.func82, Tryz.ntmps82
    go_wp2
    go_end0
    exact ⟨rfl, ⟨ad, c, k, ⟨#[]⟩, by rw [HK.out]; rfl, HB.out, HI.out, fun _ => rfl, fun h => by cases h⟩, fr_refl R w⟩
  · obtain ⟨h1, h2, h3, h4, h5⟩ := ht rfl
    have HK : Hid (k + 1 = i) := hide (by simpa using hk)
    have hk9 : k + 1 ≤ 200 := by rw [HK.out]; exact hn
    have hne := ne_list h2
    have hne2 := ne_empty h2
    have H3 := hide h3
    have H4 := hide h4
    have H5 := hide h5
    have H1 := hide h1
    obtain ⟨xs, hown, hip⟩ := hI
    have HO := hide hown
    have HP := hide hip
    have hne3 : tx.toList ≠ [] := by intro e; rw [e] at hne2; cases hne2
    clear hB hf ht hk h1 h2 h3 h4 h5 hown hip
    go_enter Tryz.func82, Tryz.ntmps82
    go_wp2
    have d1 : w.drew.cell? ⟨R, 1, none⟩ = some (.slice ad k c) := c1
    have d2 : w.drew.cell? ⟨R, 2, none⟩ = some (.int .i64 o) := c2
    have d3 : w.drew.cell? ⟨R, 3, none⟩ = some (.string tx) := c3
    have HOD := hide (show w.drew.ownsRow (R + 1) IT 4 (.slice ad k c) k xs from HO.out)
    have HBD := hide (show RB w.drew R l (.slice ad k c) (.int .i64 o) (.string tx) from HB.out)
    have HPD := hide (show ItP w.drew xs k D from HP.out)
    go_region_law (first
      | (refine step_append_lies _ (by rfl) _ _ _ (by rfl) (R + 1) IT i0 _ 4 64 Tryz.underlying24 hi hz0 hz1 hz2 rfl (by omega) (.slice ad k c) k xs (by rfl) (HOD.out.alloc _) ⟨w.heap.size, 0, none⟩ 1 1 [.int .i64 o, .string ⟨#[]⟩, .string tx, .slice none 0 0] (by rfl) (by rfl) (World.news_of_block (cs := #[.int .i64 o, .string ⟨#[]⟩, .string tx, .slice none 0 0]) (t := IT) (fr := (0, 0)) (heap_alloc_new w.drew _)) (by simp [Value.oneCell']) (by omega) (by unfold maxLen; omega) (by omega) (by simp; omega) (w.heap.size + 1) (by simp) ?_; intro gg cap' w8 hown8 hgrow8 hat8 hlt8; obtain ⟨hrb8, hfr8⟩ := ap_step HBD.out HOD.out hgrow8; have HR8 := hide hrb8; have HF8 : Hid (Fr R w w8) := hide ⟨⟨hfr8.1.os, hfr8.1.tape, hfr8.1.output, hfr8.1.size, hfr8.1.block⟩, hfr8.2⟩; have HO8 := hide hown8; have HP8 := hide (itp_text (itp_keep HPD.out hfr8.2) HOD.out.1 H1.out H3.out H4.out H5.out); have e1 := (rb_cells hrb8).2.1; have f1 := rb_frozen hrb8 1; clear hrb8 hfr8 hown8 hgrow8 hat8 hlt8)
      | (fail))
    all_goals
      have HR9 := hide (rb_set1 HR8.out (.slice (some ⟨gg, 0, none⟩) (k + 1) cap'))
      have g3 := (rb_cells HR9.out).2.2.2
      have g4 := rb_frozen HR9.out 3
      go_wp2
      go_end0
      have hG := rg_trans (rg_set R 1 w8 (.slice (some ⟨gg, 0, none⟩) (k + 1) cap')) (rg_set R 3 _ (.string ⟨#[]⟩))
      have hI8 : ItO (R + 1) w8 (some ⟨gg, 0, none⟩) (k + 1) cap' D := ⟨_, HO8.out, HP8.out⟩
      exact ⟨rfl, ⟨some ⟨gg, 0, none⟩, cap', k + 1, ⟨#[]⟩, by rw [HK.out]; rfl, rb_set3 HR9.out _, ito_rg HR8.out hI8 hG, fun _ => rfl, fun h => by cases h⟩, fr_trans HF8.out (fr_rg HR8.out hG)⟩
end
end Go.Proofs.YthcggdjkfebemaaGreatDoor
