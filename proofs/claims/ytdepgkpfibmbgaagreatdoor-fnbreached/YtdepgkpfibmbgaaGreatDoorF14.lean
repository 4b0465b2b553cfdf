/-
  Texts put together: DrGrow0, DrDoc, AppAny.
-/
import Derived.Test.YtdepgkpfibmbgaaGreatDoorF9
import Derived.Test.YtdepgkpfibmbgaaGreatDoorF13
import Derived.Deep.RegionLaw
import Derived.Deep.AppendLies
import Derived.Test.YtdepgkpfibmbgaaGreatDoorF1
import Derived.Deep.Upon
/-
  Contract: a drawn document grows: whatever the code is, a row of items of its own, not too long, each with few attributes.
-/
namespace Go.Proofs.YtdepgkpfibmbgaaGreatDoor
open Go.RowKit Go.Joins
set_option linter.unusedVariables false
set_option linter.unusedSimpArgs false
theorem infoIt : (Tryz.prog.info? IT).map (fun i => (i.zero, i.size, i.bytes)) = some (some (.agg #[.int .i64 0, .string ⟨#[]⟩, .string ⟨#[]⟩, .slice none 0 0]), 4, 64) := by kernel_rfl
theorem infoAt : (Tryz.prog.info? AT).map (fun i => (i.zero, i.size, i.bytes)) = some (some (.agg #[.string ⟨#[]⟩, .string ⟨#[]⟩]), 2, 32) := by kernel_rfl
theorem gFour_new (w : World) (x y z u : Value) (T : TypeId) (j : Nat) (v : Value) (hj : [x, y, z, u][j]? = some v) : (w.alloc (.cells #[x, y, z, u] T)).cell? ((⟨w.heap.size, 0, none⟩ : Addr).add j) = some v := by
  match j, hj with
  | 0, hj => simp at hj; subst hj; simp [Addr.add]
  | 1, hj => simp at hj; subst hj; simp [Addr.add]
  | 2, hj => simp at hj; subst hj; simp [Addr.add]
  | 3, hj => simp at hj; subst hj; simp [Addr.add]
theorem gItem_list (u : Int) (x y : ByteArray) (a : Option Addr) (n c : Nat) : ∀ v ∈ [Value.int .i64 u, Value.string x, Value.string y, Value.slice a n c], v.oneCell' = true := by
  intro v hv
  simp at hv
  rcases hv with rfl | rfl | rfl | rfl <;> rfl
def cD : Nat → Nat
  | 0 => 3
  | d + 1 => 3 * (1 + cD d)
theorem grown_below {w w' : World} (h : Below w.heap.size w w') : w.grownBy w' none := ⟨h.os, h.tape, h.output, h.size, fun k hk _ => h.block k hk⟩
/-- While the document grows. -/
def GS (G : Nat) (a : Option Addr) (n cap : Nat) (zs : List Int) (w0 w : World) (ad : Option Addr) (m c : Nat) (D : Dc) : Prop := RdAt w G a n cap zs ∧ DrIt (G + 1) w ad m c D ∧ Below G w0 w ∧ KeepA w0 w
section
variable {G : Nat} {a : Option Addr} {n cap : Nat} {zs : List Int} {w0 w w1 w2 : World} {ad ad2 : Option Addr} {m c c2 : Nat} {D : Dc}
theorem gs_size (h : GS G a n cap zs w0 w ad m c D) : G < w.heap.size := rd_lt h.1
theorem gs_ne (h : GS G a n cap zs w0 w ad m c D) : (Value.slice ad m c).ownBlock ≠ some G := fun e => by have := drIt_lt h.2.1 G e; omega
theorem gs_drew (h : GS G a n cap zs w0 w ad m c D) (hd : Drew G a n cap zs w w1) : GS G a n cap zs w0 w1 ad m c D :=
  ⟨hd.1, drIt_kept h.2.1 hd.2 (fun k hk => by cases hk; exact gs_ne h) (keepA_drew (keepA_refl w) h.1 hd), below_drew h.2.2.1 hd (Nat.le_of_lt (gs_size h)), keepA_drew h.2.2.2 h.1 hd⟩
theorem gs_below (h : GS G a n cap zs w0 w ad m c D) (hb : Below w.heap.size w w1) : GS G a n cap zs w0 w1 ad m c D :=
  ⟨rd_grown h.1 (grown_below hb) (fun k hk => by cases hk), drIt_below h.2.1 hb, h.2.2.1.trans (hb.mono (Nat.le_of_lt (gs_size h))), keepA_below h.2.2.2 hb⟩
theorem gs_alloc (h : GS G a n cap zs w0 w ad m c D) (o : Obj) : GS G a n cap zs w0 (w.alloc o) ad m c D := gs_below h ((Below.refl _ _).alloc (Nat.le_refl _) o)
/-- One item more. -/
theorem gs_put {xs : List Value} {o : Obj} {u : Int} {nm tx : ByteArray} {aa : Option Addr} {ac cp : Nat} {an av : Nat → ByteArray} (hrd : RdAt w G a n cap zs) (hown : w.ownsRow (G + 1) IT 4 (.slice ad m c) m xs) (hits : Its w xs m D) (hbel : Below G w0 w) (hkeep : KeepA w0 w)
    (ho2 : w2.ownsRow (G + 1) IT 4 (.slice ad2 (m + 1) c2) (m + 1) (xs ++ [.int .i64 u, .string nm, .string tx, .slice aa ac cp])) (hg : (w.alloc o).grownBy w2 (Value.slice ad m c).ownBlock)
    (ha : AtD w aa ac an av) (hc : ac ≤ cp) (h1 : nm.size ≤ 8) (h2 : tx.size ≤ 8) (h3 : ac ≤ 8) (h4 : ∀ k, k < ac → (an k).size ≤ 8 ∧ (av k).size ≤ 8) : GS G a n cap zs w0 w2 ad2 (m + 1) c2 (D.put u nm tx ac an av) := by
  have hlt := rd_lt hrd
  have hgt : ∀ k, (Value.slice ad m c).ownBlock = some k → G < k := fun k hk => by have := hown.lt k hk; omega
  have hal : Below w.heap.size w (w.alloc o) := (Below.refl _ _).alloc (Nat.le_refl _) o
  have hk1 : KeepA w w2 := keepA_own (keepA_below (keepA_refl w) hal) (hown.alloc o) hg
  refine ⟨rd_grown (rd_alloc hrd o) hg hgt, ⟨_, ho2, its_put (its_keep hits hk1) hown.1 u nm tx aa ac cp an av (atD_keep ha hk1) hc h1 h2 h3 h4⟩, ?_, keepA_trans hkeep hk1⟩
  have hb2 : Below G w0 (w.alloc o) := hbel.alloc (Nat.le_of_lt hlt) o
  exact hb2.grown hg (by simp; omega) (fun k hk => Nat.le_of_lt (hgt k hk))
end
/-- While an item gets its attributes: it lies in block X, the last of wX. -/
def XS (G : Nat) (a : Option Addr) (n cap : Nat) (zs : List Int) (w0 wX w : World) (ad : Option Addr) (m c : Nat) (D : Dc) (X : Nat) (up : Int) (nm : ByteArray) (sa : Option Addr) (ka ca : Nat) (N V : Nat → ByteArray) : Prop :=
  RdAt w G a n cap zs ∧ (∃ xs, w.ownsRow (G + 1) IT 4 (.slice ad m c) m xs ∧ Its wX xs m D) ∧ Below G w0 w ∧ KeepA wX w ∧ w.heap[X]? = some (.cells #[.int .i64 up, .string nm, .string ⟨#[]⟩, .slice sa ka ca] IT (0, 0)) ∧
    (∃ ys, w.ownsRow (X + 1) AT 2 (.slice sa ka ca) ka ys ∧ PairsS ys ka N V) ∧ (∀ k, k < ka → (N k).size ≤ 8 ∧ (V k).size ≤ 8) ∧ (G < X ∧ wX.heap.size = X + 1 ∧ KeepA w0 wX ∧ ∀ k, (Value.slice ad m c).ownBlock = some k → k < X)
section
variable {G : Nat} {a : Option Addr} {n cap : Nat} {zs : List Int} {w0 wX w w1 w2 : World} {ad : Option Addr} {m c : Nat} {D : Dc} {X : Nat} {up : Int} {nm : ByteArray} {sa : Option Addr} {ka ca : Nat} {N V : Nat → ByteArray}
theorem xs_step {row : Option Nat} (h : XS G a n cap zs w0 wX w ad m c D X up nm sa ka ca N V) (hr : RdAt w1 G a n cap zs) (hg : w.grownBy w1 row) (hrow : ∀ k, row = some k → k = G) : XS G a n cap zs w0 wX w1 ad m c D X up nm sa ka ca N V := by
  obtain ⟨h1, ⟨xs, h2, h2'⟩, h3, h4, h5, ⟨ys, h6, h6'⟩, h7, h8, h9, h10, h11⟩ := h
  have hlt := (Array.getElem?_eq_some_iff.1 h5).1
  refine ⟨hr, ⟨xs, h2.kept hg ?_, h2'⟩, ?_, ?_, ?_, ⟨ys, h6.kept hg ?_, h6'⟩, h7, h8, h9, h10, h11⟩
  · cases hv : (Value.slice ad m c).ownBlock with
    | none => exact .inl rfl
    | some k => exact .inr fun e => by have e1 := hrow k e.symm; have := h2.lt k hv; omega
  · exact h3.grown hg (Nat.le_of_lt (rd_lt h1)) (fun k hk => by have := hrow k hk; omega)
  · refine keepA_step h4 hg fun k hk => ?_
    have e := hrow k hk
    subst e
    obtain ⟨⟨p, -, hG⟩, -⟩ := h1
    exact .inr ⟨_, _, _, hG, by decide⟩
  · rw [hg.block X hlt (fun e => by have := hrow X e.symm; omega)]; exact h5
  · cases hv : (Value.slice sa ka ca).ownBlock with
    | none => exact .inl rfl
    | some k => exact .inr fun e => by have e1 := hrow k e.symm; have := h6.lt k hv; omega
theorem xs_drew (h : XS G a n cap zs w0 wX w ad m c D X up nm sa ka ca N V) (hd : Drew G a n cap zs w w1) : XS G a n cap zs w0 wX w1 ad m c D X up nm sa ka ca N V := xs_step h hd.1 hd.2 (fun k hk => by cases hk; rfl)
theorem xs_below (h : XS G a n cap zs w0 wX w ad m c D X up nm sa ka ca N V) (hb : Below w.heap.size w w1) : XS G a n cap zs w0 wX w1 ad m c D X up nm sa ka ca N V :=
  xs_step (row := none) h (rd_grown h.1 (grown_below hb) (fun k hk => by cases hk)) (grown_below hb) (fun k hk => by cases hk)
theorem xs_dr (h : XS G a n cap zs w0 wX w ad m c D X up nm sa ka ca N V) : XS G a n cap zs w0 wX w.drew ad m c D X up nm sa ka ca N V := xs_below h ⟨rfl, rfl, rfl, Nat.le_refl _, fun _ _ => rfl⟩
theorem xs_alloc (h : XS G a n cap zs w0 wX w ad m c D X up nm sa ka ca N V) (o : Obj) : XS G a n cap zs w0 wX (w.alloc o) ad m c D X up nm sa ka ca N V := xs_below h ((Below.refl _ _).alloc (Nat.le_refl _) o)
theorem xs_lt (h : XS G a n cap zs w0 wX w ad m c D X up nm sa ka ca N V) : X + 1 ≤ w.heap.size := by have := h.2.2.2.1.1; have := h.2.2.2.2.2.2.2.2.1; omega
theorem xs_cell (h : XS G a n cap zs w0 wX w ad m c D X up nm sa ka ca N V) (i : Nat) : w.cell? ⟨X, i, none⟩ = #[Value.int .i64 up, .string nm, .string ⟨#[]⟩, .slice sa ka ca][i]? := by rw [cell_of_row w X i _ IT (0, 0) h.2.2.2.2.1]
theorem xs_frozen (h : XS G a n cap zs w0 wX w ad m c D X up nm sa ka ca N V) (i : Nat) : w.frozen? ⟨X, i, none⟩ = false := by simp [World.frozen?, h.2.2.2.2.1]
/-- The store of another list of attributes. -/
theorem xs_store {sa' : Option Addr} {ka' ca' : Nat} {N' V' : Nat → ByteArray} {ys : List Value} (h : XS G a n cap zs w0 wX w ad m c D X up nm sa ka ca N V) (hy : w.ownsRow (X + 1) AT 2 (.slice sa' ka' ca') ka' ys) (hp : PairsS ys ka' N' V') (hs : ∀ k, k < ka' → (N' k).size ≤ 8 ∧ (V' k).size ≤ 8) :
    XS G a n cap zs w0 wX (w.setCell ⟨X, 3, none⟩ (.slice sa' ka' ca')) ad m c D X up nm sa' ka' ca' N' V' := by
  obtain ⟨h1, ⟨xs, h2, h2'⟩, h3, h4, h5, -, -, h8, h9, h10, h11⟩ := h
  have hg := grown_set w ⟨X, 3, none⟩ (.slice sa' ka' ca')
  have hrow : ∀ k, some X = some k → k = X := fun k hk => by cases hk; rfl
  refine ⟨rd_grown h1 hg (fun k hk => by have := hrow k hk; omega), ⟨xs, h2.kept hg ?_, h2'⟩, ?_, ?_, ?_, ⟨ys, hy.kept hg ?_, hp⟩, hs, h8, h9, h10, h11⟩
  · cases hv : (Value.slice ad m c).ownBlock with
    | none => exact .inl rfl
    | some k => exact .inr fun e => by have e1 := hrow k e.symm; have := h11 k hv; omega
  · exact h3.grown hg (Nat.le_of_lt (rd_lt h1)) (fun k hk => by have := hrow k hk; omega)
  · exact keepA_step h4 hg fun k hk => by have e := hrow k hk; subst e; exact .inr ⟨_, _, _, h5, by decide⟩
  · have := block_setCell (i := 3) h5 (.slice sa' ka' ca')
    simpa using this
  · cases hv : (Value.slice sa' ka' ca').ownBlock with
    | none => exact .inl rfl
    | some k => exact .inr fun e => by have e1 := hrow k e.symm; have := hy.lt k hv; omega
/-- What a longer list of attributes leaves. -/
theorem xs_grown {v : Value} {k : Nat} {ys : List Value} (h : XS G a n cap zs w0 wX w ad m c D X up nm sa ka ca N V) (hv : w.ownsRow (X + 1) AT 2 v k ys) (hg : w.grownBy w1 v.ownBlock) {zs' : List Value} {sa' : Option Addr} {ka' ca' : Nat} {N' V' : Nat → ByteArray} (hy : w1.ownsRow (X + 1) AT 2 (.slice sa' ka' ca') ka' zs') (hp : PairsS zs' ka' N' V') (hs : ∀ k, k < ka' → (N' k).size ≤ 8 ∧ (V' k).size ≤ 8) :
    XS G a n cap zs w0 wX (w1.setCell ⟨X, 3, none⟩ (.slice sa' ka' ca')) ad m c D X up nm sa' ka' ca' N' V' := by
  obtain ⟨h1, ⟨xs, h2, h2'⟩, h3, h4, h5, -, -, h8, h9, h10, h11⟩ := h
  have hrow : ∀ k, v.ownBlock = some k → X + 1 ≤ k := fun k hk => (hv.lt k hk).1
  have hlt := (Array.getElem?_eq_some_iff.1 h5).1
  have h5' : w1.heap[X]? = some (.cells #[.int .i64 up, .string nm, .string ⟨#[]⟩, .slice sa ka ca] IT (0, 0)) := by
    rw [hg.block X hlt (fun e => by have := hrow X e.symm; omega)]; exact h5
  have base : ∃ N0 V0, XS G a n cap zs w0 wX (w1.setCell ⟨X, 3, none⟩ (.slice sa' ka' ca')) ad m c D X up nm sa' ka' ca' N0 V0 ∧ N0 = N' ∧ V0 = V' := by
    refine ⟨N', V', ?_, rfl, rfl⟩
    have hr1 : RdAt w1 G a n cap zs := rd_grown h1 hg (fun k hk => by have := hrow k hk; omega)
    have ho1 : w1.ownsRow (G + 1) IT 4 (.slice ad m c) m xs := h2.kept hg (by
      cases hv : (Value.slice ad m c).ownBlock with
      | none => exact .inl rfl
      | some k => exact .inr fun e => by have e1 := hrow k e.symm; have := h11 k hv; omega)
    have hb1 : Below G w0 w1 := h3.grown hg (Nat.le_of_lt (rd_lt h1)) (fun k hk => by have := hrow k hk; omega)
    have hk1 : KeepA wX w1 := keepA_step h4 hg fun k hk => .inl (by have := hrow k hk; omega)
    have hg2 := grown_set w1 ⟨X, 3, none⟩ (.slice sa' ka' ca')
    have hrow2 : ∀ k, some X = some k → k = X := fun k hk => by cases hk; rfl
    refine ⟨rd_grown hr1 hg2 (fun k hk => by have := hrow2 k hk; omega), ⟨xs, ho1.kept hg2 ?_, h2'⟩, ?_, ?_, ?_, ⟨zs', hy.kept hg2 ?_, hp⟩, hs, h8, h9, h10, h11⟩
    · cases hv : (Value.slice ad m c).ownBlock with
      | none => exact .inl rfl
      | some k => exact .inr fun e => by have e1 := hrow2 k e.symm; have := h11 k hv; omega
    · exact hb1.grown hg2 (Nat.le_of_lt (rd_lt hr1)) (fun k hk => by have := hrow2 k hk; omega)
    · exact keepA_step hk1 hg2 fun k hk => by have e := hrow2 k hk; subst e; exact .inr ⟨_, _, _, h5', by decide⟩
    · have := block_setCell (i := 3) h5' (.slice sa' ka' ca')
      simpa using this
    · cases hv : (Value.slice sa' ka' ca').ownBlock with
      | none => exact .inl rfl
      | some k => exact .inr fun e => by have e1 := hrow2 k e.symm; have := hy.lt k hv; omega
  obtain ⟨N0, V0, hX, rfl, rfl⟩ := base
  exact hX
end
def putF (N : Nat → ByteArray) (k : Nat) (x : ByteArray) : Nat → ByteArray := fun j => if j = k then x else N j
theorem pairs_putF {ys : List Value} {k : Nat} {N V : Nat → ByteArray} (h : PairsS ys k N V) (hl : ys.length = k * 2) (x y : ByteArray) : PairsS (ys ++ [.string x, .string y]) (k + 1) (putF N k x) (putF V k y) := by
  intro j hj
  unfold putF
  by_cases e : j = k
  · subst e
    rw [if_pos rfl, if_pos rfl, List.getElem?_append_right (by omega), List.getElem?_append_right (by omega), hl, show j * 2 - j * 2 = 0 by omega, show j * 2 + 1 - j * 2 = 1 by omega]
    exact ⟨rfl, rfl⟩
  · rw [if_neg e, if_neg e, List.getElem?_append_left (by omega), List.getElem?_append_left (by omega)]
    exact h j (by omega)
theorem small_putF {N V : Nat → ByteArray} {k : Nat} {x y : ByteArray} (h : ∀ j, j < k → (N j).size ≤ 8 ∧ (V j).size ≤ 8) (hx : x.size ≤ 8) (hy : y.size ≤ 8) : ∀ j, j < k + 1 → (putF N k x j).size ≤ 8 ∧ (putF V k y j).size ≤ 8 := fun j hj => by
  unfold putF
  by_cases e : j = k
  · rw [if_pos e, if_pos e]; exact ⟨hx, hy⟩
  · rw [if_neg e, if_neg e]; exact h j (by omega)
def GrowAns (G : Nat) (a : Option Addr) (n cap : Nat) (zs : List Int) (w : World) (m0 d : Nat) (e : Ending) (w' : World) : Prop := ∃ ad m c D, e = .returned (.slice ad m c) ∧ GS G a n cap zs w w' ad m c D ∧ m0 ≤ m ∧ m ≤ m0 + cD d
theorem gs_trans {G : Nat} {a : Option Addr} {n cap : Nat} {zs : List Int} {w0 w w1 : World} {ad ad1 : Option Addr} {m c m1 c1 : Nat} {D D1 : Dc} (h : GS G a n cap zs w0 w ad m c D) (k : GS G a n cap zs w w1 ad1 m1 c1 D1) : GS G a n cap zs w0 w1 ad1 m1 c1 D1 :=
  ⟨k.1, k.2.1, h.2.2.1.trans k.2.2.1, keepA_trans h.2.2.2 k.2.2.2⟩
theorem own_cap {w : World} {B : Nat} {e : TypeId} {z : Nat} {ad : Option Addr} {m c : Nat} {xs : List Value} (h : w.ownsRow B e z (.slice ad m c) m xs) : m ≤ c := by
  rcases h.2 with ⟨hv, h0⟩ | ⟨g, cp, cur, hv, -, -, hc, -⟩
  · omega
  · simp only [Value.slice.injEq] at hv
    omega
theorem own_addr {w : World} {B : Nat} {e : TypeId} {z : Nat} {ad : Option Addr} {m c : Nat} {xs : List Value} (h : w.ownsRow B e z (.slice ad m c) m xs) (hm : 0 < m) : ∃ g, ad = some ⟨g, 0, none⟩ := by
  rcases h.2 with ⟨hv, h0⟩ | ⟨g, cp, cur, hv, -⟩
  · omega
  · simp only [Value.slice.injEq] at hv
    exact ⟨g, hv.1⟩
theorem own_less {w : World} {B : Nat} {e : TypeId} {z g m c k : Nat} {xs : List Value} (h : w.ownsRow B e z (.slice (some ⟨g, 0, none⟩) m c) m xs) (hk : k ≤ m) : w.ownsRow B e z (.slice (some ⟨g, 0, none⟩) k c) k (xs.take (k * z)) := by
  have hkm : k * z ≤ m * z := Nat.mul_le_mul_right _ hk
  refine ⟨by rw [List.length_take, h.1]; omega, ?_⟩
  rcases h.2 with ⟨hv, h0⟩ | ⟨g', cp, cur, hv, hB, hh, hc, hm, hs, ht⟩
  · cases hv
  · simp only [Value.slice.injEq, Option.some.injEq, Addr.mk.injEq] at hv
    obtain ⟨⟨rfl, -⟩, -, rfl⟩ := hv
    exact .inr ⟨g, c, cur, rfl, hB, hh, by omega, hm, hs, by rw [← ht, List.take_take, Nat.min_eq_left hkm]⟩
theorem pairs_less {ys : List Value} {m k : Nat} {N V : Nat → ByteArray} (h : PairsS ys m N V) (hk : k ≤ m) : PairsS (ys.take (k * 2)) k N V := fun j hj => by
  rw [List.getElem?_take_of_lt (by omega), List.getElem?_take_of_lt (by omega)]
  exact h j (by omega)
theorem gFour_newS (w : World) (p : Addr) (q x y z u : Value) (T : TypeId) (j : Nat) (v : Value) (hj : [x, y, z, u][j]? = some v) : ((w.setCell p q).alloc (.cells #[x, y, z, u] T)).cell? ((⟨w.heap.size, 0, none⟩ : Addr).add j) = some v := by
  have h := gFour_new (w.setCell p q) x y z u T j v hj
  rw [heap_setCell_size] at h
  exact h
theorem rec_of {d : Nat} {P : Prop} (h : d = 0 ∨ P) (hd : ¬ d = 0) : P := by
  rcases h with h | h
  · exact absurd h hd
  · exact h
end Go.Proofs.YtdepgkpfibmbgaaGreatDoor

/-
  Contracts: the drawn document: whatever the code is, a row of items of its own, with what is hurt in it.
-/
namespace Go.Proofs.YtdepgkpfibmbgaaGreatDoor
open Go.RowKit Go.Joins
set_option linter.unusedVariables false
set_option linter.unusedSimpArgs false
set_option maxHeartbeats 1000000 in
theorem d_belowG (G : Nat) (a : Option Addr) (n cap : Nat) (zs : List Int) (m : Int) (w : World) (hm : 1 ≤ m) (hm' : m ≤ 256) (h : RdAt w G a n cap zs) :
    Calls Tryz.prog 45 #[.pointer (some ⟨G, 0, none⟩), .int .i64 m] w fun e w' => ∃ x : Int, 0 ≤ x ∧ x < m ∧ e = .returned (.int .i64 x) ∧ Drew G a n cap zs w w' := by
  by_cases h2 : 2 ≤ m
  · exact d_below G a n cap zs m w h2 hm' h
  · have h1 : m ≤ 1 := by omega
    have HH := hide h
    clear h
    go_enter Tryz.func45, Tryz.ntmps45
    go_wp2
    go_ret
    exact ⟨0, by omega, by omega, rfl, drew_refl HH.out⟩
def D1 (u : Int) (nm : ByteArray) : Dc := ⟨1, fun _ => u, fun _ => nm, fun _ => ⟨#[]⟩, fun _ => 0, fun _ _ => ⟨#[]⟩, fun _ _ => ⟨#[]⟩⟩
theorem drIt_one (w : World) (G : Nat) (u : Int) (nm : ByteArray) (hG : G < w.heap.size) (hn : nm.size ≤ 8) : DrIt (G + 1) (w.alloc (.cells #[.int .i64 u, .string nm, .string ⟨#[]⟩, .slice none 0 0] IT)) (some ⟨w.heap.size, 0, none⟩) 1 1 (D1 u nm) := by
  refine ⟨[.int .i64 u, .string nm, .string ⟨#[]⟩, .slice none 0 0], ⟨rfl, .inr ⟨w.heap.size, 1, _, rfl, hG, heap_alloc_new w _, Nat.le_refl _, by unfold maxLen; omega, rfl, rfl⟩⟩, rfl, fun j hj => ?_⟩
  have : j = 0 := by omega
  subst this
  exact ⟨none, 0, ⟨rfl, rfl, rfl, rfl⟩, fun h => absurd h (Nat.lt_irrefl _), Nat.le_refl _, hn, (show (0 : Nat) ≤ 8 from by omega), (show (0 : Nat) ≤ 8 from by omega), fun k hk => absurd hk (Nat.not_lt_zero _)⟩
def updU (D : Dc) (k : Nat) (y : Int) : Dc := ⟨D.n, fun j => if j = k then y else D.U j, D.NM, D.TX, D.AC, D.AN, D.AV⟩
def updN (D : Dc) (k : Nat) (y : ByteArray) : Dc := ⟨D.n, D.U, fun j => if j = k then y else D.NM j, D.TX, D.AC, D.AN, D.AV⟩
def updT (D : Dc) (k : Nat) (y : ByteArray) : Dc := ⟨D.n, D.U, D.NM, fun j => if j = k then y else D.TX j, D.AC, D.AN, D.AV⟩
section
variable {G : Nat} {a : Option Addr} {n cap : Nat} {zs : List Int} {w0 w : World} {g m c k : Nat} {D D' : Dc} {xs : List Value}
theorem gs_cell (h : GS G a n cap zs w0 w (some ⟨g, 0, none⟩) m c D) (i : Nat) (hi : i < m * 4) : (∃ v, w.cell? ⟨g, i, none⟩ = some v) ∧ w.frozen? ⟨g, i, none⟩ = false := by
  obtain ⟨xs, h1, h2⟩ := h.2.1
  refine ⟨?_, h1.frozenAt i⟩
  rw [h1.cellAt i (by omega)]
  exact ⟨_, List.getElem?_eq_getElem (by rw [h1.1]; omega)⟩
theorem gs_store (h : GS G a n cap zs w0 w (some ⟨g, 0, none⟩) m c D) (i : Nat) (v : Value) (hI : ∀ (W : World) (xs : List Value), xs.length = m * 4 → Its W xs m D → Its W (xs.set i v) m D') : GS G a n cap zs w0 (w.setCell ⟨g, i, none⟩ v) (some ⟨g, 0, none⟩) m c D' := by
  obtain ⟨h1, ⟨xs, h2, h3⟩, h4, h5⟩ := h
  have hg := grown_set w ⟨g, i, none⟩ v
  have hlt := h2.lt g rfl
  have hrow : ∀ k, some g = some k → k = g := fun k hk => by cases hk; rfl
  have hk : KeepA w (w.setCell ⟨g, i, none⟩ v) := keepA_own (keepA_refl w) h2 hg
  refine ⟨rd_grown h1 hg (fun k hk => by have := hrow k hk; omega), ⟨_, (h2.stored i v).1, hI _ _ h2.1 (its_keep h3 hk)⟩, ?_, keepA_trans h5 hk⟩
  exact h4.grown hg (Nat.le_of_lt (rd_lt h1)) (fun k hk => by have := hrow k hk; omega)
theorem its_U (y : Int) (hk : k < m) (W : World) (xs : List Value) (hl : xs.length = m * 4) (h : Its W xs m D) : Its W (xs.set (k * 4) (.int .i64 y)) m (updU D k y) := by
  refine ⟨h.1, fun j hj => ?_⟩
  obtain ⟨ad, cp, ⟨c0, c1, c2, c3⟩, h2⟩ := h.2 j hj
  refine ⟨ad, cp, ⟨?_, ?_, ?_, ?_⟩, h2⟩
  · by_cases e : j = k
    · subst e; rw [List.getElem?_set_self (by omega)]; show _ = some (Value.int .i64 (if j = j then y else D.U j)); rw [if_pos rfl]
    · rw [List.getElem?_set_ne (by omega)]; show _ = some (Value.int .i64 (if j = k then y else D.U j)); rw [if_neg e]; exact c0
  · rw [List.getElem?_set_ne (by omega)]; exact c1
  · rw [List.getElem?_set_ne (by omega)]; exact c2
  · rw [List.getElem?_set_ne (by omega)]; exact c3
theorem its_N (y : ByteArray) (hy : y.size ≤ 8) (hk : k < m) (W : World) (xs : List Value) (hl : xs.length = m * 4) (h : Its W xs m D) : Its W (xs.set (k * 4 + 1) (.string y)) m (updN D k y) := by
  refine ⟨h.1, fun j hj => ?_⟩
  obtain ⟨ad, cp, ⟨c0, c1, c2, c3⟩, h2, h3, s1, s2, s3⟩ := h.2 j hj
  refine ⟨ad, cp, ⟨?_, ?_, ?_, ?_⟩, h2, h3, ?_, s2, s3⟩
  · rw [List.getElem?_set_ne (by omega)]; exact c0
  · by_cases e : j = k
    · subst e; rw [List.getElem?_set_self (by omega)]; show _ = some (Value.string (if j = j then y else D.NM j)); rw [if_pos rfl]
    · rw [List.getElem?_set_ne (by omega)]; show _ = some (Value.string (if j = k then y else D.NM j)); rw [if_neg e]; exact c1
  · rw [List.getElem?_set_ne (by omega)]; exact c2
  · rw [List.getElem?_set_ne (by omega)]; exact c3
  · show (if j = k then y else D.NM j).size ≤ 8
    split
    · exact hy
    · exact s1
theorem its_T (y : ByteArray) (hy : y.size ≤ 8) (hk : k < m) (W : World) (xs : List Value) (hl : xs.length = m * 4) (h : Its W xs m D) : Its W (xs.set (k * 4 + 2) (.string y)) m (updT D k y) := by
  refine ⟨h.1, fun j hj => ?_⟩
  obtain ⟨ad, cp, ⟨c0, c1, c2, c3⟩, h2, h3, s1, s2, s3⟩ := h.2 j hj
  refine ⟨ad, cp, ⟨?_, ?_, ?_, ?_⟩, h2, h3, s1, ?_, s3⟩
  · rw [List.getElem?_set_ne (by omega)]; exact c0
  · rw [List.getElem?_set_ne (by omega)]; exact c1
  · by_cases e : j = k
    · subst e; rw [List.getElem?_set_self (by omega)]; show _ = some (Value.string (if j = j then y else D.TX j)); rw [if_pos rfl]
    · rw [List.getElem?_set_ne (by omega)]; show _ = some (Value.string (if j = k then y else D.TX j)); rw [if_neg e]; exact c2
  · rw [List.getElem?_set_ne (by omega)]; exact c3
  · show (if j = k then y else D.TX j).size ≤ 8
    split
    · exact hy
    · exact s2
end
end Go.Proofs.YtdepgkpfibmbgaaGreatDoor

/-
  Plain facts: an append of anything that lies in memory, or of nothing (SpRows and SpA have them too, under other names).
-/
namespace Go.Proofs.YtdepgkpfibmbgaaGreatDoor
open Go.RowKit
set_option linter.unusedVariables false
set_option linter.unusedSimpArgs false
/-- An append, be there something to append or nothing. -/
theorem wp_append_src {P : Program} {w : World} {o : Oper} {a : Act} {K : Act → World → Prop} {Q : Exit → Act → World → Prop} (s x : Operand) (t : TypeId)
    (ho : o.op = .call { callee := .builtin .append, args := #[s, x], argTypes := #[t, t] })
    (base : Nat) (e : TypeId) (i : TypeInfo) (z : Value) (size bytes : Nat) (ht : P.underlying t = some (.slice e)) (hi : P.info? e = some i) (hz : i.zero = some z)
    (hsize : i.size = size) (hby : i.bytes = bytes) (hzs : z.cells.size = size) (hsz : 0 < size)
    (v : Value) (n : Nat) (xs : List Value) (hs : a.eval s = v) (hown : w.ownsRow base e size v n xs)
    (xa : Option Addr) (m c : Nat) (news : List Value) (hx : a.eval x = .slice xa m c) (hl : news.length = m * size) (hnews : 0 < m → ∃ ad, xa = some ad ∧ ∀ j u, news[j]? = some u → w.cell? (ad.add j) = some u) (h1 : ∀ u ∈ news, u.oneCell' = true)
    (h63 : n + m ≤ maxLen) (hbytes : (n + m) * bytes ≤ 140737488355328) (hbase : base ≤ w.heap.size)
    (h : ∀ a' c' w', w'.ownsRow base e size (.slice a' (n + m) c') (n + m) (xs ++ news) → w.grownBy w' v.ownBlock → K (a.put o.dst (.slice a' (n + m) c')) w') : o.wp P a w K Q := by
  by_cases hm : 0 < m
  · obtain ⟨ad, rfl, hnw⟩ := hnews hm
    exact wp_append_lies w s x t ho base e i z size bytes ht hi hz hsize hby hzs hsz v n xs hs hown ad m c news hx hl hnw h1 hm h63 hbytes hbase _ rfl (fun g cap w' k1 k2 _ _ => h _ _ w' k1 k2)
  · obtain rfl : m = 0 := by omega
    rw [Nat.zero_mul] at hl
    obtain rfl : news = [] := List.length_eq_zero_iff.1 hl
    have hv : ∃ a' c', v = .slice a' n c' ∧ n ≤ c' := by
      rcases hown.2 with ⟨rfl, rfl⟩ | ⟨g, cap, cur, rfl, _, _, hc, _⟩
      · exact ⟨none, 0, rfl, Nat.le_refl _⟩
      · exact ⟨_, cap, rfl, hc⟩
    obtain ⟨a', c', rfl, hc⟩ := hv
    have hsrc : Src P i.size t (.slice xa 0 c) 0 [] w := by
      cases xa with
      | none => exact Src.ofNil w ht c
      | some ad => exact Src.ofSlice w ht ad 0 c [] (by simp) (fun j u hj => by simp at hj) (fun u hu => by cases hu)
    have hr := run_append_nothing (P := P) w t t o.type e i ht hi a' n c' hc (.slice xa 0 c) hsrc
    unfold Oper.wp execOp
    simp only [ho, resolve, invoke, builtin, Sem.run_bind, Sem.run_pure, Result.andThen_ok, List.map_toArray, List.map_cons, List.map_nil, hs, hx, hr]
    exact h a' c' w (by rw [List.append_nil]; exact hown) ⟨rfl, rfl, rfl, Nat.le_refl _, fun _ _ _ => rfl⟩
/-- The same at a list of operations. -/
theorem wpList_append_src {P : Program} {w : World} {ops : Array Oper} {rest : List Oper} {o : Oper} {a : Act} {Q : Exit → Act → World → Prop} (hgd : o.guard = none) (s x : Operand) (t : TypeId)
    (ho : o.op = .call { callee := .builtin .append, args := #[s, x], argTypes := #[t, t] })
    (base : Nat) (e : TypeId) (i : TypeInfo) (z : Value) (size bytes : Nat) (ht : P.underlying t = some (.slice e)) (hi : P.info? e = some i) (hz : i.zero = some z)
    (hsize : i.size = size) (hby : i.bytes = bytes) (hzs : z.cells.size = size) (hsz : 0 < size)
    (v : Value) (n : Nat) (xs : List Value) (hs : a.eval s = v) (hown : w.ownsRow base e size v n xs)
    (xa : Option Addr) (m c : Nat) (news : List Value) (hx : a.eval x = .slice xa m c) (hl : news.length = m * size) (hnews : 0 < m → ∃ ad, xa = some ad ∧ ∀ j u, news[j]? = some u → w.cell? (ad.add j) = some u) (h1 : ∀ u ∈ news, u.oneCell' = true)
    (h63 : n + m ≤ maxLen) (hbytes : (n + m) * bytes ≤ 140737488355328) (hbase : base ≤ w.heap.size)
    (h : ∀ a' c' w', w'.ownsRow base e size (.slice a' (n + m) c') (n + m) (xs ++ news) → w.grownBy w' v.ownBlock → wpList P ops Q rest (a.put o.dst (.slice a' (n + m) c')) w') : wpList P ops Q (o :: rest) a w :=
  wpList_plain hgd fun _ hK => wp_append_src s x t ho base e i z size bytes ht hi hz hsize hby hzs hsz v n xs hs hown xa m c news hx hl hnews h1 h63 hbytes hbase fun a' c' w' h2 h3 => hK _ _ (h a' c' w' h2 h3)
/-- What an append reads of a row of numbers. -/
theorem row_src {w : World} {b off : Nat} {L : List Int} (h : ∀ j, j < L.length → w.cell? ⟨b, off + j, none⟩ = some (.int .i64 (L[j]?.getD 0))) : ∀ j u, (L.map (Value.int .i64))[j]? = some u → w.cell? ((⟨b, off, none⟩ : Addr).add j) = some u := by
  intro j u hu
  have hadd : (⟨b, off, none⟩ : Addr).add j = ⟨b, off + j, none⟩ := by unfold Addr.add; split <;> simp_all
  have hj : j < L.length := by
    rcases Nat.lt_or_ge j L.length with h' | h'
    · exact h'
    · rw [List.getElem?_eq_none (by rw [List.length_map]; exact h')] at hu; cases hu
  rw [hadd, h j hj]
  rw [List.getElem?_map, List.getElem?_eq_getElem hj] at hu
  rw [List.getElem?_eq_getElem hj]
  simpa using hu
theorem ints_one (L : List Int) : ∀ u ∈ L.map (Value.int .i64), u.oneCell' = true := by
  intro u hu
  obtain ⟨z, -, rfl⟩ := List.mem_map.1 hu
  rfl
end Go.Proofs.YtdepgkpfibmbgaaGreatDoor
