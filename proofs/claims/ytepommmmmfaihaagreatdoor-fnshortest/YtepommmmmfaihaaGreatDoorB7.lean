/-
  Texts put together: ShelfS, ShI, Gen.
-/
import Derived.Shelf.SortM.Plain
import Derived.Shelf.SortM.SortNone
import Derived.Test.YtepommmmmfaihaaGreatDoorProg
import Derived.Test.YtepommmmmfaihaaGreatDoorB5
import Derived.Test.YtepommmmmfaihaaGreatDoorB3
import Derived.Sort.OwnSortedInts
import Derived.OwnWalk
import Derived.Laws.OwnMore
import Derived.Test.YtepommmmmfaihaaGreatDoorB1
import Derived.Below
/-
  Contracts of Go's own library at this program, laid by the shelf's plain mode: each is one application of a theorem of the library.
-/
namespace Go.Proofs
open Go.Shelf
def Tryz.laysSlM5_f80_ren : Go.Shelf.Ren := ⟨fun | 5 => 80 | 8 => 96 | 7 => 95 | 19 => 115 | 20 => 116 | 10 => 106 | 11 => 107 | 12 => 108 | 13 => 109 | 14 => 110 | 15 => 111 | 16 => 112 | 17 => 113 | 18 => 114 | 30 => 124 | 31 => 125 | 32 => 126 | 33 => 127 | 34 => 128 | 35 => 129 | 40 => 138 | n => n, fun | 23 => 31 | 25 => 2 | 3 => 3 | 32 => 115 | 22 => 31 | 0 => 0 | 44 => 112 | 46 => 113 | 4 => 4 | 36 => 132 | 35 => 131 | 41 => 137 | 5 => 5 | 9 => 9 | 53 => 149 | 57 => 152 | 63 => 157 | 64 => 158 | n => n, fun | n => n⟩
theorem Tryz.laysSlM5_f80 : Go.Proofs.SlLaysM.n5 Tryz.prog Tryz.laysSlM5_f80_ren := {
  mixed := by kernel_rfl
  f5 := ⟨Tryz.f80.name, by decide, Tryz.func80.trans (congrArg some (by kernel_rfl))⟩
  f7 := ⟨Tryz.f95.name, by decide, Tryz.func95.trans (congrArg some (by kernel_rfl))⟩
  f8 := Tryz.func96.trans (congrArg some (by kernel_rfl))
  f10 := ⟨Tryz.f106.name, by decide, Tryz.func106.trans (congrArg some (by kernel_rfl))⟩
  f11 := ⟨Tryz.f107.name, by decide, Tryz.func107.trans (congrArg some (by kernel_rfl))⟩
  f12 := ⟨Tryz.f108.name, by decide, Tryz.func108.trans (congrArg some (by kernel_rfl))⟩
  f13 := ⟨Tryz.f109.name, by decide, Tryz.func109.trans (congrArg some (by kernel_rfl))⟩
  f14 := ⟨Tryz.f110.name, by decide, Tryz.func110.trans (congrArg some (by kernel_rfl))⟩
  f15 := ⟨Tryz.f111.name, by decide, Tryz.func111.trans (congrArg some (by kernel_rfl))⟩
  f16 := ⟨Tryz.f112.name, by decide, Tryz.func112.trans (congrArg some (by kernel_rfl))⟩
  f17 := ⟨Tryz.f113.name, by decide, Tryz.func113.trans (congrArg some (by kernel_rfl))⟩
  f18 := ⟨Tryz.f114.name, by decide, Tryz.func114.trans (congrArg some (by kernel_rfl))⟩
  f19 := Tryz.func115.trans (congrArg some (by kernel_rfl))
  f20 := Tryz.func116.trans (congrArg some (by kernel_rfl))
  f30 := ⟨Tryz.f124.name, by decide, Tryz.func124.trans (congrArg some (by kernel_rfl))⟩
  f31 := Tryz.func125.trans (congrArg some (by kernel_rfl))
  f32 := Tryz.func126.trans (congrArg some (by kernel_rfl))
  f33 := ⟨Tryz.f127.name, by decide, Tryz.func127.trans (congrArg some (by kernel_rfl))⟩
  f34 := ⟨Tryz.f128.name, by decide, Tryz.func128.trans (congrArg some (by kernel_rfl))⟩
  f35 := ⟨Tryz.f129.name, by decide, Tryz.func129.trans (congrArg some (by kernel_rfl))⟩
  f40 := ⟨Tryz.f138.name, by decide, Tryz.func138.trans (congrArg some (by kernel_rfl))⟩
  t0 := Tryz.underlying0
  a0 := Tryz.isAgg0
  z0 := Tryz.sizeOf0
  v0 := Tryz.zeroValue0
  t3 := Tryz.underlying3
  a3 := Tryz.isAgg3
  z3 := Tryz.sizeOf3
  v3 := Tryz.zeroValue3
  t4 := Tryz.underlying4
  a4 := Tryz.isAgg4
  z4 := Tryz.sizeOf4
  v4 := Tryz.zeroValue4
  t5 := Tryz.underlying5
  a5 := Tryz.isAgg5
  z5 := Tryz.sizeOf5
  v5 := Tryz.zeroValue5
  t9 := Tryz.underlying9
  a9 := Tryz.isAgg9
  z9 := Tryz.sizeOf9
  v9 := Tryz.zeroValue9
  t22 := Tryz.underlying31
  a22 := Tryz.isAgg31
  z22 := Tryz.sizeOf31
  v22 := Tryz.zeroValue31
  t23 := Tryz.underlying31
  a23 := Tryz.isAgg31
  z23 := Tryz.sizeOf31
  v23 := Tryz.zeroValue31
  t25 := Tryz.underlying2
  a25 := Tryz.isAgg2
  z25 := Tryz.sizeOf2
  v25 := Tryz.zeroValue2
  t32 := Tryz.underlying115
  a32 := Tryz.isAgg115
  z32 := Tryz.sizeOf115
  v32 := Tryz.zeroValue115
  t35 := Tryz.underlying131
  a35 := Tryz.isAgg131
  z35 := Tryz.sizeOf131
  v35 := Tryz.zeroValue131
  t36 := Tryz.underlying132
  a36 := Tryz.isAgg132
  z36 := Tryz.sizeOf132
  v36 := Tryz.zeroValue132
  t41 := Tryz.underlying137
  a41 := Tryz.isAgg137
  z41 := Tryz.sizeOf137
  v41 := Tryz.zeroValue137
  t44 := Tryz.underlying112
  a44 := Tryz.isAgg112
  z44 := Tryz.sizeOf112
  v44 := Tryz.zeroValue112
  t46 := Tryz.underlying113
  a46 := Tryz.isAgg113
  z46 := Tryz.sizeOf113
  v46 := Tryz.zeroValue113
  t53 := Tryz.underlying149
  a53 := Tryz.isAgg149
  z53 := Tryz.sizeOf149
  v53 := Tryz.zeroValue149
  t57 := Tryz.underlying152
  a57 := Tryz.isAgg152
  z57 := Tryz.sizeOf152
  v57 := Tryz.zeroValue152
  t63 := Tryz.underlying157
  a63 := Tryz.isAgg157
  z63 := Tryz.sizeOf157
  v63 := Tryz.zeroValue157
  t64 := Tryz.underlying158
  a64 := Tryz.isAgg158
  z64 := Tryz.sizeOf158
  v64 := Tryz.zeroValue158 }
open Go.Sort Go.RowKit in
theorem Tryz.slices_Sort_int (blk off cap : Nat) (zs : List Int) (w : World) (hH : Holds (Value.int .i64) w blk off zs.toArray) (hblk : blk < w.heap.size) (hsz : zs.length < 4611686018427387904) :
    Calls Tryz.prog 80 #[.slice (some ⟨blk, off, none⟩) zs.length cap] w fun e w' =>
      e = .returned (.tuple #[]) ∧ ∃ n os, w' = grow (putRow (Value.int .i64) (Sort.ahead w n) blk off (zs.mergeSort fun x y => decide (x ≤ y)).toArray) os := AnyM.slices_Sort_int Tryz.laysSlM5_f80 blk off cap zs w hH hblk hsz
end Go.Proofs

/-
  Contract of the program: the least character of a class.
-/
namespace Go.Proofs.YtepommmmmfaihaaGreatDoor
open Go.RowKit Go.Joins
set_option linter.unusedVariables false
set_option linter.unusedSimpArgs false
/-- A row of numbers of one's own. -/
def IR (B : Nat) (w : World) (ad : Option Addr) (c : Nat) (L : List Int) : Prop := w.ownsRow B 2 1 (.slice ad L.length c) L.length (L.map (Value.int .i64))
/-- A row in order. -/
def srG (L : List Int) : List Int := L.mergeSort fun x y => decide (x ≤ y)
theorem srG_len (L : List Int) : (srG L).length = L.length := List.length_mergeSort ..
theorem srG_mem {L : List Int} {x : Int} : x ∈ srG L ↔ x ∈ L := (List.mergeSort_perm L _).mem_iff
theorem srG_ord (L : List Int) : (srG L).Pairwise (fun a b => a ≤ b) := by
  have h := List.pairwise_mergeSort (le := fun (x y : Int) => decide (x ≤ y)) (fun a b c h1 h2 => by simp at h1 h2 ⊢; omega) (fun a b => by simp; omega) L
  exact h.imp (fun h => by simpa using h)
theorem i_sortG (B : Nat) (ad : Option Addr) (c : Nat) (L : List Int) (w : World) (h : IR B w ad c L) (h0 : 0 < L.length) (hl : L.length ≤ 1000) :
    Calls Tryz.prog 80 #[.slice ad L.length c] w fun e w' => e = .returned (.tuple #[]) ∧ IR B w' ad c (srG L) ∧ ∀ w0, Below B w0 w → Below B w0 w' := by
  rcases h.2 with ⟨hv, h1⟩ | ⟨g, cap, cur, hv, hB, hg, hc, hm, hz, ht⟩
  · omega
  · simp only [Value.slice.injEq] at hv
    obtain ⟨rfl, -, rfl⟩ := hv
    have hgl : g < w.heap.size := (Array.getElem?_eq_some_iff.1 hg).1
    have hsl : (srG L).length = L.length := srG_len L
    refine (Tryz.slices_Sort_int g 0 c L w (holds_of_blockI hg (by rw [Nat.mul_one] at ht; exact ht)) hgl (by omega)).mono ?_
    rintro e w' ⟨rfl, n, os, rfl⟩
    have ho := ownsRow_sortedI (n := n) (os := os) (ss := L) (ts := srG L) hsl hB hg hc hm hz
    refine ⟨rfl, ?_, fun w0 hb => ?_⟩
    · unfold IR
      rw [hsl]
      exact ho
    · exact hb.grown (grownBy_sortedI (srG L).toArray) (by omega) (fun k hk => by cases hk; exact hB)
/-- The candidates, in the program's way. -/
def cdI (L H : Nat → Int) : Nat → List Int
  | 0 => [0, 57344]
  | k + 1 => cdI L H k ++ [L k, H k + 1]
theorem cdI_len (L H : Nat → Int) : ∀ k, (cdI L H k).length = 2 * k + 2
  | 0 => rfl
  | k + 1 => by rw [cdI, List.length_append, cdI_len L H k]; simp; omega
theorem cdI_has {L H : Nat → Int} : ∀ {n : Nat} {y : Int}, CandS n L H y → y ∈ cdI L H n := by
  intro n y h
  have h0 : ∀ k, (0 : Int) ∈ cdI L H k ∧ (57344 : Int) ∈ cdI L H k := by
    intro k
    induction k with
    | zero => simp [cdI]
    | succ k ih => rw [cdI]; exact ⟨List.mem_append_left _ ih.1, List.mem_append_left _ ih.2⟩
  have h1 : ∀ k i, i < k → L i ∈ cdI L H k ∧ H i + 1 ∈ cdI L H k := by
    intro k
    induction k with
    | zero => intro i hi; omega
    | succ k ih =>
      intro i hi
      rw [cdI]
      by_cases e : i = k
      · subst e; exact ⟨List.mem_append_right _ (by simp), List.mem_append_right _ (by simp)⟩
      · exact ⟨List.mem_append_left _ (ih i (by omega)).1, List.mem_append_left _ (ih i (by omega)).2⟩
  rcases h with rfl | ⟨i, hi, rfl | rfl⟩
  · exact (h0 n).1
  · exact (h1 n i hi).1
  · unfold fixC
    split
    · exact (h0 n).2
    · exact (h1 n i hi).2
/-- The first of a row in order that the class has is its least one. -/
theorem le_first {nt : Bool} {n : Nat} {L H : Nat → Int} (hok : RgOk n L H) {M : List Int} (hM : ∀ y, CandS n L H y → y ∈ M) (hs : M.Pairwise (fun a b => a ≤ b)) {j : Nat} (hj : j < M.length) (hin : inC nt n L H (M[j]?.getD 0) = true) (hno : ∀ i, i < j → inC nt n L H (M[i]?.getD 0) = false) : leC nt n L H = some (M[j]?.getD 0) := by
  refine le_cand hok hin fun y hy hyin => ?_
  obtain ⟨i, hi, e⟩ := List.mem_iff_getElem.1 (hM y hy)
  rcases Nat.lt_trichotomy i j with h | h | h
  · have := hno i h
    rw [List.getElem?_eq_getElem hi, Option.getD_some, e, hyin] at this
    cases this
  · subst h
    rw [List.getElem?_eq_getElem hi, Option.getD_some, e]
    exact Int.le_refl _
  · have := List.pairwise_iff_getElem.1 hs j i hj hi h
    rw [List.getElem?_eq_getElem hj, Option.getD_some, ← e]
    exact this
theorem le_nofirst {nt : Bool} {n : Nat} {L H : Nat → Int} (hok : RgOk n L H) {M : List Int} (hM : ∀ y, CandS n L H y → y ∈ M) (hno : ∀ i, i < M.length → inC nt n L H (M[i]?.getD 0) = false) : leC nt n L H = none :=
  le_nocand hok fun y hy => by
    obtain ⟨i, hi, e⟩ := List.mem_iff_getElem.1 (hM y hy)
    have := hno i hi
    rw [List.getElem?_eq_getElem hi, Option.getD_some, e] at this
    exact this
end Go.Proofs.YtepommmmmfaihaaGreatDoor

/-
  Plain laws on rows of the call's own, of no program: their shape, what stays of them, what one more cell makes of the world.
-/
namespace Go.Proofs.YtepommmmmfaihaaGreatDoor
open Go.RowKit
set_option linter.unusedVariables false
theorem gOwn_shape {w : World} {B : Nat} {e : TypeId} {z : Nat} {v : Value} {n : Nat} {xs : List Value} (h : w.ownsRow B e z v n xs) : ∃ ad cap, v = .slice ad n cap := by
  rcases h.2 with ⟨rfl, rfl⟩ | ⟨g, cap, cur, rfl, _⟩
  · exact ⟨_, _, rfl⟩
  · exact ⟨_, _, rfl⟩
theorem gOwn_after {w w' : World} {B e size n : Nat} {v : Value} {xs : List Value} (h : w.ownsRow B e size v n xs) (hb : Below w.heap.size w w') : w'.ownsRow B e size v n xs := by
  obtain ⟨hl, h⟩ := h
  refine ⟨hl, ?_⟩
  rcases h with h | ⟨g, cap, cur, hv, hg, hh, h1, h2, h3, h4⟩
  · exact .inl h
  · have hlt : g < w.heap.size := (Array.getElem?_eq_some_iff.1 hh).1
    exact .inr ⟨g, cap, cur, hv, hg, (hb.block g hlt).trans hh, h1, h2, h3, h4⟩
theorem gOne_new (w : World) (v : Value) (t : TypeId) (j : Nat) (u : Value) (hj : [v][j]? = some u) : (w.alloc (.cells #[v] t)).cell? ((⟨w.heap.size, 0, none⟩ : Addr).add j) = some u := by
  have h0 : j = 0 := by
    rcases Nat.eq_zero_or_pos j with h | h
    · exact h
    · rw [List.getElem?_eq_none (by simp; omega)] at hj; simp at hj
  subst h0
  simp at hj
  subst hj
  simp [Addr.add]
theorem gStr_list (s : ByteArray) : ∀ u ∈ [Value.string s], u.oneCell' = true := by
  intro u hu
  simp at hu
  subst hu
  rfl
theorem gBelow_one {w wr w2 : World} {o : Obj} {e : TypeId} {z : Nat} {ad : Option Addr} {n c : Nat} {xs : List Value} (hb : Below w.heap.size w wr) (hown : wr.ownsRow w.heap.size e z (.slice ad n c) n xs)
    (hg : (wr.alloc o).grownBy w2 (Value.slice ad n c).ownBlock) : Below w.heap.size w w2 := by
  have h2 : Below w.heap.size w (wr.alloc o) := hb.alloc hb.size o
  refine h2.grown hg h2.size fun j hj => ?_
  rcases hown.2 with ⟨hv, h0⟩ | ⟨g, cap, cur, hv, hB, rest⟩
  · rw [hv] at hj
    simp [Value.ownBlock] at hj
  · rw [hv] at hj
    simp [Value.ownBlock] at hj
    omega
/-- A block of the call's own, with these cells. -/
def CellsAt (w : World) (G : Nat) (cs : Array Value) : Prop := ∃ T, w.heap[G]? = some (.cells cs T (0, 0))
theorem cellsAt_new (w : World) (cs : Array Value) (T : TypeId) : CellsAt (w.alloc (.cells cs T)) w.heap.size cs := ⟨T, heap_alloc_new w _⟩
theorem cellsAt_lt {w : World} {G : Nat} {cs : Array Value} (h : CellsAt w G cs) : G < w.heap.size := by
  obtain ⟨T, h⟩ := h
  exact (Array.getElem?_eq_some_iff.1 h).1
theorem cellsAt_go {w w' : World} {G B : Nat} {cs : Array Value} (h : CellsAt w G cs) (hb : Below B w w') (hB : G < B) : CellsAt w' G cs := by
  obtain ⟨T, h⟩ := h
  exact ⟨T, (hb.block G hB).trans h⟩
theorem cellsAt_cell {w : World} {G : Nat} {cs : Array Value} (h : CellsAt w G cs) (i : Nat) : w.cell? ⟨G, i, none⟩ = cs[i]? := by
  obtain ⟨T, h⟩ := h
  rw [cell_of_row w G i _ T (0, 0) h]
theorem cellsAt_frozen {w : World} {G : Nat} {cs : Array Value} (h : CellsAt w G cs) (i : Nat) : w.frozen? ⟨G, i, none⟩ = false := by
  obtain ⟨T, h⟩ := h
  simp [World.frozen?, h]
theorem cellsAt_set {w : World} {G i : Nat} {cs : Array Value} (h : CellsAt w G cs) (v : Value) : CellsAt (w.setCell ⟨G, i, none⟩ v) G (cs.setIfInBounds i v) := by
  obtain ⟨T, h⟩ := h
  have hl := (Array.getElem?_eq_some_iff.1 h).1
  refine ⟨T, ?_⟩
  simp [World.setCell, Array.getElem?_modify, h]
theorem cellsAt_far {w : World} {G : Nat} {p : Addr} {cs : Array Value} (h : CellsAt w G cs) (v : Value) (hne : p.block ≠ G) : CellsAt (w.setCell p v) G cs := by
  obtain ⟨T, h⟩ := h
  refine ⟨T, ?_⟩
  simp [World.setCell, Array.getElem?_modify, hne, h]
theorem gOwn_set {w : World} {B : Nat} {e : TypeId} {z : Nat} {v : Value} {n : Nat} {xs : List Value} (h : w.ownsRow B e z v n xs) (p : Addr) (u : Value) (hne : v.ownBlock ≠ some p.block) : (w.setCell p u).ownsRow B e z v n xs := by
  obtain ⟨hl, h⟩ := h
  refine ⟨hl, ?_⟩
  rcases h with h | ⟨g, cap, cur, hv, hg, hh, h1, h2, h3, h4⟩
  · exact .inl h
  · have hne2 : p.block ≠ g := fun e => hne (by rw [hv, e]; rfl)
    exact .inr ⟨g, cap, cur, hv, hg, by rw [← hh]; simp [World.setCell, Array.getElem?_modify, hne2], h1, h2, h3, h4⟩
theorem gBox_below {w w2 : World} {o : Obj} (k : Below (w.alloc o).heap.size (w.alloc o) w2) : Below w.heap.size w w2 :=
  ((Below.refl _ _).alloc (Nat.le_refl _) _).trans (k.mono (by simp))
theorem gOwn_lower {w : World} {B B' : Nat} {e : TypeId} {z : Nat} {v : Value} {n : Nat} {xs : List Value} (h : w.ownsRow B e z v n xs) (hB : B' ≤ B) : w.ownsRow B' e z v n xs := by
  obtain ⟨hl, h⟩ := h
  refine ⟨hl, ?_⟩
  rcases h with h | ⟨g, cap, cur, hv, hg, hh, h1, h2, h3, h4⟩
  · exact .inl h
  · exact .inr ⟨g, cap, cur, hv, Nat.le_trans hB hg, hh, h1, h2, h3, h4⟩
theorem gTwo_new (w : World) (x y : Value) (T : TypeId) (j : Nat) (u : Value) (hj : [x, y][j]? = some u) : (w.alloc (.cells #[x, y] T)).cell? ((⟨w.heap.size, 0, none⟩ : Addr).add j) = some u := by
  match j, hj with
  | 0, hj => simp at hj; subst hj; simp [Addr.add]
  | 1, hj => simp at hj; subst hj; simp [Addr.add]
theorem gStr_two (x y : ByteArray) : ∀ u ∈ [Value.string x, Value.string y], u.oneCell' = true := by
  intro u hu
  simp at hu
  rcases hu with rfl | rfl <;> rfl
end Go.Proofs.YtepommmmmfaihaaGreatDoor
