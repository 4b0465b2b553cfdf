/-
  Contract: the program's AddDec.
-/
import Derived.Test.YtdglamiifcagoacDoorAddB
import Derived.Test.YtdglamiifcagoacDoorSame
import Derived.Test.YtdglamiifcagoacDoorHeld
import Derived.Test.YtdglamiifcagoacDoorDecOf
import Derived.Test.YtdglamiifcagoacDoorAddRows
import Derived.Test.YtdglamiifcagoacDoorDigText
import Derived.Test.YtdglamiifcagoacDoorCmpI
import Derived.Deep.RegionHeld3
import Derived.Deep.DeepCutAuto
import Derived.Deep.MidRow
namespace Go.Proofs.YtdglamiifcagoacDoor
open Go.RowKit
set_option linter.unusedSimpArgs false
set_option linter.unusedVariables false
theorem row_mag {n : Bool} {s : ByteArray} {c : Int} (h : decB n s c = true) : rval (rowF 121 s (60 - c).toNat s.size) = (mag s c : Int) := by
  obtain ⟨hs, hc0, hc1⟩ := decB_bounds h
  rw [rowF_val s _ 121 (by omega) (decB_digits h), mag]
  push_cast
  rw [Int.mul_comm]
theorem there_new (W : World) : (W.alloc (.cells Zs 41)).there W.heap.size 0 121 := fun j hj => by
  have h := heap_alloc_new W (.cells Zs 41)
  have hz : Zs.size = 121 := by rw [show Zs = rowV (List.replicate 121 0) from rfl, rowV_size]; simp
  refine ⟨?_, ?_⟩
  · rw [cell_of_row _ W.heap.size (0 + j) _ 41 (0, 0) h]
    simp [hz]; omega
  · exact frozen_of_row _ W.heap.size (0 + j) _ 41 h
theorem there_lt {W : World} {b : Nat} (h : W.there b 0 121) : b < W.heap.size := by
  obtain ⟨v, hv⟩ := Option.isSome_iff_exists.1 (h 0 (by omega)).1
  exact World.block_lt_of_cell? W _ hv
theorem there_go {W wn : World} {b : Nat} (h : W.there b 0 121) (k : Below W.heap.size W wn) : wn.there b 0 121 := fun j hj => by
  have hb := there_lt h
  refine ⟨?_, ?_⟩
  · rw [k.cell (p := ⟨b, 0 + j, none⟩) hb]; exact (h j hj).1
  · rw [k.frozen (p := ⟨b, 0 + j, none⟩) hb]; exact (h j hj).2
theorem there_alloc (W : World) (b : Nat) (o : Obj) (h : W.there b 0 121) : (W.alloc o).there b 0 121 := there_go h ((Below.refl _ _).alloc (Nat.le_refl _) _)
theorem there_set (W : World) (b c : Nat) (vs : List Value) (h : W.there b 0 121) : (W.setCells c 0 vs).there b 0 121 := World.there_setCells h c 0 vs
theorem below_setCells (W : World) (c : Nat) (vs : List Value) : Below c W (W.setCells c 0 vs) := by
  suffices ∀ (vs : List Value) (o : Nat) (W : World), Below c W (W.setCells c o vs) from this vs 0 W
  intro vs
  induction vs with
  | nil => intro o W; exact Below.refl _ _
  | cons v r ih => intro o W; rw [World.setCells]; exact ((Below.refl c W).setCell (Nat.le_refl _) _).trans (ih _ _)
theorem addin_sc {w w1 : World} {n m : Bool} {s t : ByteArray} {c d : Int} {b : Nat} (h : AddIn w w1 n s c m t d) (hb : w.heap.size + 1 + 1 < b) (vs : List Value) : AddIn w (w1.setCells b 0 vs) n s c m t d := by
  have k := below_setCells w1 b vs
  have q : ∀ {G : Nat} {n : Bool} {s : ByteArray} {c : Int}, HeldN w1 G n s c → G < b → HeldN (w1.setCells b 0 vs) G n s c := fun hh hg => by
    obtain ⟨T, hh⟩ := hh
    exact ⟨T, (k.block _ hg).trans hh⟩
  exact ⟨q h.1 (by omega), q h.2.1 (by omega), q h.2.2.1 (by omega), h.2.2.2.trans (k.mono (by omega))⟩
theorem range_go {W wn : World} {b : Nat} {L : List Value} (h : W.rangeAt b 0 L) (k : Below W.heap.size W wn) : wn.rangeAt b 0 L := fun j v hv =>
  (k.cell (p := ⟨b, 0 + j, none⟩) (World.block_lt_of_cell? W _ (h j v hv))).trans (h j v hv)
theorem range_alloc {W : World} {b : Nat} {L : List Value} (h : W.rangeAt b 0 L) (o : Obj) : (W.alloc o).rangeAt b 0 L := range_go h ((Below.refl _ _).alloc (Nat.le_refl _) _)
theorem mag_lt {n : Bool} {s : ByteArray} {c : Int} (h : decB n s c = true) : mag s c < 10 ^ 120 := by
  obtain ⟨hs, hc0, hc1⟩ := decB_bounds h
  have v := valL_lt _ (dgL_of s (decB_digits h))
  have v6 : valL s.data.toList < 10 ^ 60 := Nat.lt_of_lt_of_le v (Nat.pow_le_pow_right (by omega) (by simpa using hs))
  unfold mag
  have a := Nat.mul_lt_mul_of_pos_right v6 (pow_pos10 (60 - c).toNat)
  have b : 10 ^ 60 * 10 ^ (60 - c).toNat ≤ 10 ^ 120 := by rw [← Nat.pow_add]; exact Nat.pow_le_pow_right (by omega) (by omega)
  exact Nat.lt_of_lt_of_le a b
theorem two_lt {a b : Nat} (ha : a < 10 ^ 120) (hb : b < 10 ^ 120) : (a : Int) + (b : Int) < 10 ^ 121 := by
  have e : (10 : Nat) ^ 121 = 10 * 10 ^ 120 := by rw [Nat.pow_succ, Nat.mul_comm]
  have q : a + b < 10 ^ 121 := by rw [e]; omega
  exact_mod_cast q
theorem row_cells {W : World} {b : Nat} {zs : List Int} {T : TypeId} (h : W.heap[b]? = some (.cells (rowV zs) T (0, 0))) (hl : zs.length = 121) : ∀ i, i < 121 → W.cell? ⟨b, i, none⟩ = some (.int .u8 (zs[i]?.getD 0)) := fun i hi => by
  rw [cell_of_row _ _ i _ _ (0, 0) h, rowV_get zs i (by rw [hl]; exact hi)]
theorem row_there {W : World} {b : Nat} {cs : Array Value} {T : TypeId} (h : W.heap[b]? = some (.cells cs T (0, 0))) : b < W.heap.size := (Array.getElem?_eq_some_iff.1 h).1
theorem range_lt {W : World} {b : Nat} {L : List Value} (h : W.rangeAt b 0 L) (hl : L.length = 121) : b < W.heap.size := by
  have e : L[0]? = some (L[0]'(by omega)) := List.getElem?_eq_getElem (by omega)
  exact World.block_lt_of_cell? W _ (h 0 _ e)
theorem there_row {W : World} {b : Nat} (h : W.heap[b]? = some (.cells Zs 41 (0, 0))) : W.there b 0 121 := fun j hj => by
  have hz : Zs.size = 121 := by rw [show Zs = rowV (List.replicate 121 0) from rfl, rowV_size]; simp
  refine ⟨?_, ?_⟩
  · rw [cell_of_row _ b (0 + j) _ 41 (0, 0) h]
    simp [hz]; omega
  · exact frozen_of_row _ b (0 + j) _ 41 h
theorem range_cells {W : World} {b : Nat} {L : List Value} {zs : List Int} (h : W.rangeAt b 0 L) (e : rowV zs = L.toArray) (hl : zs.length = 121) : ∀ i, i < 121 → W.cell? ⟨b, i, none⟩ = some (.int .u8 (zs[i]?.getD 0)) := fun i hi => by
  have q : L[i]? = some (.int .u8 (zs[i]?.getD 0)) := by
    have r := rowV_get zs i (by rw [hl]; exact hi)
    rw [e] at r; simpa using r
  have := h i _ q
  simpa using this
def LR (w w1 : World) (b9 bA bB : Nat) (LA LB : List Value) (n : Bool) (s : ByteArray) (c : Int) (m : Bool) (t : ByteArray) (d : Int) : Prop :=
  AddIn w w1 n s c m t d ∧ w1.there b9 0 121 ∧ w1.rangeAt bA 0 LA ∧ w1.rangeAt bB 0 LB
theorem lr_all {w w1 : World} {b9 bA bB : Nat} {LA LB : List Value} {n m : Bool} {s t : ByteArray} {c d : Int} (h : LR w w1 b9 bA bB LA LB n s c m t d) : LR w w1 b9 bA bB LA LB n s c m t d ∧ w1.cell? ⟨w.heap.size + 1, 0, none⟩ = some (.bool m) ∧ w1.rangeAt bA 0 LA ∧ w1.rangeAt bB 0 LB ∧ w1.there b9 0 121 :=
  ⟨h, (heldN_cells h.1.2.1).1.1, h.2.2.1, h.2.2.2, h.2.1⟩
theorem lr_go {w w1 w2 : World} {b9 bA bB : Nat} {LA LB : List Value} {n m : Bool} {s t : ByteArray} {c d : Int} (h : LR w w1 b9 bA bB LA LB n s c m t d) (k : Below w1.heap.size w1 w2) : LR w w2 b9 bA bB LA LB n s c m t d :=
  ⟨addin_go h.1 k, there_go h.2.1 k, range_go h.2.2.1 k, range_go h.2.2.2 k⟩
theorem lr_drew {w w1 : World} {b9 bA bB : Nat} {LA LB : List Value} {n m : Bool} {s t : ByteArray} {c d : Int} (h : LR w w1 b9 bA bB LA LB n s c m t d) : LR w w1.drew b9 bA bB LA LB n s c m t d := lr_go h ⟨rfl, rfl, rfl, Nat.le_refl _, fun _ _ => rfl⟩
theorem lr_sc {w w1 : World} {b9 bA bB : Nat} {LA LB : List Value} {n m : Bool} {s t : ByteArray} {c d : Int} (h : LR w w1 b9 bA bB LA LB n s c m t d) (hb : w.heap.size + 1 + 1 < b9) (ha : bA < b9) (hb' : bB < b9) (vs : List Value) : LR w (w1.setCells b9 0 vs) b9 bA bB LA LB n s c m t d :=
  ⟨addin_sc h.1 hb vs, there_set _ _ _ _ h.2.1, World.rangeAt_setCells_apart h.2.2.1 _ _ _ (.inl (by omega)), World.rangeAt_setCells_apart h.2.2.2 _ _ _ (.inl (by omega))⟩
theorem below_row (W : World) (b : Nat) (cs : Array Value) : Below b W (W.setRow b cs) := below_setRow (Below.refl b W) (Nat.le_refl _) cs
theorem addin_row {w w1 : World} {n m : Bool} {s t : ByteArray} {c d : Int} {b : Nat} (h : AddIn w w1 n s c m t d) (hb : w.heap.size + 1 + 1 < b) (cs : Array Value) : AddIn w (w1.setRow b cs) n s c m t d := by
  have k := below_row w1 b cs
  have q : ∀ {G : Nat} {n : Bool} {s : ByteArray} {c : Int}, HeldN w1 G n s c → G < b → HeldN (w1.setRow b cs) G n s c := fun hh hg => by
    obtain ⟨T, hh⟩ := hh
    exact ⟨T, (k.block _ hg).trans hh⟩
  exact ⟨q h.1 (by omega), q h.2.1 (by omega), q h.2.2.1 (by omega), h.2.2.2.trans (k.mono (by omega))⟩
theorem ai_all {w w1 : World} {n m : Bool} {s t : ByteArray} {c d : Int} (h : AddIn w w1 n s c m t d) : AddIn w w1 n s c m t d ∧ w1.cell? ⟨w.heap.size, 0, none⟩ = some (.bool n) ∧ w1.cell? ⟨w.heap.size, 1, none⟩ = some (.string s) ∧ w1.cell? ⟨w.heap.size, 2, none⟩ = some (.int .i64 c) ∧ w1.cell? ⟨w.heap.size + 1, 0, none⟩ = some (.bool m) ∧ w1.cell? ⟨w.heap.size + 1, 1, none⟩ = some (.string t) ∧ w1.cell? ⟨w.heap.size + 1, 2, none⟩ = some (.int .i64 d) :=
  ⟨h, (heldN_cells h.1).1.1, (heldN_cells h.1).1.2.1, (heldN_cells h.1).1.2.2, (heldN_cells h.2.1).1.1, (heldN_cells h.2.1).1.2.1, (heldN_cells h.2.1).1.2.2⟩
theorem ai_drew {w w1 : World} {n m : Bool} {s t : ByteArray} {c d : Int} (h : AddIn w w1 n s c m t d) : AddIn w w1.drew n s c m t d := addin_go h ⟨rfl, rfl, rfl, Nat.le_refl _, fun _ _ => rfl⟩
theorem ai_alloc {w w1 : World} {n m : Bool} {s t : ByteArray} {c d : Int} (h : AddIn w w1 n s c m t d) (o : Obj) : AddIn w (w1.alloc o) n s c m t d := addin_go h ((Below.refl _ _).alloc (Nat.le_refl _) _)
set_option maxRecDepth 100000 in
set_option maxHeartbeats 8000000 in
theorem i_add (n m : Bool) (s t : ByteArray) (c d : Int) (w : World) (hs : s.size ≤ maxLen) (ht : t.size ≤ maxLen) :
    Calls Tryd.prog 9 #[.agg #[.bool n, .string s, .int .i64 c], .agg #[.bool m, .string t, .int .i64 d]] w fun e w' =>
      e = .returned (resV (addB n s c m t d)) ∧ Below w.heap.size w w' := by
  cases h1 : decB n s c
  · have HV := hide (addB_no1 m t d h1)
    go_enter Tryd.func9, Tryd.ntmps9
    go_wp2_with fail
    refine (i_decok n s c _ hs).mono ?_
    rintro e w1 ⟨rfl, hb1⟩
    have HI := hide (addin_go (addin_new w n s c m t d _) hb1)
    clear hb1
    obtain ⟨⟨a1, a2, a3⟩, _, _, _⟩ := heldN_cells HI.out.1
    obtain ⟨⟨b1, b2, b3⟩, _, _, _⟩ := heldN_cells HI.out.2.1
    obtain ⟨⟨r1, r2, r3⟩, g1, g2, g3⟩ := heldN_cells HI.out.2.2.1
    have HZ := hide (heldN_three HI.out.2.2.1 (.bool false) (.string ⟨#[]⟩) (.int .i64 0))
    go_wp2
    obtain ⟨z0, z1, z2⟩ := HZ.out
    exact bodyPost_ret (v := .tuple #[.agg #[.bool false, .string ⟨#[]⟩, .int .i64 0], .bool false]) (by simp [results, Tryd.results9, go_sem, z0, z1, z2]) rfl ⟨by rw [HV.out]; rfl, below_set3 HI.out.2.2.2 (by omega) _ _ _⟩
  · cases h2 : decB m t d
    · have HV := hide (addB_no2 n s c h2)
      go_enter Tryd.func9, Tryd.ntmps9
      go_wp2_with fail
      refine (i_decok n s c _ hs).mono ?_
      rintro e w1 ⟨rfl, hb1⟩
      have HI := hide (addin_go (addin_new w n s c m t d _) hb1)
      clear hb1
      obtain ⟨⟨a1, a2, a3⟩, _, _, _⟩ := heldN_cells HI.out.1
      obtain ⟨⟨b1, b2, b3⟩, _, _, _⟩ := heldN_cells HI.out.2.1
      obtain ⟨⟨r1, r2, r3⟩, g1, g2, g3⟩ := heldN_cells HI.out.2.2.1
      go_wp2_with fail
      refine (i_decok m t d _ ht).mono ?_
      rintro e w2 ⟨rfl, hb2⟩
      replace HI := hide (addin_go HI.out hb2)
      clear hb2 a1 a2 a3 b1 b2 b3 r1 r2 r3 g1 g2 g3
      obtain ⟨⟨a1, a2, a3⟩, _, _, _⟩ := heldN_cells HI.out.1
      obtain ⟨⟨b1, b2, b3⟩, _, _, _⟩ := heldN_cells HI.out.2.1
      obtain ⟨⟨r1, r2, r3⟩, g1, g2, g3⟩ := heldN_cells HI.out.2.2.1
      have HZ := hide (heldN_three HI.out.2.2.1 (.bool false) (.string ⟨#[]⟩) (.int .i64 0))
      go_wp2
      obtain ⟨z0, z1, z2⟩ := HZ.out
      exact bodyPost_ret (v := .tuple #[.agg #[.bool false, .string ⟨#[]⟩, .int .i64 0], .bool false]) (by simp [results, Tryd.results9, go_sem, z0, z1, z2]) rfl ⟨by rw [HV.out]; rfl, below_set3 HI.out.2.2.2 (by omega) _ _ _⟩
    · have HV := hide (addB_yes h1 h2)
      obtain ⟨hs6, hc0, hc1⟩ := decB_bounds h1
      obtain ⟨ht6, hd0, hd1⟩ := decB_bounds h2
      have H1 := hide h1
      have H2 := hide h2
      go_enter Tryd.func9, Tryd.ntmps9
      go_wp2_with fail
      refine (i_decok n s c _ hs).mono ?_
      rintro e w1 ⟨rfl, hb1⟩
      have HI := hide (addin_go (addin_new w n s c m t d _) hb1)
      clear hb1
      obtain ⟨⟨a1, a2, a3⟩, _, _, _⟩ := heldN_cells HI.out.1
      obtain ⟨⟨b1, b2, b3⟩, _, _, _⟩ := heldN_cells HI.out.2.1
      obtain ⟨⟨r1, r2, r3⟩, g1, g2, g3⟩ := heldN_cells HI.out.2.2.1
      go_wp2_with fail
      refine (i_decok m t d _ ht).mono ?_
      rintro e w2 ⟨rfl, hb2⟩
      replace HI := hide (addin_go HI.out hb2)
      clear hb2 a1 a2 a3 b1 b2 b3 r1 r2 r3 g1 g2 g3
      obtain ⟨⟨a1, a2, a3⟩, _, _, _⟩ := heldN_cells HI.out.1
      obtain ⟨⟨b1, b2, b3⟩, _, _, _⟩ := heldN_cells HI.out.2.1
      obtain ⟨⟨r1, r2, r3⟩, g1, g2, g3⟩ := heldN_cells HI.out.2.2.1
      have hz := z_zero
      obtain ⟨LA, hLA⟩ : ∃ L : List Value, rowV (rowF 121 s (60 - c).toNat s.size) = L.toArray := ⟨(rowV (rowF 121 s (60 - c).toNat s.size)).toList, by simp⟩
      obtain ⟨LB, hLB⟩ : ∃ L : List Value, rowV (rowF 121 t (60 - d).toNat t.size) = L.toArray := ⟨(rowV (rowF 121 t (60 - d).toNat t.size)).toList, by simp⟩
      have EXA := hide hLA
      have EXB := hide hLB
      have lla : LA.length = 121 := by have := congrArg Array.size hLA; rw [rowV_size, rowF_len] at this; simpa using this.symm
      have llb : LB.length = 121 := by have := congrArg Array.size hLB; rw [rowV_size, rowF_len] at this; simpa using this.symm
      have hia : (Tryd.prog.info? 41).map (·.size) = some LA.length := by rw [lla]; exact (zero_of_info z_info).2
      have hib : (Tryd.prog.info? 41).map (·.size) = some LB.length := by rw [llb]; exact (zero_of_info z_info).2
      have hoa : ∀ v ∈ LA, v.oneCell' = true := by
        have e : (rowV (rowF 121 s (60 - c).toNat s.size)).all (·.oneCell') = true := by simp [rowV, Value.oneCell']
        rw [hLA] at e; simpa using e
      have hob : ∀ v ∈ LB, v.oneCell' = true := by
        have e : (rowV (rowF 121 t (60 - d).toNat t.size)).all (·.oneCell') = true := by simp [rowV, Value.oneCell']
        rw [hLB] at e; simpa using e
      have hsz2 : w.heap.size + 1 + 1 < w2.heap.size := heldN_lt HI.out.2.2.1
      have hS0 := ai_all (ai_drew HI.out)
      have hT1 := there_new
      have hT1d : ∀ W : World, (W.drew.alloc (.cells Zs 41)).there W.heap.size 0 121 := fun W => there_new W.drew
      have hT2 := there_alloc
      have hT3 := there_set
      have hT4 : ∀ W : World, ((W.alloc (.cells Zs 41)).alloc (.cells Zs 41)).there (W.heap.size + 1) 0 121 := fun W => by
        have q := there_new (W.alloc (.cells Zs 41)); simpa using q
      have hT4d : ∀ W : World, ((W.drew.alloc (.cells Zs 41)).alloc (.cells Zs 41)).there (W.heap.size + 1) 0 121 := fun W => hT4 W.drew
      clear hLA hLB r1 r2 r3 g1 g2 g3 a1 a2 a3 b1 b2 b3
      go_wp2_with fail
      go_cut [6, 7, 8] (fun v6 v7 v8 wx => ∃ bA bB, v6 = .bool n ∧ v7 = .pointer (some ⟨bA, 0, none⟩) ∧ v8 = .pointer (some ⟨bB, 0, none⟩) ∧ wx.rangeAt bA 0 LA ∧ wx.rangeAt bB 0 LB ∧ AddIn w wx n s c m t d)
      case first =>
        go_region_held3 (fun w' => AddIn w w' n s c m t d ∧ w'.cell? ⟨w.heap.size, 0, none⟩ = some (.bool n) ∧ w'.cell? ⟨w.heap.size, 1, none⟩ = some (.string s) ∧ w'.cell? ⟨w.heap.size, 2, none⟩ = some (.int .i64 c) ∧ w'.cell? ⟨w.heap.size + 1, 0, none⟩ = some (.bool m) ∧ w'.cell? ⟨w.heap.size + 1, 1, none⟩ = some (.string t) ∧ w'.cell? ⟨w.heap.size + 1, 2, none⟩ = some (.int .i64 d)) (first | assumption | exact ai_all (addin_sc (And.left (by assumption)) (by first | assumption | omega) _) | exact ai_all (ai_alloc (And.left (by assumption)) _) | exact ai_all (addin_go (And.left (by assumption)) hbn)) (first | (go_at_call 19; refine (i_rowOf _ _ _ _ (by first | exact H1.out | exact H2.out)).mono ?_; rintro e wn ⟨rfl, hbn⟩; (first | rw [EXA.out] | rw [EXB.out]); (first | (have ua := there_go ta hbn) | (have ua := there_go (hT2 _ _ _ ta) hbn) | skip); (first | (have ub := there_go tb hbn) | skip); (first | (have ta := there_go (hT4 _) hbn; have tb := there_go (hT2 _ _ _ (hT1 _)) hbn) | (have ta := there_go (hT4d _) hbn; have tb := there_go (hT2 _ _ _ (hT1d _)) hbn) | (have ta := there_go (hT1 _) hbn) | (have ta := there_go (hT1d _) hbn) | skip); (first | (have la := there_lt ta) | skip); (first | (have lu := there_lt ua) | skip); (first | (have lb := there_lt tb) | skip); have HTW := hide (addin_go (And.left (by assumption)) hbn); have zb := heldN_lt HTW.out.2.2.1))
        all_goals
          go_wp2_with fail
          go_meet
          exact ⟨_, _, rfl, rfl, rfl, World.rangeAt_setCells_apart (World.rangeAt_setCells_same _ _ _ _ (by rw [lla]; first | assumption | (simp only [*]))) _ _ _ (.inl (by omega)), World.rangeAt_setCells_same _ _ _ _ (by rw [llb]; first | assumption | (simp only [*])), And.left (by assumption)⟩
      case rest =>
        obtain ⟨bA, bB, rfl, rfl, rfl, hRA, hRB, hAI⟩ := hcut
        clear hT1 hT1d hT2 hT3 hT4 hT4d hS0
        have HAI := hide hAI
        have HW9 := hide (ai_alloc hAI (.cells Zs 41))
        have HRA := hide (range_alloc hRA (.cells Zs 41))
        have HRB := hide (range_alloc hRB (.cells Zs 41))
        obtain ⟨_, k1, k2, k3, l1, l2, l3⟩ := ai_all hAI
        have hlt2 : w.heap.size + 1 + 1 < wc.heap.size := heldN_lt hAI.2.2.1
        have hbA : bA < wc.heap.size := range_lt hRA lla
        have hbB : bB < wc.heap.size := range_lt hRB llb
        have hlt1 : w.heap.size + 1 < wc.heap.size := by omega
        have hlt0 : w.heap.size < wc.heap.size := by omega
        have HH9 := hide (heap_alloc_new wc (.cells Zs 41))
        clear hAI hRA hRB
        have hu := Tryd.underlying41
        have MA := hide (row_mag H1.out)
        have MB := hide (row_mag H2.out)
        have OA := hide (rowF_ok 121 s (60 - c).toNat (decB_digits H1.out))
        have OB := hide (rowF_ok 121 t (60 - d).toNat (decB_digits H2.out))
        have hz9 : Zs.size = 121 := by rw [show Zs = rowV (List.replicate 121 0) from rfl, rowV_size]; simp
        by_cases hnm : n = m
        · subst hnm
          have hnn : (n == n) = true := by simp
          go_wp2_with (first | (refine wpList_load_mid rfl 41 _ rfl bA 0 rfl LA _ HRA.out hu rfl hia ?_) | (refine wpList_load_mid rfl 41 _ rfl bB 0 rfl LB _ HRB.out hu rfl hib ?_))
          rw [← EXA.out, ← EXB.out]
          refine (i_addRows _ _ _ (rowF_len _ _ _ _) (rowF_len _ _ _ _) OA.out OB.out (by rw [MA.out, MB.out]; exact two_lt (mag_lt H1.out) (mag_lt H2.out))).mono ?_
          rintro e w4 ⟨zs, hzl, hzo, hzv, rfl, hb4⟩
          have HI4 := hide (addin_go HW9.out hb4)
          have HH4 := hide ((hb4.block wc.heap.size (row_there HH9.out)).trans HH9.out)
          clear hb4
          have HZL := hide hzl
          have HZO := hide hzo
          obtain ⟨hv0, hdg0⟩ := txt_val zs hzo
          have hu9 : (strOfNums (zs.reverse.map fun x => 48 + x)).size = 121 := by rw [strOfNums_size]; simp [hzl]
          obtain ⟨U, hU⟩ : ∃ U, strOfNums (zs.reverse.map fun x => 48 + x) = U := ⟨_, rfl⟩
          rw [hU] at hv0 hdg0 hu9
          have EU := hide hU
          have HDG := hide hdg0
          have HVV : Hid (decRes n (valL U.data.toList) (60 : Int).toNat = res60 (iv n s c + iv n t d)) := hide (fin_same n (a := mag s c) (b := mag t d) (g := 60) (by simp) (by simp) (by have q := hv0.trans hzv; rw [MA.out, MB.out] at q; exact_mod_cast q) (by omega) (by omega))
          obtain ⟨RR, hRR⟩ : ∃ X, res60 (iv n s c + iv n t d) = X := ⟨_, rfl⟩
          have ERR := hide hRR
          obtain ⟨n9, s9, c9, o9⟩ := RR
          have hres : Hid (resV (n9, s9, c9, o9) = .tuple #[.agg #[.bool n9, .string s9, .int .i64 c9], .bool o9]) := hide rfl
          clear hU hv0 hdg0 hRR hzo hzv
          obtain ⟨R, hR⟩ : ∃ R, rowV zs = R := ⟨_, rfl⟩
          rw [hR]
          have hsz : (Tryd.prog.info? 41).map (·.size) = some R.size := by rw [← hR, rowV_size, hzl]; exact (zero_of_info z_info).2
          have hzz : Zs.size = R.size := by rw [← hR, rowV_size, hzl, hz9]
          have hall : R.all (·.oneCell') = true := by rw [← hR]; simp [rowV, Value.oneCell']
          have HR := hide hR
          have HH5 : Hid ((w4.setRow wc.heap.size R).heap[wc.heap.size]? = some (.cells (rowV zs) 41 (0, 0))) := hide (by rw [hR]; exact setRow_heap w4 _ _ R _ _ HH4.out)
          have HI5 := hide (addin_row HI4.out hlt2 R)
          clear hR hzl
          go_wp2_with (refine wpList_store_row rfl 41 _ _ rfl wc.heap.size _ rfl rfl 41 _ HH4.out hsz hzz hall ?_)
          refine (i_digText wc.heap.size 121 _ zs _ HZL.out (by omega) (by omega) (row_there HH5.out) HZO.out (row_cells HH5.out HZL.out)).mono ?_
          rintro e w6 ⟨rfl, hb6⟩
          have HI6 := hide (addin_go HI5.out hb6)
          clear hb6
          rw [EU.out]
          go_wp2_with fail
          refine (i_decOf n U 60 _ (by omega) HDG.out (by omega) (by omega)).mono ?_
          rintro e w7 ⟨rfl, hb7⟩
          have HI7 := hide (addin_go HI6.out hb7)
          clear hb7
          rw [HVV.out, ERR.out, hres.out]
          obtain ⟨⟨r1, r2, r3⟩, g1, g2, g3⟩ := heldN_cells HI7.out.2.2.1
          have HZ := hide (heldN_three HI7.out.2.2.1 (.bool n9) (.string s9) (.int .i64 c9))
          go_wp2
          obtain ⟨z0, z1, z2⟩ := HZ.out
          exact bodyPost_ret (v := .tuple #[.agg #[.bool n9, .string s9, .int .i64 c9], .bool o9]) (by simp [results, Tryd.results9, go_sem, z0, z1, z2]) rfl ⟨by rw [HV.out, ERR.out]; rfl, below_set3 HI7.out.2.2.2 (by omega) _ _ _⟩
        · have hnn : (n == m) = false := by simpa using hnm
          go_wp2_with (first | (refine wpList_load_mid rfl 41 _ rfl bA 0 rfl LA _ HRA.out hu rfl hia ?_) | (refine wpList_load_mid rfl 41 _ rfl bB 0 rfl LB _ HRB.out hu rfl hib ?_))
          rw [← EXA.out, ← EXB.out]
          refine (i_cmpRows _ _ _ (rowF_len _ _ _ _) (rowF_len _ _ _ _) OA.out OB.out).mono ?_
          rintro e w3 ⟨rfl, hb3⟩
          rw [EXA.out, EXB.out]
          have HW93 := hide (addin_go HW9.out hb3)
          have HRA3 := hide (range_go HRA.out hb3)
          have HRB3 := hide (range_go HRB.out hb3)
          have HH93 := hide ((hb3.block wc.heap.size (row_there HH9.out)).trans HH9.out)
          clear hb3 HW9 HRA HRB HH9
          have HW9 := HW93
          have HRA := HRA3
          have HRB := HRB3
          have HH9 := HH93
          clear HW93 HRA3 HRB3 HH93 k1 k2 k3 l1 l2 l3
          obtain ⟨_, k1, k2, k3, l1, l2, l3⟩ := ai_all HW9.out
          rw [MA.out, MB.out]
          by_cases hlt : mag s c < mag t d
          · rw [cmpI_lt (show ((mag s c : Nat) : Int) < ((mag t d : Nat) : Int) by omega)]
            go_wp2_with fail
            have HLR : Hid (LR w w3 wc.heap.size bA bB LA LB n s c m t d) := hide ⟨HW9.out, there_row HH9.out, HRA.out, HRB.out⟩
            have hS9 := lr_all (lr_drew HLR.out)
            try refine wp_region_noPanic ?_
            refine wp_region_held_drew (S := (fun w' => LR w w' wc.heap.size bA bB LA LB n s c m t d ∧ w'.cell? ⟨w.heap.size + 1, 0, none⟩ = some (.bool m) ∧ w'.rangeAt bA 0 LA ∧ w'.rangeAt bB 0 LB ∧ w'.there wc.heap.size 0 121)) (by kernel_rfl) hS9 (fun hHeld => ?_)
            refine wpAnyH_take (i := 0) (v := Value.pointer (some ⟨w.heap.size + 1, 0, none⟩)) rfl (by kernel_rfl) (by kernel_rfl) (by kernel_rfl) (fun _ _ _ h => h) (Or.inl ⟨by rfl, by intro w hSw; go_simp⟩) (by assumption) ?_
            try simp only [Act.put, List.setIfInBounds_toArray, List.set_cons_zero, List.set_cons_succ]
            refine wpAnyH_take (i := 1) (v := Value.bool m) rfl (by kernel_rfl) (by kernel_rfl) (by kernel_rfl) (fun _ _ _ h => h) (Or.inl ⟨by rfl, by intro w hSw; obtain ⟨_, hc9, _⟩ := hSw; go_simp⟩) (by assumption) ?_
            try simp only [Act.put, List.setIfInBounds_toArray, List.set_cons_zero, List.set_cons_succ]
            refine wpAnyH_take (i := 2) (v := Value.agg LB.toArray) rfl (by kernel_rfl) (by kernel_rfl) (by kernel_rfl) (fun _ _ _ h => h) (yieldsIf_load_mid (by rfl) _ _ rfl _ _ rfl _ _ (fun w hw => hw.2.2.2.1) hu rfl hib) (by assumption) ?_
            try simp only [Act.put, List.setIfInBounds_toArray, List.set_cons_zero, List.set_cons_succ]
            refine wpAnyH_take (i := 3) (v := Value.agg LA.toArray) rfl (by kernel_rfl) (by kernel_rfl) (by kernel_rfl) (fun _ _ _ h => h) (yieldsIf_load_mid (by rfl) _ _ rfl _ _ rfl _ _ (fun w hw => hw.2.2.1) hu rfl hia) (by assumption) ?_
            try simp only [Act.put, List.setIfInBounds_toArray, List.set_cons_zero, List.set_cons_succ]
            refine wpAnyH_ready (rs := [4]) (by kernel_rfl) (by simp) ?_
            refine AllReadyH.cons rfl (fun K hK => ?_) AllReadyH.nil
            go_simp
            rw [← EXA.out, ← EXB.out]
            refine (i_lessRow _ _ _ (rowF_len _ _ _ _) (rowF_len _ _ _ _) OB.out OA.out (by rw [MA.out, MB.out]; omega)).mono ?_
            rintro e w4 ⟨zs, hzl, hzo, hzv, rfl, hb4⟩
            obtain ⟨LZ, hLZ⟩ : ∃ L : List Value, rowV zs = L.toArray := ⟨(rowV zs).toList, by simp⟩
            rw [hLZ]
            have llz : LZ.length = 121 := by
              have q := congrArg Array.size hLZ
              rw [rowV_size, hzl] at q; simpa using q.symm
            have hiz : (Tryd.prog.info? 41).map (·.size) = some LZ.length := by rw [llz]; exact (zero_of_info z_info).2
            have hoz : ∀ v ∈ LZ, v.oneCell' = true := by
              have e1 : (rowV zs).all (·.oneCell') = true := by simp [rowV, Value.oneCell']
              rw [hLZ] at e1; simpa using e1
            have HLR4 := hide (lr_go (lr_drew HLR.out) hb4)
            refine hK.out _ _ (lr_all HLR4.out) (fun hHeld4 => ?_)
            clear hK K hHeld
            try simp only [Act.put, List.setIfInBounds_toArray, List.set_cons_zero, List.set_cons_succ]
            refine wpAnyH_take (i := 5) (v := Value.bool m) rfl (by kernel_rfl) (by kernel_rfl) (by kernel_rfl) (fun _ _ _ h => h) (Or.inl ⟨by rfl, by intro w hSw; go_simp⟩) (by assumption) ?_
            try simp only [Act.put, List.setIfInBounds_toArray, List.set_cons_zero, List.set_cons_succ]
            refine wpAnyH_ready (rs := [6]) (by kernel_rfl) (by simp) ?_
            refine AllReadyH.cons rfl (fun K hK => ?_) AllReadyH.nil
            rw [if_pos (by rfl)]
            refine wp_store_mid _ _ _ rfl _ _ LZ.toArray rfl rfl ?_ ?_ (all_oneCell_toArray hoz) ?_
            · simp only [List.size_toArray, llz]; exact HLR4.out.2.1
            · simp only [List.size_toArray]; exact hiz
            simp only [Act.put, List.setIfInBounds_toArray, List.set_cons_zero, List.set_cons_succ, List.toList_toArray]
            refine hK.out _ _ (lr_all (lr_sc HLR4.out hlt2 hbA hbB _)) (fun hHeld5 => ?_)
            clear hK K hHeld4 hHeld5
            try simp only [Act.put, List.setIfInBounds_toArray, List.set_cons_zero, List.set_cons_succ]
            refine wpAnyH_done (by kernel_rfl) ?_ _
            try refine NoPanic.normal ?_
            have HI5 := hide (lr_sc HLR4.out hlt2 hbA hbB LZ).1
            have HRZ := hide (World.rangeAt_setCells_same w4 wc.heap.size 0 LZ (by rw [llz]; exact HLR4.out.2.1))
            have HCL := hide (range_cells HRZ.out hLZ hzl)
            have HLT := hide (range_lt HRZ.out llz)
            have HZL := hide hzl
            have HZO := hide hzo
            obtain ⟨hv0, hdg0⟩ := txt_val zs hzo
            have hu9 : (strOfNums (zs.reverse.map fun x => 48 + x)).size = 121 := by rw [strOfNums_size]; simp [hzl]
            obtain ⟨U, hU⟩ : ∃ U, strOfNums (zs.reverse.map fun x => 48 + x) = U := ⟨_, rfl⟩
            rw [hU] at hv0 hdg0 hu9
            have EU := hide hU
            have HDG := hide hdg0
            have HVV : Hid (decRes m (valL U.data.toList) (60 : Int).toNat = res60 (iv n s c + iv m t d)) := hide (fin_less hnm (a := mag s c) (b := mag t d) (g := 60) (by simp) (by simp) hlt (by have q := hv0.trans hzv; rw [MA.out, MB.out] at q; omega) (by omega) (by omega))
            obtain ⟨RR, hRR⟩ : ∃ X, res60 (iv n s c + iv m t d) = X := ⟨_, rfl⟩
            have ERR := hide hRR
            obtain ⟨n9, s9, c9, o9⟩ := RR
            have hres : Hid (resV (n9, s9, c9, o9) = .tuple #[.agg #[.bool n9, .string s9, .int .i64 c9], .bool o9]) := hide rfl
            clear hU hv0 hdg0 hRR hzo hzv hb4 hLZ hzl
            go_wp2_with fail
            refine (i_digText wc.heap.size 121 _ zs _ HZL.out (by omega) (by omega) HLT.out HZO.out HCL.out).mono ?_
            rintro e w6 ⟨rfl, hb6⟩
            have HI6 := hide (addin_go HI5.out hb6)
            clear hb6
            rw [EU.out]
            go_wp2_with fail
            refine (i_decOf m U 60 _ (by omega) HDG.out (by omega) (by omega)).mono ?_
            rintro e w7 ⟨rfl, hb7⟩
            have HI7 := hide (addin_go HI6.out hb7)
            clear hb7
            rw [HVV.out, ERR.out, hres.out]
            obtain ⟨⟨r1, r2, r3⟩, g1, g2, g3⟩ := heldN_cells HI7.out.2.2.1
            have HZ := hide (heldN_three HI7.out.2.2.1 (.bool n9) (.string s9) (.int .i64 c9))
            go_wp2
            obtain ⟨z0, z1, z2⟩ := HZ.out
            exact bodyPost_ret (v := .tuple #[.agg #[.bool n9, .string s9, .int .i64 c9], .bool o9]) (by simp [results, Tryd.results9, go_sem, z0, z1, z2]) rfl ⟨by rw [HV.out, ERR.out]; rfl, below_set3 HI7.out.2.2.2 (by omega) _ _ _⟩
          · obtain ⟨q, hq, hq0⟩ : ∃ q, cmpI (mag s c) (mag t d) = q ∧ 0 ≤ q := ⟨_, rfl, by unfold cmpI; rw [if_neg (by omega)]; split <;> omega⟩
            rw [hq]
            go_wp2_with (first | (refine wpList_load_mid rfl 41 _ rfl bA 0 rfl LA _ HRA.out hu rfl hia ?_) | (refine wpList_load_mid rfl 41 _ rfl bB 0 rfl LB _ HRB.out hu rfl hib ?_))
            rw [← EXA.out, ← EXB.out]
            refine (i_lessRow _ _ _ (rowF_len _ _ _ _) (rowF_len _ _ _ _) OA.out OB.out (by rw [MA.out, MB.out]; omega)).mono ?_
            rintro e w4 ⟨zs, hzl, hzo, hzv, rfl, hb4⟩
            have HI4 := hide (addin_go HW9.out hb4)
            have HH4 := hide ((hb4.block wc.heap.size (row_there HH9.out)).trans HH9.out)
            clear hb4
            have HZL := hide hzl
            have HZO := hide hzo
            obtain ⟨hv0, hdg0⟩ := txt_val zs hzo
            have hu9 : (strOfNums (zs.reverse.map fun x => 48 + x)).size = 121 := by rw [strOfNums_size]; simp [hzl]
            obtain ⟨U, hU⟩ : ∃ U, strOfNums (zs.reverse.map fun x => 48 + x) = U := ⟨_, rfl⟩
            rw [hU] at hv0 hdg0 hu9
            have EU := hide hU
            have HDG := hide hdg0
            have HVV : Hid (decRes n (valL U.data.toList) (60 : Int).toNat = res60 (iv n s c + iv m t d)) := hide (fin_more hnm (a := mag s c) (b := mag t d) (g := 60) (by simp) (by simp) (by omega) (by have q := hv0.trans hzv; rw [MA.out, MB.out] at q; omega) (by omega) (by omega))
            obtain ⟨RR, hRR⟩ : ∃ X, res60 (iv n s c + iv m t d) = X := ⟨_, rfl⟩
            have ERR := hide hRR
            obtain ⟨n9, s9, c9, o9⟩ := RR
            have hres : Hid (resV (n9, s9, c9, o9) = .tuple #[.agg #[.bool n9, .string s9, .int .i64 c9], .bool o9]) := hide rfl
            clear hU hv0 hdg0 hRR hzo hzv
            obtain ⟨R, hR⟩ : ∃ R, rowV zs = R := ⟨_, rfl⟩
            rw [hR]
            have hsz : (Tryd.prog.info? 41).map (·.size) = some R.size := by rw [← hR, rowV_size, hzl]; exact (zero_of_info z_info).2
            have hzz : Zs.size = R.size := by rw [← hR, rowV_size, hzl, hz9]
            have hall : R.all (·.oneCell') = true := by rw [← hR]; simp [rowV, Value.oneCell']
            have HR := hide hR
            have HH5 : Hid ((w4.setRow wc.heap.size R).heap[wc.heap.size]? = some (.cells (rowV zs) 41 (0, 0))) := hide (by rw [hR]; exact setRow_heap w4 _ _ R _ _ HH4.out)
            have HI5 := hide (addin_row HI4.out hlt2 R)
            clear hR hzl
            go_wp2_with (refine wpList_store_row rfl 41 _ _ rfl wc.heap.size _ rfl rfl 41 _ HH4.out hsz hzz hall ?_)
            refine (i_digText wc.heap.size 121 _ zs _ HZL.out (by omega) (by omega) (row_there HH5.out) HZO.out (row_cells HH5.out HZL.out)).mono ?_
            rintro e w6 ⟨rfl, hb6⟩
            have HI6 := hide (addin_go HI5.out hb6)
            clear hb6
            rw [EU.out]
            go_wp2_with fail
            refine (i_decOf n U 60 _ (by omega) HDG.out (by omega) (by omega)).mono ?_
            rintro e w7 ⟨rfl, hb7⟩
            have HI7 := hide (addin_go HI6.out hb7)
            clear hb7
            rw [HVV.out, ERR.out, hres.out]
            obtain ⟨⟨r1, r2, r3⟩, g1, g2, g3⟩ := heldN_cells HI7.out.2.2.1
            have HZ := hide (heldN_three HI7.out.2.2.1 (.bool n9) (.string s9) (.int .i64 c9))
            go_wp2
            obtain ⟨z0, z1, z2⟩ := HZ.out
            exact bodyPost_ret (v := .tuple #[.agg #[.bool n9, .string s9, .int .i64 c9], .bool o9]) (by simp [results, Tryd.results9, go_sem, z0, z1, z2]) rfl ⟨by rw [HV.out, ERR.out]; rfl, below_set3 HI7.out.2.2.2 (by omega) _ _ _⟩
end Go.Proofs.YtdglamiifcagoacDoor
