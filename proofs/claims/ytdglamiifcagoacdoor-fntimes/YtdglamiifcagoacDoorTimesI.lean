/-
  Contract: the program's product of digits in an array.
-/
import Derived.Test.YtdglamiifcagoacDoorDigAt
import Derived.Test.YtdglamiifcagoacDoorHeld
import Derived.Test.YtdglamiifcagoacDoorTimesMath
import Derived.OwnWalk
import Derived.Laws.Rows
import Derived.Laws.World
import Derived.Laws.Tables
import Derived.Laws.CopyOwn
import Derived.Deep.WholeRow
import Derived.Deep.RegionHeld3
import Derived.KernelRfl
namespace Go.Proofs.YtdglamiifcagoacDoor
open Go.RowKit
set_option linter.unusedSimpArgs false
set_option linter.unusedVariables false
/-- The digits of a text as a row, the least first. -/
def revA (x : ByteArray) : List Int := x.data.toList.reverse.map fun c => (c.toNat : Int) - 48
theorem revA_len (x : ByteArray) : (revA x).length = x.size := by simp [revA]
theorem revA_val (x : ByteArray) (h : digsB x = true) : rval (revA x) = valL x.data.toList := rval_rev _ (dgL_of x h)
theorem revA_at (x : ByteArray) (k : Nat) (h : k < x.size) : (revA x)[k]?.getD 0 = at8 x (x.size - 1 - k) - 48 := by
  have hk : k < (revA x).length := by rw [revA_len]; exact h
  rw [List.getElem?_eq_getElem hk, at8_eq x _ (by omega)]
  simp only [revA, List.getElem_map, List.getElem_reverse, Option.getD_some]
  have e : x.data.toList[x.data.toList.length - 1 - k]'(by simp; omega) = x[x.size - 1 - k] := by
    have hl : x.data.toList.length = x.size := by simp
    show _ = x.data.toList[x.size - 1 - k]'(by simp; omega)
    congr 1
  rw [e]
theorem revA_ok (x : ByteArray) (h : digsB x = true) : rowOK (revA x) := by
  intro v hv
  obtain ⟨c, hc, rfl⟩ := List.mem_map.1 hv
  have := dgL_of x h c (by simpa using hc)
  omega
theorem z_info120 : (Tryd.prog.info? 32).map (fun i => (i.zero, i.size)) = some (some (.agg (rowV (List.replicate 120 0))), 120) := by kernel_rfl
def Zt : Array Value := rowV (List.replicate 120 0)
theorem z_zero120 : ∀ w, (zeroValue 32).run Tryd.prog w = .ok (.agg Zt) w := (zero_of_info z_info120).1
/-- The loops' memory: the two numbers, the answer's place, the product. -/
def TmSt (w wr : World) (n : Bool) (s : ByteArray) (c : Int) (m : Bool) (t : ByteArray) (d : Int) (P : List Int) : Prop :=
  HeldN wr w.heap.size n s c ∧ HeldN wr (w.heap.size + 1) m t d ∧ wr.heap[w.heap.size + 1 + 1]? = some (.cells Zt 32 (0, 0)) ∧ wr.heap[w.heap.size + 1 + 1 + 1]? = some (.cells (rowV P) 32 (0, 0)) ∧ Below w.heap.size w wr
theorem tm_new (w : World) (n : Bool) (s : ByteArray) (c : Int) (m : Bool) (t : ByteArray) (d : Int) (T : TypeId) :
    TmSt w ((((w.alloc (.cells #[.bool n, .string s, .int .i64 c] T)).alloc (.cells #[.bool m, .string t, .int .i64 d] T)).alloc (.cells Zt 32)).alloc (.cells Zt 32)) n s c m t d (List.replicate 120 0) := by
  obtain ⟨w1, h1⟩ : ∃ w1, w.alloc (.cells #[.bool n, .string s, .int .i64 c] T) = w1 := ⟨_, rfl⟩
  obtain ⟨w2, h2⟩ : ∃ w2, w1.alloc (.cells #[.bool m, .string t, .int .i64 d] T) = w2 := ⟨_, rfl⟩
  obtain ⟨w3, h3⟩ : ∃ w3, w2.alloc (.cells Zt 32) = w3 := ⟨_, rfl⟩
  have s1 : w1.heap.size = w.heap.size + 1 := by rw [← h1]; simp
  have s2 : w2.heap.size = w.heap.size + 1 + 1 := by rw [← h2]; simp [s1]
  have s3 : w3.heap.size = w.heap.size + 1 + 1 + 1 := by rw [← h3]; simp [s2]
  have b1 : Below w.heap.size w w1 := by rw [← h1]; exact (Below.refl _ _).alloc (Nat.le_refl _) _
  have b2 : Below w1.heap.size w1 w2 := by rw [← h2]; exact (Below.refl _ _).alloc (Nat.le_refl _) _
  have b3 : Below w2.heap.size w2 w3 := by rw [← h3]; exact (Below.refl _ _).alloc (Nat.le_refl _) _
  have b4 : Below w3.heap.size w3 (w3.alloc (.cells Zt 32)) := (Below.refl _ _).alloc (Nat.le_refl _) _
  have n1 : HeldN w1 w.heap.size n s c := by rw [← h1]; exact heldN_new w n s c T
  have n2 : HeldN w2 (w.heap.size + 1) m t d := by rw [← h2, ← s1]; exact heldN_new w1 m t d T
  have n3 : w3.heap[w.heap.size + 1 + 1]? = some (.cells Zt 32 (0, 0)) := by rw [← h3, ← s2]; exact heap_alloc_new w2 _
  have n4 : (w3.alloc (.cells Zt 32)).heap[w.heap.size + 1 + 1 + 1]? = some (.cells Zt 32 (0, 0)) := by rw [← s3]; exact heap_alloc_new w3 _
  rw [h1, h2, h3]
  exact ⟨heldN_below (heldN_below (heldN_below n1 b2) b3) b4, heldN_below (heldN_below n2 b3) b4, (b4.block _ (by omega)).trans n3, n4, below_go (below_go (below_go b1 b2) b3) b4⟩
theorem tm_go {w wr w2 : World} {n m : Bool} {s t : ByteArray} {c d : Int} {P : List Int} (h : TmSt w wr n s c m t d P) (k : Below wr.heap.size wr w2) : TmSt w w2 n s c m t d P := by
  obtain ⟨h1, h2, h3, h4, h5⟩ := h
  exact ⟨heldN_below h1 k, heldN_below h2 k, (k.block _ (Array.getElem?_eq_some_iff.1 h3).1).trans h3, (k.block _ (Array.getElem?_eq_some_iff.1 h4).1).trans h4, below_go h5 k⟩
theorem tm_drew {w wr : World} {n m : Bool} {s t : ByteArray} {c d : Int} {P : List Int} (h : TmSt w wr n s c m t d P) : TmSt w wr.drew n s c m t d P :=
  ⟨h.1, h.2.1, h.2.2.1, h.2.2.2.1, h.2.2.2.2.trans ⟨rfl, rfl, rfl, Nat.le_refl _, fun _ _ => rfl⟩⟩
theorem tm_set {w wr : World} {n m : Bool} {s t : ByteArray} {c d : Int} {P : List Int} (h : TmSt w wr n s c m t d P) (i : Nat) (v : Int) : TmSt w (wr.setCell ⟨w.heap.size + 1 + 1 + 1, i, none⟩ (.int .u8 v)) n s c m t d (P.set i v) := by
  obtain ⟨⟨T1, h1⟩, ⟨T2, h2⟩, h3, h4, h5⟩ := h
  have hb : ∀ k, k ≠ w.heap.size + 1 + 1 + 1 → (wr.setCell ⟨w.heap.size + 1 + 1 + 1, i, none⟩ (.int .u8 v)).heap[k]? = wr.heap[k]? := fun k hk => Below.heap_setCell wr ⟨w.heap.size + 1 + 1 + 1, i, none⟩ _ k hk
  refine ⟨⟨T1, (hb _ (by omega)).trans h1⟩, ⟨T2, (hb _ (by omega)).trans h2⟩, (hb _ (by omega)).trans h3, ?_, h5.setCell (by show w.heap.size ≤ w.heap.size + 1 + 1 + 1; omega) _⟩
  rw [heap_setCell_same wr _ i _ _ _ h4, rowV_set]
theorem tm_cell {w wr : World} {n m : Bool} {s t : ByteArray} {c d : Int} {P : List Int} (h : TmSt w wr n s c m t d P) (i : Nat) (hi : i < P.length) : wr.cell? ⟨w.heap.size + 1 + 1 + 1, i, none⟩ = some (.int .u8 (P[i]?.getD 0)) ∧ wr.frozen? ⟨w.heap.size + 1 + 1 + 1, i, none⟩ = false :=
  ⟨by rw [cell_of_row wr _ i _ _ (0, 0) h.2.2.2.1, rowV_get P i hi], frozen_of_row wr _ i _ _ h.2.2.2.1⟩
theorem sm_of {w wr : World} {n m : Bool} {s t : ByteArray} {c d : Int} {P : List Int} {k : Nat} {g : Int} (h : TmSt w wr n s c m t d P) (hk : k < P.length) (hg : P[k]?.getD 0 = g) :
    TmSt w wr n s c m t d P ∧ wr.cell? ⟨w.heap.size + 1 + 1 + 1, k, none⟩ = some (.int .u8 g) ∧ wr.cell? ⟨w.heap.size, 0, none⟩ = some (.bool n) ∧ wr.cell? ⟨w.heap.size, 1, none⟩ = some (.string s) ∧ wr.cell? ⟨w.heap.size, 2, none⟩ = some (.int .i64 c) ∧ wr.cell? ⟨w.heap.size + 1, 0, none⟩ = some (.bool m) ∧ wr.cell? ⟨w.heap.size + 1, 1, none⟩ = some (.string t) ∧ wr.cell? ⟨w.heap.size + 1, 2, none⟩ = some (.int .i64 d) := by
  obtain ⟨⟨a1, a2, a3⟩, _⟩ := heldN_cells h.1
  obtain ⟨⟨b1, b2, b3⟩, _⟩ := heldN_cells h.2.1
  exact ⟨h, by rw [(tm_cell h k hk).1, hg], a1, a2, a3, b1, b2, b3⟩
set_option maxRecDepth 100000 in
set_option maxHeartbeats 4000000 in
theorem i_timesD (n m : Bool) (s t : ByteArray) (c d : Int) (w : World) (h1 : decB n s c = true) (h2 : decB m t d = true) :
    Calls Tryd.prog 12 #[.agg #[.bool n, .string s, .int .i64 c], .agg #[.bool m, .string t, .int .i64 d]] w fun e w' => ∃ P : List Int, P.length = 120 ∧ rowOK P ∧ rval P = (valL s.data.toList : Int) * valL t.data.toList ∧ e = .returned (.agg (rowV P)) ∧ Below w.heap.size w w' := by
  obtain ⟨hs, hc0, hc1⟩ := decB_bounds h1
  obtain ⟨ht, hd0, hd1⟩ := decB_bounds h2
  have H1 := hide (decB_digits h1)
  have H2 := hide (decB_digits h2)
  clear h1 h2
  have hz := z_zero120
  go_enter Tryd.func12, Tryd.ntmps12
  go_wp2
  go_loopw [13] (fun vi wr => ∃ (i : Nat) (P : List Int), vi = .int .i64 i ∧ i ≤ s.size ∧ Hid (P.length = 120) ∧ Hid (rowOK P) ∧ Hid (zeroFrom P (i + t.size)) ∧ Hid (rval P = rval ((revA s).take i) * rval (revA t)) ∧ Hid (TmSt w wr n s c m t d P)) (fun vi _ => s.size - (intOf vi).toNat)
  case atStart => exact ⟨0, List.replicate 120 0, rfl, Nat.zero_le _, hide (by simp), hide (fun x hx => by rw [(List.mem_replicate.1 hx).2]; omega), hide (fun k _ => by rw [List.getElem?_replicate]; split <;> rfl), hide (by rw [rval_zeros]; simp [rval]), hide (tm_new w n s c m t d _)⟩
  case round =>
    clear hz
    obtain ⟨i, P, rfl, hi, HPL, HPO, HPZ, HPV, HST⟩ := hrel
    by_cases hlt : i < s.size
    · obtain ⟨wo, rfl⟩ : ∃ wo : World, wo = wr := ⟨_, rfl⟩
      obtain ⟨⟨b1, b2, b3⟩, _⟩ := heldN_cells HST.out.2.1
      have ex := revA_at s i hlt
      have hxb := row_digit (revA_ok s H1.out) i (by rw [revA_len]; exact hlt)
      obtain ⟨x, hx⟩ : ∃ x, at8 s (s.size - 1 - i) - 48 = x := ⟨_, rfl⟩
      rw [ex, hx] at hxb
      rw [hx] at ex
      obtain ⟨hx0, hx9⟩ := hxb
      have EX := hide ex
      have EAX := hide hx
      clear ex hx
      go_wp2
      go_loopw [7, 19] (fun vc vj wr2 => ∃ (j : Nat) (k9 : Int) (P2 : List Int), vc = .int .u8 k9 ∧ vj = .int .i64 j ∧ j ≤ t.size ∧ 0 ≤ k9 ∧ k9 ≤ 9 ∧ Hid (P2.length = 120) ∧ Hid (rowOK P2) ∧ Hid (zeroFrom P2 (i + t.size)) ∧ Hid (rval P2 + 10 ^ (i + j) * k9 = rval P + 10 ^ i * (x * rval ((revA t).take j))) ∧ Hid (TmSt w wr2 n s c m t d P2)) (fun _ vj _ => t.size - (intOf vj).toNat)
      case atStart => exact ⟨0, 0, P, rfl, rfl, Nat.zero_le _, by omega, by omega, HPL, HPO, HPZ, hide (by simp [rval]), HST⟩
      case round =>
        clear b1 b2 b3
        obtain ⟨j, k9, P2, rfl, rfl, hj, hk0, hk9, HQL, HQO, HQZ, HQV, HST2⟩ := hrel
        by_cases hlt2 : j < t.size
        · have ey := revA_at t j hlt2
          have hyb := row_digit (revA_ok t H2.out) j (by rw [revA_len]; exact hlt2)
          obtain ⟨y, hy⟩ : ∃ y, at8 t (t.size - 1 - j) - 48 = y := ⟨_, rfl⟩
          rw [ey, hy] at hyb
          rw [hy] at ey
          obtain ⟨hy0, hy9⟩ := hyb
          have hkl : i + j < P2.length := by rw [HQL.out]; omega
          have hgb := row_digit HQO.out (i + j) hkl
          obtain ⟨g, hg⟩ : ∃ g, P2[i + j]?.getD 0 = g := ⟨_, rfl⟩
          rw [hg] at hgb
          obtain ⟨hg0, hg9⟩ := hgb
          obtain ⟨hm0, hm81⟩ := mul_le81 hx0 hx9 hy0 hy9
          have HS := hide (times_step P2 (revA t) (rval P) i j x y k9 g hkl (by rw [revA_len]; exact hlt2) hg ey HQV.out)
          have HKL := hide hkl
          have HGE := hide hg
          have EAY := hide hy
          have hfz := (tm_cell HST2.out (i + j) hkl).2
          have hS0 := sm_of (tm_drew HST2.out) hkl hg
          have hij0 : (0 : Int) ≤ (i : Int) + (j : Int) := by omega
          have hij1 : (i : Int) + (j : Int) < 120 := by omega
          have hijw : IntKind.i64.wrap ((i : Int) + (j : Int)) = (i : Int) + (j : Int) := by rw [IntKind.wrap_i64]; omega
          have hijt : ((i : Int) + (j : Int)).toNat = i + j := by omega
          clear ey hy hkl hg
          go_wp2
          go_region_held3 (fun w' => TmSt w w' n s c m t d P2 ∧ w'.cell? ⟨w.heap.size + 1 + 1 + 1, i + j, none⟩ = some (.int .u8 g) ∧ w'.cell? ⟨w.heap.size, 0, none⟩ = some (.bool n) ∧ w'.cell? ⟨w.heap.size, 1, none⟩ = some (.string s) ∧ w'.cell? ⟨w.heap.size, 2, none⟩ = some (.int .i64 c) ∧ w'.cell? ⟨w.heap.size + 1, 0, none⟩ = some (.bool m) ∧ w'.cell? ⟨w.heap.size + 1, 1, none⟩ = some (.string t) ∧ w'.cell? ⟨w.heap.size + 1, 2, none⟩ = some (.int .i64 d)) (first | assumption | exact sm_of (tm_go (And.left (by assumption)) hbb) HKL.out HGE.out | exact sm_of (tm_go (And.left (by assumption)) hba) HKL.out HGE.out) (first | (go_at_call_of 26 (Value.agg #[Value.bool n, Value.string s, Value.int .i64 c]); refine (i_digAt n s c i _ hs H1.out hlt).mono ?_; rintro e wa ⟨rfl, hba⟩; rw [EAX.out]) | (go_at_call_of 26 (Value.agg #[Value.bool m, Value.string t, Value.int .i64 d]); refine (i_digAt m t d j _ ht H2.out hlt2).mono ?_; rintro e wb ⟨rfl, hbb⟩; rw [EAY.out]))
          have HST3 := hide (tm_go (tm_go (tm_drew HST2.out) hba) hbb)
          obtain ⟨hcl3, hfz3⟩ := tm_cell HST3.out (i + j) HKL.out
          clear hba hbb hS0 hfz
          go_wp2
          go_roundw
          case rel => exact ⟨j + 1, _, P2.set (i + j) ((g + x * y + k9) % 10), rfl, by go_num, by omega, by omega, by omega, hide (by rw [List.length_set]; exact HQL.out), hide (ok_set HQO.out (by omega) (by omega)), hide (zero_set HQZ.out (by omega)), HS, hide (tm_set HST3.out _ _)⟩
          case measure => simp [intOf]; omega
        · have hjt : j = t.size := by omega
          subst hjt
          have hlt' : (revA t).length = t.size := revA_len t
          have hkl : i + t.size < P2.length := by rw [HQL.out]; omega
          obtain ⟨hcl3, hfz3⟩ := tm_cell HST2.out (i + t.size) hkl
          obtain ⟨⟨b1, b2, b3⟩, _⟩ := heldN_cells HST2.out.2.1
          have HE := hide (times_end P2 (revA t) (rval P) i x k9 (by rw [hlt']; exact hkl) (by rw [hlt']; exact HQZ.out _ (Nat.le_refl _)) (by rw [hlt']; exact HQV.out))
          rw [hlt'] at HE
          have HROW := hide (times_row (revA s) (rval (revA t)) (rval P) i x (by rw [revA_len]; exact hlt) EX.out HPV.out)
          have HKL := hide hkl
          have hij0 : (0 : Int) ≤ (i : Int) + (t.size : Int) := by omega
          have hij1 : (i : Int) + (t.size : Int) < 120 := by omega
          have hijt : ((i : Int) + (t.size : Int)).toNat = i + t.size := by omega
          clear hlt' hkl
          go_wp2
          go_roundw
          case rel => exact ⟨i + 1, P2.set (i + t.size) k9, by go_num, by omega, hide (by rw [List.length_set]; exact HQL.out), hide (ok_set HQO.out hk0 hk9), hide (fun k hk => by rw [List.getElem?_set_ne (by omega)]; exact HQZ.out k (by omega)), hide (HE.out.trans HROW.out), hide (tm_set HST2.out _ _)⟩
          case measure => simp [intOf]; omega
    · have hii : i = s.size := by omega
      subst hii
      have hst := HST.out
      have h3 := hst.2.2.1
      have h4 := hst.2.2.2.1
      have HB := hide hst.2.2.2.2
      have HVAL : Hid (rval P = (valL s.data.toList : Int) * valL t.data.toList) := hide (by
        rw [HPV.out, List.take_of_length_le (by rw [revA_len]; exact Nat.le_refl _), revA_val s H1.out, revA_val t H2.out])
      obtain ⟨R, hR⟩ : ∃ R, rowV P = R := ⟨_, rfl⟩
      rw [hR] at h4
      have hsz : (Tryd.prog.info? 32).map (·.size) = some R.size := by rw [← hR, rowV_size, HPL.out]; exact (zero_of_info z_info120).2
      have hzz : Zt.size = R.size := by rw [← hR, rowV_size, HPL.out]; simp [Zt, rowV_size]
      have hall : R.all (·.oneCell') = true := by rw [← hR]; simp [rowV, Value.oneCell']
      have HR := hide hR
      clear hst hR HST
      go_wp2_with (first | (refine wpList_load_row rfl 32 _ rfl (w.heap.size + 1 + 1 + 1) rfl 32 _ (0, 0) _ h4 Tryd.underlying32 rfl hsz ?_) | (refine wpList_store_row rfl 32 _ _ rfl (w.heap.size + 1 + 1) _ rfl rfl 32 _ h3 hsz hzz hall ?_))
      exact bodyPost_ret (v := .agg R) (results_cell_row Tryd.results12 _ _ (w.heap.size + 1 + 1) 32 R (0, 0) _ rfl (setRow_heap wr _ _ R _ _ h3) Tryd.underlying32 rfl hsz) rfl ⟨P, HPL.out, HPO.out, HVAL.out, by rw [HR.out], below_setRow HB.out (by omega) R⟩
end Go.Proofs.YtdglamiifcagoacDoor
