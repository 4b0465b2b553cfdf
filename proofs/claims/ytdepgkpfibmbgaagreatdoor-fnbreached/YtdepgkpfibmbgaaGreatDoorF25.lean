/-
  Texts put together: SelS, ShelfS, SelSort.
-/
import Derived.Test.YtdepgkpfibmbgaaGreatDoorF24
import Derived.Test.YtdepgkpfibmbgaaGreatDoorF14
import Derived.BigQuiet
import Derived.Shelf.SortM.Plain
import Derived.Shelf.SortM.SortNone
import Derived.Test.YtdepgkpfibmbgaaGreatDoorProg
import Derived.Sort.OwnSortedInts
/-
  Contract: the specification's row in order, each number once.
-/
namespace Go.Proofs.YtdepgkpfibmbgaaGreatDoor
open Go.RowKit
set_option linter.unusedVariables false
set_option linter.unusedSimpArgs false
theorem below_drewS {b : Nat} {w w1 : World} (h : Below b w w1) (q : Nat) : Below b w (w1.drewN q) := h.trans ⟨rfl, rfl, rfl, Nat.le_refl _, fun _ _ => rfl⟩
theorem intR_drew {B : Nat} {w : World} {ad : Option Addr} {c : Nat} {L : List Int} (h : IntR B w ad c L) (q : Nat) : IntR B (w.drewN q) ad c L := h
theorem intR_cells {B : Nat} {w : World} {g c : Nat} {L : List Int} (h : IntR B w (some ⟨g, 0, none⟩) c L) : ∀ j, j < L.length → w.cell? ⟨g, j, none⟩ = some (.int .i64 (L[j]?.getD 0)) := by
  intro j hj
  rw [World.ownsRow.cellAt h j (by omega), List.getElem?_map, List.getElem?_eq_getElem hj]
  rfl
theorem intR_cap {B : Nat} {w : World} {ad : Option Addr} {c : Nat} {L : List Int} (h : IntR B w ad c L) : L.length ≤ c := by
  rcases h.2 with ⟨hv, h0⟩ | ⟨g, cap, cur, hv, -, -, hc, -⟩
  · omega
  · simp only [Value.slice.injEq] at hv
    omega
theorem intR_lt {B : Nat} {w : World} {g c : Nat} {L : List Int} (h : IntR B w (some ⟨g, 0, none⟩) c L) : g < w.heap.size := (World.ownsRow.lt h g rfl).2
/-- While the row is made: what stands in it, and that it is no argument's. -/
def SoS (w wr : World) (g c : Nat) (O : List Int) : Prop := IntR w.heap.size wr (some ⟨g, 0, none⟩) c O ∧ Below w.heap.size w wr
theorem so_drew {w wr : World} {g c : Nat} {O : List Int} (h : SoS w wr g c O) (q : Nat) : SoS w (wr.drewN q) g c O := ⟨intR_drew h.1 q, below_drewS h.2 q⟩
theorem so_grown {w wq w1 w2 : World} {g c : Nat} {O : List Int} {row : Option Nat} (h : SoS w w1 g c O) (hg : w1.grownBy w2 row) (hq : g < wq.heap.size) (hr : ∀ k, row = some k → wq.heap.size ≤ k) (hw : w.heap.size ≤ wq.heap.size) : SoS w w2 g c O := by
  refine ⟨World.ownsRow.kept h.1 hg (.inr (fun e => ?_)), h.2.grown hg h.2.size (fun k hk => by have := hr k hk; omega)⟩
  have := hr g e.symm
  omega
theorem so_alloc {w w1 : World} {g c : Nat} {O : List Int} (h : SoS w w1 g c O) (o : Obj) : SoS w (w1.alloc o) g c O := ⟨World.ownsRow.alloc h.1 o, h.2.alloc h.2.size o⟩
theorem cell_gr {wq w1 w2 : World} {p : Addr} {v : Value} {row : Option Nat} (h : w1.cell? p = some v) (hg : w1.grownBy w2 row) (hp : p.block < wq.heap.size) (hs : wq.heap.size ≤ w1.heap.size) (hr : ∀ k, row = some k → wq.heap.size ≤ k) : w2.cell? p = some v :=
  (World.cell?_of_block (hg.block p.block (by omega) (fun e => by have := hr p.block e.symm; omega))).trans h
set_option maxHeartbeats 4000000 in
set_option maxRecDepth 100000 in
theorem s_sorted (a : Option Addr) (n c : Nat) (xs : List Int) (w : World) (hx : xs.length = n) (hn : n ≤ 1000) (hr : RowAt .i64 w a xs w.heap.size) :
    Calls Tryz.prog 83 #[.slice a n c] w fun e w' => ∃ ad c', e = .returned (.slice ad (srtL xs).length c') ∧ IntR w.heap.size w' ad c' (srtL xs) ∧ Below w.heap.size w w' := by
  obtain ⟨i0, hi, hz0, hz1, hz2⟩ := info_parts info64
  have HX := hide hx
  have HR := hide hr
  clear hr hx
  go_enter Tryz.func83, Tryz.ntmps83
  go_wp2
  go_loopw [3, 4] (fun v iv wr => ∃ (i g c2 : Nat), i ≤ n ∧ iv = .int .i64 i ∧ v = .slice (some ⟨g, 0, none⟩) (srtL (xs.take i)).length c2 ∧ Hid (SoS w wr g c2 (srtL (xs.take i)))) (fun _ iv _ => n - (intOf iv).toNat)
  case atStart => exact ⟨0, w.heap.size, 0, Nat.zero_le _, rfl, rfl, hide ⟨World.ownsRow_made (base := w.heap.size) (e := 2) (size := 1) w #[] 0 (Nat.le_refl _) (Nat.zero_le _) rfl, (Below.refl _ _).alloc (Nat.le_refl _) _⟩⟩
  case round =>
    obtain ⟨i, g, c2, hi2, rfl, rfl, HS⟩ := hrel
    by_cases hlt : i < n
    · obtain ⟨b, off, rfl, hbs, hc⟩ := rowAt_cell HR.out i (by rw [HX.out]; exact hlt)
      have HCX := hide hc
      have HST := hide (srt_take (L := xs) (k := i) (by rw [HX.out]; exact hlt))
      have hol := srt_len_le xs i (by rw [HX.out]; omega)
      obtain ⟨O, hO⟩ : ∃ O, srtL (xs.take i) = O := ⟨_, rfl⟩
      rw [hO] at HS HST hol ⊢
      obtain ⟨v, hv⟩ : ∃ v, xs[i]?.getD 0 = v := ⟨_, rfl⟩
      rw [hv] at HST
      have HV := hide hv
      have hii : (i : Int) < (n : Int) := by omega
      have hi00 : (0 : Int) ≤ (i : Int) := by omega
      clear hc hO hv
      go_wp2
      go_loopw [5] (fun av wr => ∃ (k : Nat), k ≤ O.length ∧ av = .int .i64 k ∧ Hid (SoS w wr g c2 O) ∧ Hid (∀ j, j < k → O[j]?.getD 0 < v)) (fun av _ => O.length - (intOf av).toNat)
      case atStart => exact ⟨0, Nat.zero_le _, rfl, HS, hide (fun j hj => by omega)⟩
      case round =>
        clear HS
        rename_i wr0
        obtain ⟨k, hk, rfl, HS, HLE⟩ := hrel
        have x0 : wr.cell? ⟨b, off + i, none⟩ = some (.int .i64 v) := by
          have h := (HS.out.2.cell (p := ⟨b, off + i, none⟩) hbs).trans (HCX.out i (by rw [HX.out]; exact hlt))
          rw [HV.out] at h
          exact h
        by_cases hkl : k < O.length
        · have o0 := intR_cells HS.out.1 k hkl
          have hkd : decide ((k : Int) < (O.length : Int)) = true := decide_eq_true (by omega)
          have hkI : (k : Int) < (O.length : Int) := by omega
          have hk00 : (0 : Int) ≤ (k : Int) := by omega
          obtain ⟨ov, hov⟩ : ∃ ov, O[k]?.getD 0 = ov := ⟨_, rfl⟩
          rw [hov] at o0
          by_cases hlv : ov < v
          · have hld : decide (ov < v) = true := decide_eq_true hlv
            have HLE2 : Hid (∀ j, j < k + 1 → O[j]?.getD 0 < v) := hide (fun j hj => by
              by_cases e : j = k
              · subst e; rw [hov]; exact hlv
              · exact HLE.out j (by omega))
            clear hov hlv
            go_wp2
            go_quiet (fail)
            go_wp2
            go_roundw
            case rel => exact ⟨k + 1, by omega, by go_num, hide (so_drew HS.out nq), HLE2⟩
            case measure => simp [intOf]; omega
          · have hld : decide (ov < v) = false := decide_eq_false hlv
            by_cases hev : ov = v
            · have hed : (ov == v) = true := by rw [beq_iff_eq]; exact hev
              have HIN := hide (HST.out.trans (insL_dup hkl HLE.out (hov.trans hev)))
              clear hov hlv hev
              go_wp2
              go_quiet (fail)
              go_wp2
              go_quiet (fail)
              go_wp2
              go_roundw
              case rel => exact ⟨i + 1, g, c2, by omega, by go_num, by rw [HIN.out], by rw [HIN.out]; exact hide (so_drew HS.out _)⟩
              case measure => simp [intOf]; omega
            · have hed : (ov == v) = false := by rw [beq_eq_false_iff_ne]; exact hev
              have HIN := hide (HST.out.trans (insL_at (by omega) HLE.out (fun _ => by rw [hov]; omega)))
              clear hov hlv hev
              go_wp2
              go_quiet (fail)
              obtain ⟨q1, e1⟩ : ∃ q1, q1 = nq := ⟨_, rfl⟩
              subst e1
              go_wp2
              go_quiet (fail)
              have hkc : O.length ≤ c2 := intR_cap HS.out.1
              have hkcI : (k : Int) ≤ (c2 : Int) := by omega
              have hkoI : (k : Int) ≤ (O.length : Int) := by omega
              have hk00' : (0 : Int) ≤ (k : Int) := by omega
              have HQ0 := hide (so_drew (so_drew HS.out q1) nq)
              have x1 : ((wr.drewN q1).drewN nq).cell? ⟨b, off + i, none⟩ = some (.int .i64 v) := x0
              obtain ⟨wq, hwq⟩ : ∃ wq, (wr.drewN q1).drewN nq = wq := ⟨_, rfl⟩
              rw [hwq] at HQ0 x1
              have hgl : g < wq.heap.size := intR_lt HQ0.out.1
              have hwl : w.heap.size ≤ wq.heap.size := HQ0.out.2.size
              have hbl : b < wq.heap.size := Nat.lt_of_lt_of_le hbs hwl
              rw [hwq]
              have HQA := hide (fun (o : Obj) => so_alloc HQ0.out o)
              have x2 : ∀ o, (wq.alloc o).cell? ⟨b, off + i, none⟩ = some (.int .i64 v) := fun o => (World.cell?_of_block (((Below.refl wq.heap.size wq).alloc (Nat.le_refl _) o).block b hbl)).trans x1
              have HX2 := hide x2
              clear hwq x0 x1 x2
              go_wp2_with (first
                | (at_builtin; refine wpList_append_src (by rfl) (.tmp 46) (.tmp 49) 33 (by rfl) wq.heap.size 2 i0 (.int .i64 0) 1 8 Tryz.underlying33 hi hz0 hz1 hz2 rfl (by decide) (.slice (some ⟨wq.heap.size, 0, none⟩) 0 0) 0 [] (by rfl) (World.ownsRow_made (base := wq.heap.size) (e := 2) (size := 1) wq #[] 0 (Nat.le_refl _) (Nat.zero_le _) rfl) (some ⟨g, 0, none⟩) k c2 ((O.take k).map (Value.int .i64)) (by rfl) (by rw [List.length_map, List.length_take]; omega) (fun _ => ⟨_, rfl, row_src (fun j hj => by rw [List.length_take] at hj; rw [List.getElem?_take_of_lt (by omega), Nat.zero_add]; exact intR_cells (HQA.out _).1 j (by omega))⟩) (ints_one _) (by unfold maxLen; omega) (by omega) (by simp) ?_; intro a9 c9 w9 hown9 hgr9; rw [Nat.zero_add, List.nil_append] at hown9; have HS9 := hide (so_grown (wq := wq) (HQA.out _) hgr9 hgl (fun k hk => by cases hk; exact Nat.le_refl _) hwl); have hs9 : wq.heap.size ≤ w9.heap.size := Nat.le_trans (by simp) hgr9.size; have x3 : w9.cell? ⟨b, off + i, none⟩ = some (.int .i64 v) := cell_gr (wq := wq) (HX2.out _) hgr9 hbl (by simp) (fun k hk => by cases hk; exact Nat.le_refl _); have HO9 := hide hown9; clear hown9 hgr9)
                | (at_builtin; refine wpList_append_src (by rfl) (.tmp 51) (.tmp 56) 33 (by rfl) wq.heap.size 2 i0 (.int .i64 0) 1 8 Tryz.underlying33 hi hz0 hz1 hz2 rfl (by decide) (.slice a9 k c9) k ((O.take k).map (Value.int .i64)) (by first | rfl | simp [Act.eval]) (HO9.out.alloc _) (some ⟨w9.heap.size, 0, none⟩) 1 1 [.int .i64 v] (by rfl) rfl (fun _ => ⟨_, rfl, fun j u hj => gOne_new w9 _ _ j u hj⟩) (gOne_list _ _) (by unfold maxLen; omega) (by omega) (by simp; omega) ?_; intro a10 c10 w10 hown10 hgr10; have HS10 := hide (so_grown (wq := wq) (so_alloc HS9.out _) hgr10 hgl (fun k hk => (HO9.out.lt k hk).1) hwl); have hs10 : wq.heap.size ≤ w10.heap.size := Nat.le_trans (Nat.le_trans hs9 (by simp)) hgr10.size; have HO10 := hide hown10; clear hown10 hgr10)
                | (at_builtin; refine wpList_append_src (by rfl) (.tmp 58) (.tmp 61) 33 (by rfl) wq.heap.size 2 i0 (.int .i64 0) 1 8 Tryz.underlying33 hi hz0 hz1 hz2 rfl (by decide) (.slice a10 (k + 1) c10) (k + 1) ((O.take k).map (Value.int .i64) ++ [.int .i64 v]) (by rfl) HO10.out (some ⟨g, k, none⟩) (O.length - k) (c2 - k) ((O.drop k).map (Value.int .i64)) (by first | rfl | (simp [Act.eval]; omega)) (by rw [List.length_map, List.length_drop]; omega) (fun _ => ⟨_, rfl, row_src (fun j hj => by rw [List.length_drop] at hj; rw [List.getElem?_drop]; exact intR_cells HS10.out.1 (k + j) (by omega))⟩) (ints_one _) (by unfold maxLen; omega) (by omega) hs10 ?_; intro a11 c11 w11 hown11 hgr11; have HS11 := hide (so_grown (wq := wq) HS10.out hgr11 hgl (fun k hk => (HO10.out.lt k hk).1) hwl); have HO11 := hide hown11; clear hown11 hgr11)
                | fail)
              have hlenF : k + 1 + (O.length - k) = (O.take k ++ v :: O.drop k).length := by rw [List.length_append, List.length_take, List.length_cons, List.length_drop]; omega
              have hmapF : (O.take k).map (Value.int .i64) ++ [.int .i64 v] ++ (O.drop k).map (Value.int .i64) = (O.take k ++ v :: O.drop k).map (Value.int .i64) := by rw [List.map_append, List.map_cons, List.append_assoc]; rfl
              have HF := HO11.out
              rw [hlenF, hmapF, ← HIN.out] at HF
              have hpos : 0 < (srtL (xs.take (i + 1))).length := by rw [HIN.out, ← hlenF]; omega
              obtain ⟨g3, cap3, e3, hB3, hl3⟩ := HF.form hpos
              have HFF := hide (⟨gOwn_lower HF hwl, HS11.out.2⟩ : w11.ownsRow w.heap.size 2 1 (.slice a11 (srtL (xs.take (i + 1))).length c11) (srtL (xs.take (i + 1))).length ((srtL (xs.take (i + 1))).map (Value.int .i64)) ∧ Below w.heap.size w w11)
              simp only [Value.slice.injEq] at e3
              obtain ⟨rfl, -, rfl⟩ := e3
              clear HF
              go_roundw
              case rel => exact ⟨i + 1, g3, c11, by omega, by go_num, by rw [HIN.out, ← hlenF], hide HFF.out⟩
              case measure => simp [intOf]; omega
        · have hkd : decide ((k : Int) < (O.length : Int)) = false := decide_eq_false (by omega)
          have HIN := hide (HST.out.trans (insL_at (by omega) HLE.out (fun h => absurd h hkl)))
          go_wp2
          go_quiet (fail)
          obtain ⟨q1, e1⟩ : ∃ q1, q1 = nq := ⟨_, rfl⟩
          subst e1
          go_wp2
          go_quiet (fail)
          have hkc : O.length ≤ c2 := intR_cap HS.out.1
          have hkcI : (k : Int) ≤ (c2 : Int) := by omega
          have hkoI : (k : Int) ≤ (O.length : Int) := by omega
          have hk00' : (0 : Int) ≤ (k : Int) := by omega
          have HQ0 := hide (so_drew (so_drew HS.out q1) nq)
          have x1 : ((wr.drewN q1).drewN nq).cell? ⟨b, off + i, none⟩ = some (.int .i64 v) := x0
          obtain ⟨wq, hwq⟩ : ∃ wq, (wr.drewN q1).drewN nq = wq := ⟨_, rfl⟩
          rw [hwq] at HQ0 x1
          have hgl : g < wq.heap.size := intR_lt HQ0.out.1
          have hwl : w.heap.size ≤ wq.heap.size := HQ0.out.2.size
          have hbl : b < wq.heap.size := Nat.lt_of_lt_of_le hbs hwl
          rw [hwq]
          have HQA := hide (fun (o : Obj) => so_alloc HQ0.out o)
          have x2 : ∀ o, (wq.alloc o).cell? ⟨b, off + i, none⟩ = some (.int .i64 v) := fun o => (World.cell?_of_block (((Below.refl wq.heap.size wq).alloc (Nat.le_refl _) o).block b hbl)).trans x1
          have HX2 := hide x2
          clear hwq x0 x1 x2
          go_wp2_with (first
            | (at_builtin; refine wpList_append_src (by rfl) (.tmp 46) (.tmp 49) 33 (by rfl) wq.heap.size 2 i0 (.int .i64 0) 1 8 Tryz.underlying33 hi hz0 hz1 hz2 rfl (by decide) (.slice (some ⟨wq.heap.size, 0, none⟩) 0 0) 0 [] (by rfl) (World.ownsRow_made (base := wq.heap.size) (e := 2) (size := 1) wq #[] 0 (Nat.le_refl _) (Nat.zero_le _) rfl) (some ⟨g, 0, none⟩) k c2 ((O.take k).map (Value.int .i64)) (by rfl) (by rw [List.length_map, List.length_take]; omega) (fun _ => ⟨_, rfl, row_src (fun j hj => by rw [List.length_take] at hj; rw [List.getElem?_take_of_lt (by omega), Nat.zero_add]; exact intR_cells (HQA.out _).1 j (by omega))⟩) (ints_one _) (by unfold maxLen; omega) (by omega) (by simp) ?_; intro a9 c9 w9 hown9 hgr9; rw [Nat.zero_add, List.nil_append] at hown9; have HS9 := hide (so_grown (wq := wq) (HQA.out _) hgr9 hgl (fun k hk => by cases hk; exact Nat.le_refl _) hwl); have hs9 : wq.heap.size ≤ w9.heap.size := Nat.le_trans (by simp) hgr9.size; have x3 : w9.cell? ⟨b, off + i, none⟩ = some (.int .i64 v) := cell_gr (wq := wq) (HX2.out _) hgr9 hbl (by simp) (fun k hk => by cases hk; exact Nat.le_refl _); have HO9 := hide hown9; clear hown9 hgr9)
            | (at_builtin; refine wpList_append_src (by rfl) (.tmp 51) (.tmp 56) 33 (by rfl) wq.heap.size 2 i0 (.int .i64 0) 1 8 Tryz.underlying33 hi hz0 hz1 hz2 rfl (by decide) (.slice a9 k c9) k ((O.take k).map (Value.int .i64)) (by first | rfl | simp [Act.eval]) (HO9.out.alloc _) (some ⟨w9.heap.size, 0, none⟩) 1 1 [.int .i64 v] (by rfl) rfl (fun _ => ⟨_, rfl, fun j u hj => gOne_new w9 _ _ j u hj⟩) (gOne_list _ _) (by unfold maxLen; omega) (by omega) (by simp; omega) ?_; intro a10 c10 w10 hown10 hgr10; have HS10 := hide (so_grown (wq := wq) (so_alloc HS9.out _) hgr10 hgl (fun k hk => (HO9.out.lt k hk).1) hwl); have hs10 : wq.heap.size ≤ w10.heap.size := Nat.le_trans (Nat.le_trans hs9 (by simp)) hgr10.size; have HO10 := hide hown10; clear hown10 hgr10)
            | (at_builtin; refine wpList_append_src (by rfl) (.tmp 58) (.tmp 61) 33 (by rfl) wq.heap.size 2 i0 (.int .i64 0) 1 8 Tryz.underlying33 hi hz0 hz1 hz2 rfl (by decide) (.slice a10 (k + 1) c10) (k + 1) ((O.take k).map (Value.int .i64) ++ [.int .i64 v]) (by rfl) HO10.out _ (O.length - k) _ ((O.drop k).map (Value.int .i64)) (by rfl) (by rw [List.length_map, List.length_drop]; omega) (fun h => absurd h (by omega)) (ints_one _) (by unfold maxLen; omega) (by omega) hs10 ?_; intro a11 c11 w11 hown11 hgr11; have HS11 := hide (so_grown (wq := wq) HS10.out hgr11 hgl (fun k hk => (HO10.out.lt k hk).1) hwl); have HO11 := hide hown11; clear hown11 hgr11)
            | fail)
          all_goals
            have hlenF : k + 1 + (O.length - k) = (O.take k ++ v :: O.drop k).length := by rw [List.length_append, List.length_take, List.length_cons, List.length_drop]; omega
            have hmapF : (O.take k).map (Value.int .i64) ++ [.int .i64 v] ++ (O.drop k).map (Value.int .i64) = (O.take k ++ v :: O.drop k).map (Value.int .i64) := by rw [List.map_append, List.map_cons, List.append_assoc]; rfl
            have HF := HO11.out
            rw [hlenF, hmapF, ← HIN.out] at HF
            have hpos : 0 < (srtL (xs.take (i + 1))).length := by rw [HIN.out, ← hlenF]; omega
            obtain ⟨g3, cap3, e3, hB3, hl3⟩ := HF.form hpos
            have HFF := hide (⟨gOwn_lower HF hwl, HS11.out.2⟩ : w11.ownsRow w.heap.size 2 1 (.slice a11 (srtL (xs.take (i + 1))).length c11) (srtL (xs.take (i + 1))).length ((srtL (xs.take (i + 1))).map (Value.int .i64)) ∧ Below w.heap.size w w11)
            simp only [Value.slice.injEq] at e3
            obtain ⟨rfl, -, rfl⟩ := e3
            clear HF
            go_roundw
            case rel => exact ⟨i + 1, g3, c11, by omega, by go_num, by rw [HIN.out, ← hlenF], hide HFF.out⟩
            case measure => simp [intOf]; omega
    · have hin : i = n := by omega
      subst hin
      have e : xs.take i = xs := by rw [← HX.out]; exact List.take_length
      rw [e] at HS ⊢
      go_wp2
      go_ret
      exact ⟨_, c2, rfl, HS.out.1, HS.out.2⟩
end Go.Proofs.YtdepgkpfibmbgaaGreatDoor

/-
  Contracts of Go's own library at this program, laid by the shelf's plain mode: each is one application of a theorem of the library.
-/
namespace Go.Proofs
open Go.Shelf
def Tryz.laysSlM5_f59_ren : Go.Shelf.Ren := ⟨fun | 5 => 59 | 8 => 90 | 7 => 89 | 19 => 125 | 20 => 126 | 10 => 116 | 11 => 117 | 12 => 118 | 13 => 119 | 14 => 120 | 15 => 121 | 16 => 122 | 17 => 123 | 18 => 124 | 30 => 146 | 31 => 147 | 32 => 148 | 33 => 149 | 34 => 150 | 35 => 151 | 40 => 164 | n => n, fun | 23 => 33 | 25 => 2 | 3 => 3 | 32 => 117 | 22 => 33 | 0 => 0 | 44 => 151 | 46 => 115 | 4 => 4 | 36 => 143 | 35 => 142 | 41 => 148 | 5 => 5 | 9 => 9 | 53 => 190 | 57 => 193 | 63 => 203 | 64 => 204 | n => n, fun | n => n⟩
theorem Tryz.laysSlM5_f59 : Go.Proofs.SlLaysM.n5 Tryz.prog Tryz.laysSlM5_f59_ren := {
  mixed := by kernel_rfl
  f5 := ⟨Tryz.f59.name, by decide, Tryz.func59.trans (congrArg some (by kernel_rfl))⟩
  f7 := ⟨Tryz.f89.name, by decide, Tryz.func89.trans (congrArg some (by kernel_rfl))⟩
  f8 := Tryz.func90.trans (congrArg some (by kernel_rfl))
  f10 := ⟨Tryz.f116.name, by decide, Tryz.func116.trans (congrArg some (by kernel_rfl))⟩
  f11 := ⟨Tryz.f117.name, by decide, Tryz.func117.trans (congrArg some (by kernel_rfl))⟩
  f12 := ⟨Tryz.f118.name, by decide, Tryz.func118.trans (congrArg some (by kernel_rfl))⟩
  f13 := ⟨Tryz.f119.name, by decide, Tryz.func119.trans (congrArg some (by kernel_rfl))⟩
  f14 := ⟨Tryz.f120.name, by decide, Tryz.func120.trans (congrArg some (by kernel_rfl))⟩
  f15 := ⟨Tryz.f121.name, by decide, Tryz.func121.trans (congrArg some (by kernel_rfl))⟩
  f16 := ⟨Tryz.f122.name, by decide, Tryz.func122.trans (congrArg some (by kernel_rfl))⟩
  f17 := ⟨Tryz.f123.name, by decide, Tryz.func123.trans (congrArg some (by kernel_rfl))⟩
  f18 := ⟨Tryz.f124.name, by decide, Tryz.func124.trans (congrArg some (by kernel_rfl))⟩
  f19 := Tryz.func125.trans (congrArg some (by kernel_rfl))
  f20 := Tryz.func126.trans (congrArg some (by kernel_rfl))
  f30 := ⟨Tryz.f146.name, by decide, Tryz.func146.trans (congrArg some (by kernel_rfl))⟩
  f31 := Tryz.func147.trans (congrArg some (by kernel_rfl))
  f32 := Tryz.func148.trans (congrArg some (by kernel_rfl))
  f33 := ⟨Tryz.f149.name, by decide, Tryz.func149.trans (congrArg some (by kernel_rfl))⟩
  f34 := ⟨Tryz.f150.name, by decide, Tryz.func150.trans (congrArg some (by kernel_rfl))⟩
  f35 := ⟨Tryz.f151.name, by decide, Tryz.func151.trans (congrArg some (by kernel_rfl))⟩
  f40 := ⟨Tryz.f164.name, by decide, Tryz.func164.trans (congrArg some (by kernel_rfl))⟩
  t0 := Tryz.underlying0
  a0 := Tryz.isAgg0
  z0 := Tryz.sizeOf0
  v0 := Tryz.zeroValue0
  t3 := Tryz.underlying3
  a3 := Tryz.isAgg3
  z3 := Tryz.sizeOf3
  v3 := Tryz.zeroValue3
  t4 := Tryz.underlying4
  a4 := Tryz.isAgg4
  z4 := Tryz.sizeOf4
  v4 := Tryz.zeroValue4
  t5 := Tryz.underlying5
  a5 := Tryz.isAgg5
  z5 := Tryz.sizeOf5
  v5 := Tryz.zeroValue5
  t9 := Tryz.underlying9
  a9 := Tryz.isAgg9
  z9 := Tryz.sizeOf9
  v9 := Tryz.zeroValue9
  t22 := Tryz.underlying33
  a22 := Tryz.isAgg33
  z22 := Tryz.sizeOf33
  v22 := Tryz.zeroValue33
  t23 := Tryz.underlying33
  a23 := Tryz.isAgg33
  z23 := Tryz.sizeOf33
  v23 := Tryz.zeroValue33
  t25 := Tryz.underlying2
  a25 := Tryz.isAgg2
  z25 := Tryz.sizeOf2
  v25 := Tryz.zeroValue2
  t32 := Tryz.underlying117
  a32 := Tryz.isAgg117
  z32 := Tryz.sizeOf117
  v32 := Tryz.zeroValue117
  t35 := Tryz.underlying142
  a35 := Tryz.isAgg142
  z35 := Tryz.sizeOf142
  v35 := Tryz.zeroValue142
  t36 := Tryz.underlying143
  a36 := Tryz.isAgg143
  z36 := Tryz.sizeOf143
  v36 := Tryz.zeroValue143
  t41 := Tryz.underlying148
  a41 := Tryz.isAgg148
  z41 := Tryz.sizeOf148
  v41 := Tryz.zeroValue148
  t44 := Tryz.underlying151
  a44 := Tryz.isAgg151
  z44 := Tryz.sizeOf151
  v44 := Tryz.zeroValue151
  t46 := Tryz.underlying115
  a46 := Tryz.isAgg115
  z46 := Tryz.sizeOf115
  v46 := Tryz.zeroValue115
  t53 := Tryz.underlying190
  a53 := Tryz.isAgg190
  z53 := Tryz.sizeOf190
  v53 := Tryz.zeroValue190
  t57 := Tryz.underlying193
  a57 := Tryz.isAgg193
  z57 := Tryz.sizeOf193
  v57 := Tryz.zeroValue193
  t63 := Tryz.underlying203
  a63 := Tryz.isAgg203
  z63 := Tryz.sizeOf203
  v63 := Tryz.zeroValue203
  t64 := Tryz.underlying204
  a64 := Tryz.isAgg204
  z64 := Tryz.sizeOf204
  v64 := Tryz.zeroValue204 }
open Go.Sort Go.RowKit in
theorem Tryz.slices_Sort_int (blk off cap : Nat) (zs : List Int) (w : World) (hH : Holds (Value.int .i64) w blk off zs.toArray) (hblk : blk < w.heap.size) (hsz : zs.length < 4611686018427387904) :
    Calls Tryz.prog 59 #[.slice (some ⟨blk, off, none⟩) zs.length cap] w fun e w' =>
      e = .returned (.tuple #[]) ∧ ∃ n os, w' = grow (putRow (Value.int .i64) (Sort.ahead w n) blk off (zs.mergeSort fun x y => decide (x ≤ y)).toArray) os := AnyM.slices_Sort_int Tryz.laysSlM5_f59 blk off cap zs w hH hblk hsz
end Go.Proofs

/-
  Contract: the library's sort of a row of numbers of one's own, in the words of these texts.
-/
namespace Go.Proofs.YtdepgkpfibmbgaaGreatDoor
open Go.RowKit Go.Sort
set_option linter.unusedVariables false
set_option linter.unusedSimpArgs false
theorem intR_low {B B' : Nat} {w : World} {ad : Option Addr} {c : Nat} {L : List Int} (h : IntR B w ad c L) (hb : B' ≤ B) : IntR B' w ad c L := gOwn_lower h hb
theorem i_sort (B : Nat) (ad : Option Addr) (c : Nat) (L : List Int) (w : World) (h : IntR B w ad c L) (hl : L.length ≤ 1000) (hn : L.Nodup) :
    Calls Tryz.prog 59 #[.slice ad L.length c] w fun e w' => e = .returned (.tuple #[]) ∧ ∃ m, m = (srtL L).length ∧ m = L.length ∧ IntR B w' ad c (srtL L) ∧ ∀ w0, Below B w0 w → Below B w0 w' := by
  rcases h.2 with ⟨hv, h0⟩ | ⟨g, cap, cur, hv, hB, hg, hc, hm, hz, ht⟩
  · simp only [Value.slice.injEq] at hv
    obtain ⟨rfl, h1, rfl⟩ := hv
    have hL : L = [] := List.length_eq_zero_iff.1 h1
    subst hL
    refine (AnyM.slices_Sort_int_none Tryz.laysSlM5_f59 none 0 w).mono ?_
    rintro e w' ⟨rfl, rfl⟩
    exact ⟨rfl, 0, rfl, rfl, h, fun w0 hb => hb⟩
  · simp only [Value.slice.injEq] at hv
    obtain ⟨rfl, -, rfl⟩ := hv
    have hgl : g < w.heap.size := (Array.getElem?_eq_some_iff.1 hg).1
    have hs := srt_merge hn
    have hsl : (srtL L).length = L.length := srt_len hn
    refine (Tryz.slices_Sort_int g 0 c L w (holds_of_blockI hg (by rw [Nat.mul_one] at ht; exact ht)) hgl (by omega)).mono ?_
    rintro e w' ⟨rfl, n, os, rfl⟩
    rw [hs]
    have ho := ownsRow_sortedI (n := n) (os := os) (ss := L) (ts := srtL L) hsl hB hg hc hm hz
    refine ⟨rfl, _, rfl, hsl, ?_, fun w0 hb => ?_⟩
    · unfold IntR
      rw [hsl]
      exact ho
    · exact hb.grown (grownBy_sortedI (srtL L).toArray) (by omega) (fun k hk => by cases hk; exact hB)
end Go.Proofs.YtdepgkpfibmbgaaGreatDoor
