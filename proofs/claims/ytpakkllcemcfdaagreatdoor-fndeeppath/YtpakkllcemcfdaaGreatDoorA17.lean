/-
  Contract: the specification's row in order, each number once.
-/
import Derived.Test.YtpakkllcemcfdaaGreatDoorA16
import Derived.BigQuiet
namespace Go.Proofs.YtpakkllcemcfdaaGreatDoor
open Go.RowKit
set_option linter.unusedVariables false
set_option linter.unusedSimpArgs false
theorem below_drewS {b : Nat} {w w1 : World} (h : Below b w w1) (q : Nat) : Below b w (w1.drewN q) := h.trans ⟨rfl, rfl, rfl, Nat.le_refl _, fun _ _ => rfl⟩
theorem intR_drew {B : Nat} {w : World} {ad : Option Addr} {c : Nat} {L : List Int} (h : IntR B w ad c L) (q : Nat) : IntR B (w.drewN q) ad c L := h
theorem intR_cells {B : Nat} {w : World} {g c : Nat} {L : List Int} (h : IntR B w (some ⟨g, 0, none⟩) c L) : ∀ j, j < L.length → w.cell? ⟨g, j, none⟩ = some (.int .i64 (L[j]?.getD 0)) := by
  intro j hj
  rw [World.ownsRow.cellAt h j (by omega), List.getElem?_map, List.getElem?_eq_getElem hj]
  rfl
theorem intR_cap {B : Nat} {w : World} {ad : Option Addr} {c : Nat} {L : List Int} (h : IntR B w ad c L) : L.length ≤ c := by
  rcases h.2 with ⟨hv, h0⟩ | ⟨g, cap, cur, hv, -, -, hc, -⟩
  · omega
  · simp only [Value.slice.injEq] at hv
    omega
theorem intR_lt {B : Nat} {w : World} {g c : Nat} {L : List Int} (h : IntR B w (some ⟨g, 0, none⟩) c L) : g < w.heap.size := (World.ownsRow.lt h g rfl).2
/-- While the row is made: what stands in it, and that it is no argument's. -/
def SoS (w wr : World) (g c : Nat) (O : List Int) : Prop := IntR w.heap.size wr (some ⟨g, 0, none⟩) c O ∧ Below w.heap.size w wr
theorem so_drew {w wr : World} {g c : Nat} {O : List Int} (h : SoS w wr g c O) (q : Nat) : SoS w (wr.drewN q) g c O := ⟨intR_drew h.1 q, below_drewS h.2 q⟩
theorem so_grown {w wq w1 w2 : World} {g c : Nat} {O : List Int} {row : Option Nat} (h : SoS w w1 g c O) (hg : w1.grownBy w2 row) (hq : g < wq.heap.size) (hr : ∀ k, row = some k → wq.heap.size ≤ k) (hw : w.heap.size ≤ wq.heap.size) : SoS w w2 g c O := by
  refine ⟨World.ownsRow.kept h.1 hg (.inr (fun e => ?_)), h.2.grown hg h.2.size (fun k hk => by have := hr k hk; omega)⟩
  have := hr g e.symm
  omega
theorem so_alloc {w w1 : World} {g c : Nat} {O : List Int} (h : SoS w w1 g c O) (o : Obj) : SoS w (w1.alloc o) g c O := ⟨World.ownsRow.alloc h.1 o, h.2.alloc h.2.size o⟩
theorem cell_gr {wq w1 w2 : World} {p : Addr} {v : Value} {row : Option Nat} (h : w1.cell? p = some v) (hg : w1.grownBy w2 row) (hp : p.block < wq.heap.size) (hs : wq.heap.size ≤ w1.heap.size) (hr : ∀ k, row = some k → wq.heap.size ≤ k) : w2.cell? p = some v :=
  (World.cell?_of_block (hg.block p.block (by omega) (fun e => by have := hr p.block e.symm; omega))).trans h
set_option maxHeartbeats 4000000 in
set_option maxRecDepth 100000 in
theorem s_sorted (a : Option Addr) (n c : Nat) (xs : List Int) (w : World) (hx : xs.length = n) (hn : n ≤ 1000) (hr : RowAt .i64 w a xs w.heap.size) :
    Calls Tryz.prog 61 #[.slice a n c] w fun e w' => ∃ ad c', e = .returned (.slice ad (srtL xs).length c') ∧ IntR w.heap.size w' ad c' (srtL xs) ∧ Below w.heap.size w w' := by
  obtain ⟨i0, hi, hz0, hz1, hz2⟩ := info_parts info64
  have HX := hide hx
  have HR := hide hr
  clear hr hx
  go_enter Tryz.func61, Tryz.ntmps61
  go_wp2
  go_loopw [3, 4] (fun v iv wr => ∃ (i g c2 : Nat), i ≤ n ∧ iv = .int .i64 i ∧ v = .slice (some ⟨g, 0, none⟩) (srtL (xs.take i)).length c2 ∧ Hid (SoS w wr g c2 (srtL (xs.take i)))) (fun _ iv _ => n - (intOf iv).toNat)
  case atStart => exact ⟨0, w.heap.size, 0, Nat.zero_le _, rfl, rfl, hide ⟨World.ownsRow_made (base := w.heap.size) (e := 2) (size := 1) w #[] 0 (Nat.le_refl _) (Nat.zero_le _) rfl, (Below.refl _ _).alloc (Nat.le_refl _) _⟩⟩
  case round =>
    obtain ⟨i, g, c2, hi2, rfl, rfl, HS⟩ := hrel
    by_cases hlt : i < n
    · obtain ⟨b, off, rfl, hbs, hc⟩ := rowAt_cell HR.out i (by rw [HX.out]; exact hlt)
      have HCX := hide hc
      have HST := hide (srt_take (L := xs) (k := i) (by rw [HX.out]; exact hlt))
      have hol := srt_len_le xs i (by rw [HX.out]; omega)
      obtain ⟨O, hO⟩ : ∃ O, srtL (xs.take i) = O := ⟨_, rfl⟩
      rw [hO] at HS HST hol ⊢
      obtain ⟨v, hv⟩ : ∃ v, xs[i]?.getD 0 = v := ⟨_, rfl⟩
      rw [hv] at HST
      have HV := hide hv
      have hii : (i : Int) < (n : Int) := by omega
      have hi00 : (0 : Int) ≤ (i : Int) := by omega
      clear hc hO hv
      go_wp2
      go_loopw [5] (fun av wr => ∃ (k : Nat), k ≤ O.length ∧ av = .int .i64 k ∧ Hid (SoS w wr g c2 O) ∧ Hid (∀ j, j < k → O[j]?.getD 0 < v)) (fun av _ => O.length - (intOf av).toNat)
      case atStart => exact ⟨0, Nat.zero_le _, rfl, HS, hide (fun j hj => by omega)⟩
      case round =>
        clear HS
        rename_i wr0
        obtain ⟨k, hk, rfl, HS, HLE⟩ := hrel
        have x0 : wr.cell? ⟨b, off + i, none⟩ = some (.int .i64 v) := by
          have h := (HS.out.2.cell (p := ⟨b, off + i, none⟩) hbs).trans (HCX.out i (by rw [HX.out]; exact hlt))
          rw [HV.out] at h
          exact h
        by_cases hkl : k < O.length
        · have o0 := intR_cells HS.out.1 k hkl
          have hkd : decide ((k : Int) < (O.length : Int)) = true := decide_eq_true (by omega)
          have hkI : (k : Int) < (O.length : Int) := by omega
          have hk00 : (0 : Int) ≤ (k : Int) := by omega
          obtain ⟨ov, hov⟩ : ∃ ov, O[k]?.getD 0 = ov := ⟨_, rfl⟩
          rw [hov] at o0
          by_cases hlv : ov < v
          · have hld : decide (ov < v) = true := decide_eq_true hlv
            have HLE2 : Hid (∀ j, j < k + 1 → O[j]?.getD 0 < v) := hide (fun j hj => by
              by_cases e : j = k
              · subst e; rw [hov]; exact hlv
              · exact HLE.out j (by omega))
            clear hov hlv
            go_wp2
            go_quiet (fail)
            go_wp2
            go_roundw
            case rel => exact ⟨k + 1, by omega, by go_num, hide (so_drew HS.out nq), HLE2⟩
            case measure => simp [intOf]; omega
          · have hld : decide (ov < v) = false := decide_eq_false hlv
            by_cases hev : ov = v
            · have hed : (ov == v) = true := by rw [beq_iff_eq]; exact hev
              have HIN := hide (HST.out.trans (insL_dup hkl HLE.out (hov.trans hev)))
              clear hov hlv hev
              go_wp2
              go_quiet (fail)
              go_wp2
              go_quiet (fail)
              go_wp2
              go_roundw
              case rel => exact ⟨i + 1, g, c2, by omega, by go_num, by rw [HIN.out], by rw [HIN.out]; exact hide (so_drew HS.out _)⟩
              case measure => simp [intOf]; omega
            · have hed : (ov == v) = false := by rw [beq_eq_false_iff_ne]; exact hev
              have HIN := hide (HST.out.trans (insL_at (by omega) HLE.out (fun _ => by rw [hov]; omega)))
              clear hov hlv hev
              go_wp2
              go_quiet (fail)
              obtain ⟨q1, e1⟩ : ∃ q1, q1 = nq := ⟨_, rfl⟩
              subst e1
              go_wp2
              go_quiet (fail)
              have hkc : O.length ≤ c2 := intR_cap HS.out.1
              have hkcI : (k : Int) ≤ (c2 : Int) := by omega
              have hkoI : (k : Int) ≤ (O.length : Int) := by omega
              have hk00' : (0 : Int) ≤ (k : Int) := by omega
              have HQ0 := hide (so_drew (so_drew HS.out q1) nq)
              have x1 : ((wr.drewN q1).drewN nq).cell? ⟨b, off + i, none⟩ = some (.int .i64 v) := x0
              obtain ⟨wq, hwq⟩ : ∃ wq, (wr.drewN q1).drewN nq = wq := ⟨_, rfl⟩
              rw [hwq] at HQ0 x1
              have hgl : g < wq.heap.size := intR_lt HQ0.out.1
              have hwl : w.heap.size ≤ wq.heap.size := HQ0.out.2.size
              have hbl : b < wq.heap.size := Nat.lt_of_lt_of_le hbs hwl
              rw [hwq]
              have HQA := hide (fun (o : Obj) => so_alloc HQ0.out o)
              have x2 : ∀ o, (wq.alloc o).cell? ⟨b, off + i, none⟩ = some (.int .i64 v) := fun o => (World.cell?_of_block (((Below.refl wq.heap.size wq).alloc (Nat.le_refl _) o).block b hbl)).trans x1
              have HX2 := hide x2
              clear hwq x0 x1 x2
              go_wp2_with (first
                | (at_builtin; refine wpList_append_src (by rfl) (.tmp 46) (.tmp 49) 27 (by rfl) wq.heap.size 2 i0 (.int .i64 0) 1 8 Tryz.underlying27 hi hz0 hz1 hz2 rfl (by decide) (.slice (some ⟨wq.heap.size, 0, none⟩) 0 0) 0 [] (by rfl) (World.ownsRow_made (base := wq.heap.size) (e := 2) (size := 1) wq #[] 0 (Nat.le_refl _) (Nat.zero_le _) rfl) (some ⟨g, 0, none⟩) k c2 ((O.take k).map (Value.int .i64)) (by rfl) (by rw [List.length_map, List.length_take]; omega) (fun _ => ⟨_, rfl, row_src (fun j hj => by rw [List.length_take] at hj; rw [List.getElem?_take_of_lt (by omega), Nat.zero_add]; exact intR_cells (HQA.out _).1 j (by omega))⟩) (ints_one _) (by unfold maxLen; omega) (by omega) (by simp) ?_; intro a9 c9 w9 hown9 hgr9; rw [Nat.zero_add, List.nil_append] at hown9; have HS9 := hide (so_grown (wq := wq) (HQA.out _) hgr9 hgl (fun k hk => by cases hk; exact Nat.le_refl _) hwl); have hs9 : wq.heap.size ≤ w9.heap.size := Nat.le_trans (by simp) hgr9.size; have x3 : w9.cell? ⟨b, off + i, none⟩ = some (.int .i64 v) := cell_gr (wq := wq) (HX2.out _) hgr9 hbl (by simp) (fun k hk => by cases hk; exact Nat.le_refl _); have HO9 := hide hown9; clear hown9 hgr9)
                | (at_builtin; refine wpList_append_src (by rfl) (.tmp 51) (.tmp 56) 27 (by rfl) wq.heap.size 2 i0 (.int .i64 0) 1 8 Tryz.underlying27 hi hz0 hz1 hz2 rfl (by decide) (.slice a9 k c9) k ((O.take k).map (Value.int .i64)) (by first | rfl | simp [Act.eval]) (HO9.out.alloc _) (some ⟨w9.heap.size, 0, none⟩) 1 1 [.int .i64 v] (by rfl) rfl (fun _ => ⟨_, rfl, fun j u hj => gOne_new w9 _ _ j u hj⟩) (gOne_list _ _) (by unfold maxLen; omega) (by omega) (by simp; omega) ?_; intro a10 c10 w10 hown10 hgr10; have HS10 := hide (so_grown (wq := wq) (so_alloc HS9.out _) hgr10 hgl (fun k hk => (HO9.out.lt k hk).1) hwl); have hs10 : wq.heap.size ≤ w10.heap.size := Nat.le_trans (Nat.le_trans hs9 (by simp)) hgr10.size; have HO10 := hide hown10; clear hown10 hgr10)
                | (at_builtin; refine wpList_append_src (by rfl) (.tmp 58) (.tmp 61) 27 (by rfl) wq.heap.size 2 i0 (.int .i64 0) 1 8 Tryz.underlying27 hi hz0 hz1 hz2 rfl (by decide) (.slice a10 (k + 1) c10) (k + 1) ((O.take k).map (Value.int .i64) ++ [.int .i64 v]) (by rfl) HO10.out (some ⟨g, k, none⟩) (O.length - k) (c2 - k) ((O.drop k).map (Value.int .i64)) (by first | rfl | (simp [Act.eval]; omega)) (by rw [List.length_map, List.length_drop]; omega) (fun _ => ⟨_, rfl, row_src (fun j hj => by rw [List.length_drop] at hj; rw [List.getElem?_drop]; exact intR_cells HS10.out.1 (k + j) (by omega))⟩) (ints_one _) (by unfold maxLen; omega) (by omega) hs10 ?_; intro a11 c11 w11 hown11 hgr11; have HS11 := hide (so_grown (wq := wq) HS10.out hgr11 hgl (fun k hk => (HO10.out.lt k hk).1) hwl); have HO11 := hide hown11; clear hown11 hgr11)
                | fail)
              have hlenF : k + 1 + (O.length - k) = (O.take k ++ v :: O.drop k).length := by rw [List.length_append, List.length_take, List.length_cons, List.length_drop]; omega
              have hmapF : (O.take k).map (Value.int .i64) ++ [.int .i64 v] ++ (O.drop k).map (Value.int .i64) = (O.take k ++ v :: O.drop k).map (Value.int .i64) := by rw [List.map_append, List.map_cons, List.append_assoc]; rfl
              have HF := HO11.out
              rw [hlenF, hmapF, ← HIN.out] at HF
              have hpos : 0 < (srtL (xs.take (i + 1))).length := by rw [HIN.out, ← hlenF]; omega
              obtain ⟨g3, cap3, e3, hB3, hl3⟩ := HF.form hpos
              have HFF := hide (⟨gOwn_lower HF hwl, HS11.out.2⟩ : w11.ownsRow w.heap.size 2 1 (.slice a11 (srtL (xs.take (i + 1))).length c11) (srtL (xs.take (i + 1))).length ((srtL (xs.take (i + 1))).map (Value.int .i64)) ∧ Below w.heap.size w w11)
              simp only [Value.slice.injEq] at e3
              obtain ⟨rfl, -, rfl⟩ := e3
              clear HF
              go_roundw
              case rel => exact ⟨i + 1, g3, c11, by omega, by go_num, by rw [HIN.out, ← hlenF], hide HFF.out⟩
              case measure => simp [intOf]; omega
        · have hkd : decide ((k : Int) < (O.length : Int)) = false := decide_eq_false (by omega)
          have HIN := hide (HST.out.trans (insL_at (by omega) HLE.out (fun h => absurd h hkl)))
          go_wp2
          go_quiet (fail)
          obtain ⟨q1, e1⟩ : ∃ q1, q1 = nq := ⟨_, rfl⟩
          subst e1
          go_wp2
          go_quiet (fail)
          have hkc : O.length ≤ c2 := intR_cap HS.out.1
          have hkcI : (k : Int) ≤ (c2 : Int) := by omega
          have hkoI : (k : Int) ≤ (O.length : Int) := by omega
          have hk00' : (0 : Int) ≤ (k : Int) := by omega
          have HQ0 := hide (so_drew (so_drew HS.out q1) nq)
          have x1 : ((wr.drewN q1).drewN nq).cell? ⟨b, off + i, none⟩ = some (.int .i64 v) := x0
          obtain ⟨wq, hwq⟩ : ∃ wq, (wr.drewN q1).drewN nq = wq := ⟨_, rfl⟩
          rw [hwq] at HQ0 x1
          have hgl : g < wq.heap.size := intR_lt HQ0.out.1
          have hwl : w.heap.size ≤ wq.heap.size := HQ0.out.2.size
          have hbl : b < wq.heap.size := Nat.lt_of_lt_of_le hbs hwl
          rw [hwq]
          have HQA := hide (fun (o : Obj) => so_alloc HQ0.out o)
          have x2 : ∀ o, (wq.alloc o).cell? ⟨b, off + i, none⟩ = some (.int .i64 v) := fun o => (World.cell?_of_block (((Below.refl wq.heap.size wq).alloc (Nat.le_refl _) o).block b hbl)).trans x1
          have HX2 := hide x2
          clear hwq x0 x1 x2
          go_wp2_with (first
            | (at_builtin; refine wpList_append_src (by rfl) (.tmp 46) (.tmp 49) 27 (by rfl) wq.heap.size 2 i0 (.int .i64 0) 1 8 Tryz.underlying27 hi hz0 hz1 hz2 rfl (by decide) (.slice (some ⟨wq.heap.size, 0, none⟩) 0 0) 0 [] (by rfl) (World.ownsRow_made (base := wq.heap.size) (e := 2) (size := 1) wq #[] 0 (Nat.le_refl _) (Nat.zero_le _) rfl) (some ⟨g, 0, none⟩) k c2 ((O.take k).map (Value.int .i64)) (by rfl) (by rw [List.length_map, List.length_take]; omega) (fun _ => ⟨_, rfl, row_src (fun j hj => by rw [List.length_take] at hj; rw [List.getElem?_take_of_lt (by omega), Nat.zero_add]; exact intR_cells (HQA.out _).1 j (by omega))⟩) (ints_one _) (by unfold maxLen; omega) (by omega) (by simp) ?_; intro a9 c9 w9 hown9 hgr9; rw [Nat.zero_add, List.nil_append] at hown9; have HS9 := hide (so_grown (wq := wq) (HQA.out _) hgr9 hgl (fun k hk => by cases hk; exact Nat.le_refl _) hwl); have hs9 : wq.heap.size ≤ w9.heap.size := Nat.le_trans (by simp) hgr9.size; have x3 : w9.cell? ⟨b, off + i, none⟩ = some (.int .i64 v) := cell_gr (wq := wq) (HX2.out _) hgr9 hbl (by simp) (fun k hk => by cases hk; exact Nat.le_refl _); have HO9 := hide hown9; clear hown9 hgr9)
            | (at_builtin; refine wpList_append_src (by rfl) (.tmp 51) (.tmp 56) 27 (by rfl) wq.heap.size 2 i0 (.int .i64 0) 1 8 Tryz.underlying27 hi hz0 hz1 hz2 rfl (by decide) (.slice a9 k c9) k ((O.take k).map (Value.int .i64)) (by first | rfl | simp [Act.eval]) (HO9.out.alloc _) (some ⟨w9.heap.size, 0, none⟩) 1 1 [.int .i64 v] (by rfl) rfl (fun _ => ⟨_, rfl, fun j u hj => gOne_new w9 _ _ j u hj⟩) (gOne_list _ _) (by unfold maxLen; omega) (by omega) (by simp; omega) ?_; intro a10 c10 w10 hown10 hgr10; have HS10 := hide (so_grown (wq := wq) (so_alloc HS9.out _) hgr10 hgl (fun k hk => (HO9.out.lt k hk).1) hwl); have hs10 : wq.heap.size ≤ w10.heap.size := Nat.le_trans (Nat.le_trans hs9 (by simp)) hgr10.size; have HO10 := hide hown10; clear hown10 hgr10)
            | (at_builtin; refine wpList_append_src (by rfl) (.tmp 58) (.tmp 61) 27 (by rfl) wq.heap.size 2 i0 (.int .i64 0) 1 8 Tryz.underlying27 hi hz0 hz1 hz2 rfl (by decide) (.slice a10 (k + 1) c10) (k + 1) ((O.take k).map (Value.int .i64) ++ [.int .i64 v]) (by rfl) HO10.out _ (O.length - k) _ ((O.drop k).map (Value.int .i64)) (by rfl) (by rw [List.length_map, List.length_drop]; omega) (fun h => absurd h (by omega)) (ints_one _) (by unfold maxLen; omega) (by omega) hs10 ?_; intro a11 c11 w11 hown11 hgr11; have HS11 := hide (so_grown (wq := wq) HS10.out hgr11 hgl (fun k hk => (HO10.out.lt k hk).1) hwl); have HO11 := hide hown11; clear hown11 hgr11)
            | fail)
          all_goals
            have hlenF : k + 1 + (O.length - k) = (O.take k ++ v :: O.drop k).length := by rw [List.length_append, List.length_take, List.length_cons, List.length_drop]; omega
            have hmapF : (O.take k).map (Value.int .i64) ++ [.int .i64 v] ++ (O.drop k).map (Value.int .i64) = (O.take k ++ v :: O.drop k).map (Value.int .i64) := by rw [List.map_append, List.map_cons, List.append_assoc]; rfl
            have HF := HO11.out
            rw [hlenF, hmapF, ← HIN.out] at HF
            have hpos : 0 < (srtL (xs.take (i + 1))).length := by rw [HIN.out, ← hlenF]; omega
            obtain ⟨g3, cap3, e3, hB3, hl3⟩ := HF.form hpos
            have HFF := hide (⟨gOwn_lower HF hwl, HS11.out.2⟩ : w11.ownsRow w.heap.size 2 1 (.slice a11 (srtL (xs.take (i + 1))).length c11) (srtL (xs.take (i + 1))).length ((srtL (xs.take (i + 1))).map (Value.int .i64)) ∧ Below w.heap.size w w11)
            simp only [Value.slice.injEq] at e3
            obtain ⟨rfl, -, rfl⟩ := e3
            clear HF
            go_roundw
            case rel => exact ⟨i + 1, g3, c11, by omega, by go_num, by rw [HIN.out, ← hlenF], hide HFF.out⟩
            case measure => simp [intOf]; omega
    · have hin : i = n := by omega
      subst hin
      have e : xs.take i = xs := by rw [← HX.out]; exact List.take_length
      rw [e] at HS ⊢
      go_wp2
      go_ret
      exact ⟨_, c2, rfl, HS.out.1, HS.out.2⟩
end Go.Proofs.YtpakkllcemcfdaaGreatDoor
