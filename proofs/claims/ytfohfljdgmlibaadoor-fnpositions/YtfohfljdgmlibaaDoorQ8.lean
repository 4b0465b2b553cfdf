/-
  Texts put together: SoS, TkT.
-/
import Derived.Test.YtfohfljdgmlibaaDoorQ1
import Derived.Test.YtfohfljdgmlibaaDoorQ7
import Derived.Test.YtfohfljdgmlibaaDoorQ6
import Derived.BigQuiet
/-
  Contract: the specification's row in order, each number once.
-/
namespace Go.Proofs.YtfohfljdgmlibaaDoor
open Go.RowKit
set_option linter.unusedVariables false
set_option linter.unusedSimpArgs false
theorem below_drewS {b : Nat} {w w1 : World} (h : Below b w w1) (q : Nat) : Below b w (w1.drewN q) := h.trans ⟨rfl, rfl, rfl, Nat.le_refl _, fun _ _ => rfl⟩
theorem intR_drew {B : Nat} {w : World} {ad : Option Addr} {c : Nat} {L : List Int} (h : IntR B w ad c L) (q : Nat) : IntR B (w.drewN q) ad c L := h
theorem intR_cellsS {B : Nat} {w : World} {g c : Nat} {L : List Int} (h : IntR B w (some ⟨g, 0, none⟩) c L) : ∀ j, j < L.length → w.cell? ⟨g, j, none⟩ = some (.int .i64 (L[j]?.getD 0)) := by
  intro j hj
  rw [World.ownsRow.cellAt h j (by omega), List.getElem?_map, List.getElem?_eq_getElem hj]
  rfl
theorem intR_cap {B : Nat} {w : World} {ad : Option Addr} {c : Nat} {L : List Int} (h : IntR B w ad c L) : L.length ≤ c := by
  rcases h.2 with ⟨hv, h0⟩ | ⟨g, cap, cur, hv, -, -, hc, -⟩
  · omega
  · simp only [Value.slice.injEq] at hv
    omega
theorem intR_lt {B : Nat} {w : World} {g c : Nat} {L : List Int} (h : IntR B w (some ⟨g, 0, none⟩) c L) : g < w.heap.size := (World.ownsRow.lt h g rfl).2
/-- While the row is made: what stands in it, and that it is no argument's. -/
def SoS (w wr : World) (g c : Nat) (O : List Int) : Prop := IntR w.heap.size wr (some ⟨g, 0, none⟩) c O ∧ Below w.heap.size w wr
theorem so_drew {w wr : World} {g c : Nat} {O : List Int} (h : SoS w wr g c O) (q : Nat) : SoS w (wr.drewN q) g c O := ⟨intR_drew h.1 q, below_drewS h.2 q⟩
theorem so_grown {w wq w1 w2 : World} {g c : Nat} {O : List Int} {row : Option Nat} (h : SoS w w1 g c O) (hg : w1.grownBy w2 row) (hq : g < wq.heap.size) (hr : ∀ k, row = some k → wq.heap.size ≤ k) (hw : w.heap.size ≤ wq.heap.size) : SoS w w2 g c O := by
  refine ⟨World.ownsRow.kept h.1 hg (.inr (fun e => ?_)), h.2.grown hg h.2.size (fun k hk => by have := hr k hk; omega)⟩
  have := hr g e.symm
  omega
theorem so_alloc {w w1 : World} {g c : Nat} {O : List Int} (h : SoS w w1 g c O) (o : Obj) : SoS w (w1.alloc o) g c O := ⟨World.ownsRow.alloc h.1 o, h.2.alloc h.2.size o⟩
theorem cell_gr {wq w1 w2 : World} {p : Addr} {v : Value} {row : Option Nat} (h : w1.cell? p = some v) (hg : w1.grownBy w2 row) (hp : p.block < wq.heap.size) (hs : wq.heap.size ≤ w1.heap.size) (hr : ∀ k, row = some k → wq.heap.size ≤ k) : w2.cell? p = some v :=
  (World.cell?_of_block (hg.block p.block (by omega) (fun e => by have := hr p.block e.symm; omega))).trans h
set_option maxHeartbeats 4000000 in
set_option maxRecDepth 100000 in
theorem s_sorted (a : Option Addr) (n c : Nat) (xs : List Int) (w : World) (hx : xs.length = n) (hn : n ≤ 200000) (hr : RowAt .i64 w a xs w.heap.size) :
    Calls Tryd.prog 78 #[.slice a n c] w fun e w' => ∃ ad c', e = .returned (.slice ad (srtL xs).length c') ∧ IntR w.heap.size w' ad c' (srtL xs) ∧ Below w.heap.size w w' := by
  obtain ⟨i0, hi, hz0, hz1, hz2⟩ := info_parts info64
  have HX := hide hx
  have HR := hide hr
  clear hr hx
  go_enter Tryd.func78, Tryd.ntmps78
  go_wp2
  go_loopw [3, 4] (fun v iv wr => ∃ (i g c2 : Nat), i ≤ n ∧ iv = .int .i64 i ∧ v = .slice (some ⟨g, 0, none⟩) (srtL (xs.take i)).length c2 ∧ Hid (SoS w wr g c2 (srtL (xs.take i)))) (fun _ iv _ => n - (intOf iv).toNat)
  case atStart => exact ⟨0, w.heap.size, 0, Nat.zero_le _, rfl, rfl, hide ⟨World.ownsRow_made (base := w.heap.size) (e := 2) (size := 1) w #[] 0 (Nat.le_refl _) (Nat.zero_le _) rfl, (Below.refl _ _).alloc (Nat.le_refl _) _⟩⟩
  case round =>
    obtain ⟨i, g, c2, hi2, rfl, rfl, HS⟩ := hrel
    by_cases hlt : i < n
    · obtain ⟨b, off, rfl, hbs, hc⟩ := rowAt_cell HR.out i (by rw [HX.out]; exact hlt)
      have HCX := hide hc
      have HST := hide (srt_take (L := xs) (k := i) (by rw [HX.out]; exact hlt))
      have hol := srt_len_le xs i (by rw [HX.out]; omega)
      obtain ⟨O, hO⟩ : ∃ O, srtL (xs.take i) = O := ⟨_, rfl⟩
      rw [hO] at HS HST hol ⊢
      obtain ⟨v, hv⟩ : ∃ v, xs[i]?.getD 0 = v := ⟨_, rfl⟩
      rw [hv] at HST
      have HV := hide hv
      have hii : (i : Int) < (n : Int) := by omega
      have hi00 : (0 : Int) ≤ (i : Int) := by omega
      clear hc hO hv
      go_wp2
      go_loopw [5] (fun av wr => ∃ (k : Nat), k ≤ O.length ∧ av = .int .i64 k ∧ Hid (SoS w wr g c2 O) ∧ Hid (∀ j, j < k → O[j]?.getD 0 < v)) (fun av _ => O.length - (intOf av).toNat)
      case atStart => exact ⟨0, Nat.zero_le _, rfl, HS, hide (fun j hj => by omega)⟩
      case round =>
        clear HS
        rename_i wr0
        obtain ⟨k, hk, rfl, HS, HLE⟩ := hrel
        have x0 : wr.cell? ⟨b, off + i, none⟩ = some (.int .i64 v) := by
          have h := (HS.out.2.cell (p := ⟨b, off + i, none⟩) hbs).trans (HCX.out i (by rw [HX.out]; exact hlt))
          rw [HV.out] at h
          exact h
        by_cases hkl : k < O.length
        · have o0 := intR_cellsS HS.out.1 k hkl
          have hkd : decide ((k : Int) < (O.length : Int)) = true := decide_eq_true (by omega)
          have hkI : (k : Int) < (O.length : Int) := by omega
          have hk00 : (0 : Int) ≤ (k : Int) := by omega
          obtain ⟨ov, hov⟩ : ∃ ov, O[k]?.getD 0 = ov := ⟨_, rfl⟩
          rw [hov] at o0
          by_cases hlv : ov < v
          · have hld : decide (ov < v) = true := decide_eq_true hlv
            have HLE2 : Hid (∀ j, j < k + 1 → O[j]?.getD 0 < v) := hide (fun j hj => by
              by_cases e : j = k
              · subst e; rw [hov]; exact hlv
              · exact HLE.out j (by omega))
            clear hov hlv
            go_wp2
            go_quiet (fail)
            go_wp2
            go_roundw
            case rel => exact ⟨k + 1, by omega, by go_num, hide (so_drew HS.out nq), HLE2⟩
            case measure => simp [intOf]; omega
          · have hld : decide (ov < v) = false := decide_eq_false hlv
            by_cases hev : ov = v
            · have hed : (ov == v) = true := by rw [beq_iff_eq]; exact hev
              have HIN := hide (HST.out.trans (insL_dup hkl HLE.out (hov.trans hev)))
              clear hov hlv hev
              go_wp2
              go_quiet (fail)
              go_wp2
              go_quiet (fail)
              go_wp2
              go_roundw
              case rel => exact ⟨i + 1, g, c2, by omega, by go_num, by rw [HIN.out], by rw [HIN.out]; exact hide (so_drew HS.out _)⟩
              case measure => simp [intOf]; omega
            · have hed : (ov == v) = false := by rw [beq_eq_false_iff_ne]; exact hev
              have HIN := hide (HST.out.trans (insL_at (by omega) HLE.out (fun _ => by rw [hov]; omega)))
              clear hov hlv hev
              go_wp2
              go_quiet (fail)
              obtain ⟨q1, e1⟩ : ∃ q1, q1 = nq := ⟨_, rfl⟩
              subst e1
              go_wp2
              go_quiet (fail)
              have hkc : O.length ≤ c2 := intR_cap HS.out.1
              have hkcI : (k : Int) ≤ (c2 : Int) := by omega
              have hkoI : (k : Int) ≤ (O.length : Int) := by omega
              have hk00' : (0 : Int) ≤ (k : Int) := by omega
              have HQ0 := hide (so_drew (so_drew HS.out q1) nq)
              have x1 : ((wr.drewN q1).drewN nq).cell? ⟨b, off + i, none⟩ = some (.int .i64 v) := x0
              obtain ⟨wq, hwq⟩ : ∃ wq, (wr.drewN q1).drewN nq = wq := ⟨_, rfl⟩
              rw [hwq] at HQ0 x1
              have hgl : g < wq.heap.size := intR_lt HQ0.out.1
              have hwl : w.heap.size ≤ wq.heap.size := HQ0.out.2.size
              have hbl : b < wq.heap.size := Nat.lt_of_lt_of_le hbs hwl
              rw [hwq]
              have HQA := hide (fun (o : Obj) => so_alloc HQ0.out o)
              have x2 : ∀ o, (wq.alloc o).cell? ⟨b, off + i, none⟩ = some (.int .i64 v) := fun o => (World.cell?_of_block (((Below.refl wq.heap.size wq).alloc (Nat.le_refl _) o).block b hbl)).trans x1
              have HX2 := hide x2
              clear hwq x0 x1 x2
              go_wp2_with (first
                | (at_builtin; refine wpList_append_src (by rfl) (.tmp 46) (.tmp 49) 30 (by rfl) wq.heap.size 2 i0 (.int .i64 0) 1 8 Tryd.underlying30 hi hz0 hz1 hz2 rfl (by decide) (.slice (some ⟨wq.heap.size, 0, none⟩) 0 0) 0 [] (by rfl) (World.ownsRow_made (base := wq.heap.size) (e := 2) (size := 1) wq #[] 0 (Nat.le_refl _) (Nat.zero_le _) rfl) (some ⟨g, 0, none⟩) k c2 ((O.take k).map (Value.int .i64)) (by rfl) (by rw [List.length_map, List.length_take]; omega) (fun _ => ⟨_, rfl, row_src (fun j hj => by rw [List.length_take] at hj; rw [List.getElem?_take_of_lt (by omega), Nat.zero_add]; exact intR_cellsS (HQA.out _).1 j (by omega))⟩) (ints_one _) (by unfold maxLen; omega) (by omega) (by simp) ?_; intro a9 c9 w9 hown9 hgr9; rw [Nat.zero_add, List.nil_append] at hown9; have HS9 := hide (so_grown (wq := wq) (HQA.out _) hgr9 hgl (fun k hk => by cases hk; exact Nat.le_refl _) hwl); have hs9 : wq.heap.size ≤ w9.heap.size := Nat.le_trans (by simp) hgr9.size; have x3 : w9.cell? ⟨b, off + i, none⟩ = some (.int .i64 v) := cell_gr (wq := wq) (HX2.out _) hgr9 hbl (by simp) (fun k hk => by cases hk; exact Nat.le_refl _); have HO9 := hide hown9; clear hown9 hgr9)
                | (at_builtin; refine wpList_append_src (by rfl) (.tmp 51) (.tmp 56) 30 (by rfl) wq.heap.size 2 i0 (.int .i64 0) 1 8 Tryd.underlying30 hi hz0 hz1 hz2 rfl (by decide) (.slice a9 k c9) k ((O.take k).map (Value.int .i64)) (by first | rfl | simp [Act.eval]) (HO9.out.alloc _) (some ⟨w9.heap.size, 0, none⟩) 1 1 [.int .i64 v] (by rfl) rfl (fun _ => ⟨_, rfl, fun j u hj => gOne_new w9 _ _ j u hj⟩) (gOne_list _ _) (by unfold maxLen; omega) (by omega) (by simp; omega) ?_; intro a10 c10 w10 hown10 hgr10; have HS10 := hide (so_grown (wq := wq) (so_alloc HS9.out _) hgr10 hgl (fun k hk => (HO9.out.lt k hk).1) hwl); have hs10 : wq.heap.size ≤ w10.heap.size := Nat.le_trans (Nat.le_trans hs9 (by simp)) hgr10.size; have HO10 := hide hown10; clear hown10 hgr10)
                | (at_builtin; refine wpList_append_src (by rfl) (.tmp 58) (.tmp 61) 30 (by rfl) wq.heap.size 2 i0 (.int .i64 0) 1 8 Tryd.underlying30 hi hz0 hz1 hz2 rfl (by decide) (.slice a10 (k + 1) c10) (k + 1) ((O.take k).map (Value.int .i64) ++ [.int .i64 v]) (by rfl) HO10.out (some ⟨g, k, none⟩) (O.length - k) (c2 - k) ((O.drop k).map (Value.int .i64)) (by first | rfl | (simp [Act.eval]; omega)) (by rw [List.length_map, List.length_drop]; omega) (fun _ => ⟨_, rfl, row_src (fun j hj => by rw [List.length_drop] at hj; rw [List.getElem?_drop]; exact intR_cellsS HS10.out.1 (k + j) (by omega))⟩) (ints_one _) (by unfold maxLen; omega) (by omega) hs10 ?_; intro a11 c11 w11 hown11 hgr11; have HS11 := hide (so_grown (wq := wq) HS10.out hgr11 hgl (fun k hk => (HO10.out.lt k hk).1) hwl); have HO11 := hide hown11; clear hown11 hgr11)
                | fail)
              have hlenF : k + 1 + (O.length - k) = (O.take k ++ v :: O.drop k).length := by rw [List.length_append, List.length_take, List.length_cons, List.length_drop]; omega
              have hmapF : (O.take k).map (Value.int .i64) ++ [.int .i64 v] ++ (O.drop k).map (Value.int .i64) = (O.take k ++ v :: O.drop k).map (Value.int .i64) := by rw [List.map_append, List.map_cons, List.append_assoc]; rfl
              have HF := HO11.out
              rw [hlenF, hmapF, ← HIN.out] at HF
              have hpos : 0 < (srtL (xs.take (i + 1))).length := by rw [HIN.out, ← hlenF]; omega
              obtain ⟨g3, cap3, e3, hB3, hl3⟩ := HF.form hpos
              have HFF := hide (⟨gOwn_lower HF hwl, HS11.out.2⟩ : w11.ownsRow w.heap.size 2 1 (.slice a11 (srtL (xs.take (i + 1))).length c11) (srtL (xs.take (i + 1))).length ((srtL (xs.take (i + 1))).map (Value.int .i64)) ∧ Below w.heap.size w w11)
              simp only [Value.slice.injEq] at e3
              obtain ⟨rfl, -, rfl⟩ := e3
              clear HF
              go_roundw
              case rel => exact ⟨i + 1, g3, c11, by omega, by go_num, by rw [HIN.out, ← hlenF], hide HFF.out⟩
              case measure => simp [intOf]; omega
        · have hkd : decide ((k : Int) < (O.length : Int)) = false := decide_eq_false (by omega)
          have HIN := hide (HST.out.trans (insL_at (by omega) HLE.out (fun h => absurd h hkl)))
          go_wp2
          go_quiet (fail)
          obtain ⟨q1, e1⟩ : ∃ q1, q1 = nq := ⟨_, rfl⟩
          subst e1
          go_wp2
          go_quiet (fail)
          have hkc : O.length ≤ c2 := intR_cap HS.out.1
          have hkcI : (k : Int) ≤ (c2 : Int) := by omega
          have hkoI : (k : Int) ≤ (O.length : Int) := by omega
          have hk00' : (0 : Int) ≤ (k : Int) := by omega
          have HQ0 := hide (so_drew (so_drew HS.out q1) nq)
          have x1 : ((wr.drewN q1).drewN nq).cell? ⟨b, off + i, none⟩ = some (.int .i64 v) := x0
          obtain ⟨wq, hwq⟩ : ∃ wq, (wr.drewN q1).drewN nq = wq := ⟨_, rfl⟩
          rw [hwq] at HQ0 x1
          have hgl : g < wq.heap.size := intR_lt HQ0.out.1
          have hwl : w.heap.size ≤ wq.heap.size := HQ0.out.2.size
          have hbl : b < wq.heap.size := Nat.lt_of_lt_of_le hbs hwl
          rw [hwq]
          have HQA := hide (fun (o : Obj) => so_alloc HQ0.out o)
          have x2 : ∀ o, (wq.alloc o).cell? ⟨b, off + i, none⟩ = some (.int .i64 v) := fun o => (World.cell?_of_block (((Below.refl wq.heap.size wq).alloc (Nat.le_refl _) o).block b hbl)).trans x1
          have HX2 := hide x2
          clear hwq x0 x1 x2
          go_wp2_with (first
            | (at_builtin; refine wpList_append_src (by rfl) (.tmp 46) (.tmp 49) 30 (by rfl) wq.heap.size 2 i0 (.int .i64 0) 1 8 Tryd.underlying30 hi hz0 hz1 hz2 rfl (by decide) (.slice (some ⟨wq.heap.size, 0, none⟩) 0 0) 0 [] (by rfl) (World.ownsRow_made (base := wq.heap.size) (e := 2) (size := 1) wq #[] 0 (Nat.le_refl _) (Nat.zero_le _) rfl) (some ⟨g, 0, none⟩) k c2 ((O.take k).map (Value.int .i64)) (by rfl) (by rw [List.length_map, List.length_take]; omega) (fun _ => ⟨_, rfl, row_src (fun j hj => by rw [List.length_take] at hj; rw [List.getElem?_take_of_lt (by omega), Nat.zero_add]; exact intR_cellsS (HQA.out _).1 j (by omega))⟩) (ints_one _) (by unfold maxLen; omega) (by omega) (by simp) ?_; intro a9 c9 w9 hown9 hgr9; rw [Nat.zero_add, List.nil_append] at hown9; have HS9 := hide (so_grown (wq := wq) (HQA.out _) hgr9 hgl (fun k hk => by cases hk; exact Nat.le_refl _) hwl); have hs9 : wq.heap.size ≤ w9.heap.size := Nat.le_trans (by simp) hgr9.size; have x3 : w9.cell? ⟨b, off + i, none⟩ = some (.int .i64 v) := cell_gr (wq := wq) (HX2.out _) hgr9 hbl (by simp) (fun k hk => by cases hk; exact Nat.le_refl _); have HO9 := hide hown9; clear hown9 hgr9)
            | (at_builtin; refine wpList_append_src (by rfl) (.tmp 51) (.tmp 56) 30 (by rfl) wq.heap.size 2 i0 (.int .i64 0) 1 8 Tryd.underlying30 hi hz0 hz1 hz2 rfl (by decide) (.slice a9 k c9) k ((O.take k).map (Value.int .i64)) (by first | rfl | simp [Act.eval]) (HO9.out.alloc _) (some ⟨w9.heap.size, 0, none⟩) 1 1 [.int .i64 v] (by rfl) rfl (fun _ => ⟨_, rfl, fun j u hj => gOne_new w9 _ _ j u hj⟩) (gOne_list _ _) (by unfold maxLen; omega) (by omega) (by simp; omega) ?_; intro a10 c10 w10 hown10 hgr10; have HS10 := hide (so_grown (wq := wq) (so_alloc HS9.out _) hgr10 hgl (fun k hk => (HO9.out.lt k hk).1) hwl); have hs10 : wq.heap.size ≤ w10.heap.size := Nat.le_trans (Nat.le_trans hs9 (by simp)) hgr10.size; have HO10 := hide hown10; clear hown10 hgr10)
            | (at_builtin; refine wpList_append_src (by rfl) (.tmp 58) (.tmp 61) 30 (by rfl) wq.heap.size 2 i0 (.int .i64 0) 1 8 Tryd.underlying30 hi hz0 hz1 hz2 rfl (by decide) (.slice a10 (k + 1) c10) (k + 1) ((O.take k).map (Value.int .i64) ++ [.int .i64 v]) (by rfl) HO10.out _ (O.length - k) _ ((O.drop k).map (Value.int .i64)) (by rfl) (by rw [List.length_map, List.length_drop]; omega) (fun h => absurd h (by omega)) (ints_one _) (by unfold maxLen; omega) (by omega) hs10 ?_; intro a11 c11 w11 hown11 hgr11; have HS11 := hide (so_grown (wq := wq) HS10.out hgr11 hgl (fun k hk => (HO10.out.lt k hk).1) hwl); have HO11 := hide hown11; clear hown11 hgr11)
            | fail)
          all_goals
            have hlenF : k + 1 + (O.length - k) = (O.take k ++ v :: O.drop k).length := by rw [List.length_append, List.length_take, List.length_cons, List.length_drop]; omega
            have hmapF : (O.take k).map (Value.int .i64) ++ [.int .i64 v] ++ (O.drop k).map (Value.int .i64) = (O.take k ++ v :: O.drop k).map (Value.int .i64) := by rw [List.map_append, List.map_cons, List.append_assoc]; rfl
            have HF := HO11.out
            rw [hlenF, hmapF, ← HIN.out] at HF
            have hpos : 0 < (srtL (xs.take (i + 1))).length := by rw [HIN.out, ← hlenF]; omega
            obtain ⟨g3, cap3, e3, hB3, hl3⟩ := HF.form hpos
            have HFF := hide (⟨gOwn_lower HF hwl, HS11.out.2⟩ : w11.ownsRow w.heap.size 2 1 (.slice a11 (srtL (xs.take (i + 1))).length c11) (srtL (xs.take (i + 1))).length ((srtL (xs.take (i + 1))).map (Value.int .i64)) ∧ Below w.heap.size w w11)
            simp only [Value.slice.injEq] at e3
            obtain ⟨rfl, -, rfl⟩ := e3
            clear HF
            go_roundw
            case rel => exact ⟨i + 1, g3, c11, by omega, by go_num, by rw [HIN.out, ← hlenF], hide HFF.out⟩
            case measure => simp [intOf]; omega
    · have hin : i = n := by omega
      subst hin
      have e : xs.take i = xs := by rw [← HX.out]; exact List.take_length
      rw [e] at HS ⊢
      go_wp2
      go_ret
      exact ⟨_, c2, rfl, HS.out.1, HS.out.2⟩
end Go.Proofs.YtfohfljdgmlibaaDoor

/-
  Contract: what a node tells of its rows, and what follows what in them (the program's closure that calls itself).
-/
namespace Go.Proofs.YtfohfljdgmlibaaDoor
open Go.RowKit Go.Joins
set_option linter.unusedVariables false
set_option linter.unusedSimpArgs false
/-- The closure that tells. -/
def tellV (PB T TB : Nat) : Value := .func (.func 66) #[] #[.pointer (some ⟨PB, 0, none⟩), .pointer (some ⟨T, 0, none⟩), .pointer (some ⟨TB, 0, none⟩)]
/-- What stands while a model is gone through: the library's table, the captured variables, the model. -/
structure TkW (w : World) (D : Pn) (n b0 off cap PB T TB B0 : Nat) : Prop where
  tz : TzT w
  pb : CellsAt w PB #[.slice (some ⟨b0, off, none⟩) n cap]
  tb : CellsAt w TB #[tellV PB T TB]
  row : PnRow w b0 off D B0
  hb0 : b0 < B0
  hB : B0 ≤ T
  hsz : B0 ≤ w.heap.size
  htz : 0 < B0
  hPB : PB ≠ T
  hTB : TB ≠ T
theorem tkW_go {w w' : World} {D : Pn} {n b0 off cap PB T TB B0 : Nat} (h : TkW w D n b0 off cap PB T TB B0) (hg : w.grownBy w' (some T)) : TkW w' D n b0 off cap PB T TB B0 :=
  have hb := grown_below hg h.hB h.hsz
  ⟨fun j hj => (hb.cell (p := ⟨0, j, none⟩) h.htz).trans (h.tz j hj), cellsAt_grown h.pb hg h.hPB, cellsAt_grown h.tb hg h.hTB, pnRow_go h.row h.hb0 hb, h.hb0, h.hB, Nat.le_trans h.hsz hg.size, h.htz, h.hPB, h.hTB⟩
/-- What a node answers. -/
def TellA (D : Pn) (i T : Nat) (mv : Value) (F : Nat → Nat) (e : Nat) (w : World) (r : Ending) (w' : World) : Prop := ∃ (f l : Nat) (F' : Nat → Nat), r = .returned (.agg #[.bool (nl D i), .int .u64 (f : Int), .int .u64 (l : Int)]) ∧ BitS f (ed D false i) ∧ BitS l (ed D true i) ∧ LkB F F' (lk D i) ∧ CellsAt w' T (tkC mv F' e) ∧ w.grownBy w' (some T)
theorem tkW_drew {w : World} {D : Pn} {n b0 off cap PB T TB B0 : Nat} (h : TkW w D n b0 off cap PB T TB B0) : TkW w.drew D n b0 off cap PB T TB B0 := tkW_go h ⟨rfl, rfl, rfl, Nat.le_refl _, fun _ _ _ => rfl⟩
/-- What a call has in memory of its own while it goes through a node: its answer, the node, what the node tells so far, and the ways. -/
def TkB (w wr : World) (T : Nat) (rs nd : Array Value) (e : Bool) (f l : Nat) (mv : Value) (F : Nat → Nat) (e0 : Nat) : Prop := CellsAt wr w.heap.size rs ∧ CellsAt wr (w.heap.size + 1) nd ∧ CellsAt wr (w.heap.size + 1 + 1) #[.bool e, .int .u64 (f : Int), .int .u64 (l : Int)] ∧ CellsAt wr T (tkC mv F e0) ∧ w.grownBy wr (some T)
theorem tkB_go {w wr w2 : World} {T : Nat} {rs nd : Array Value} {e : Bool} {f l : Nat} {mv : Value} {F F2 : Nat → Nat} {e0 : Nat} (h : TkB w wr T rs nd e f l mv F e0) (hg : wr.grownBy w2 (some T)) (hc : CellsAt w2 T (tkC mv F2 e0)) (hT : T < w.heap.size) : TkB w w2 T rs nd e f l mv F2 e0 :=
  ⟨cellsAt_grown h.1 hg (by omega), cellsAt_grown h.2.1 hg (by omega), cellsAt_grown h.2.2.1 hg (by omega), hc, grown_trans9 h.2.2.2.2 hg⟩
theorem tkB_drew {w wr : World} {T : Nat} {rs nd : Array Value} {e : Bool} {f l : Nat} {mv : Value} {F : Nat → Nat} {e0 : Nat} (h : TkB w wr T rs nd e f l mv F e0) : TkB w wr.drew T rs nd e f l mv F e0 := ⟨h.1, h.2.1, h.2.2.1, h.2.2.2.1, grown_drew9 h.2.2.2.2⟩
theorem tkB_set {w wr : World} {T : Nat} {rs nd : Array Value} {e e' : Bool} {f l f' l' : Nat} {mv : Value} {F : Nat → Nat} {e0 : Nat} (h : TkB w wr T rs nd e f l mv F e0) (hT : T < w.heap.size) : TkB w (((wr.setCell ⟨w.heap.size + 1 + 1, 0, none⟩ (.bool e')).setCell ⟨w.heap.size + 1 + 1, 1, none⟩ (.int .u64 (f' : Int))).setCell ⟨w.heap.size + 1 + 1, 2, none⟩ (.int .u64 (l' : Int))) T rs nd e' f' l' mv F e0 := by
  obtain ⟨h1, h2, h3, h4, h5⟩ := h
  refine ⟨?_, ?_, ?_, ?_, ?_⟩
  · refine cellsAt_far (cellsAt_far (cellsAt_far h1 _ ?_) _ ?_) _ ?_ <;> (simp only []; omega)
  · refine cellsAt_far (cellsAt_far (cellsAt_far h2 _ ?_) _ ?_) _ ?_ <;> (simp only []; omega)
  · exact cellsAt_set (cellsAt_set (cellsAt_set h3 _) _) _
  · refine cellsAt_far (cellsAt_far (cellsAt_far h4 _ ?_) _ ?_) _ ?_ <;> (simp only []; omega)
  · refine grown_far (grown_far (grown_far h5 _ ?_) _ ?_) _ ?_ <;> (simp only []; omega)
theorem tkB_set0 {w wr : World} {T : Nat} {rs nd : Array Value} {e e' : Bool} {f l : Nat} {mv : Value} {F : Nat → Nat} {e0 : Nat} (h : TkB w wr T rs nd e f l mv F e0) (hT : T < w.heap.size) : TkB w (wr.setCell ⟨w.heap.size + 1 + 1, 0, none⟩ (.bool e')) T rs nd e' f l mv F e0 := by
  obtain ⟨h1, h2, h3, h4, h5⟩ := h
  exact ⟨cellsAt_far h1 _ (by simp only []; omega), cellsAt_far h2 _ (by simp only []; omega), cellsAt_set h3 _, cellsAt_far h4 _ (by simp only []; omega), grown_far h5 _ (by simp only []; omega)⟩
theorem tkB_own {w wr : World} {T : Nat} {rs nd : Array Value} {e : Bool} {f l : Nat} {mv : Value} {F : Nat → Nat} {e0 : Nat} (h : TkB w wr T rs nd e f l mv F e0) : wr.cell? ⟨w.heap.size + 1 + 1, 0, none⟩ = some (.bool e) ∧ wr.cell? ⟨w.heap.size + 1 + 1, 1, none⟩ = some (.int .u64 (f : Int)) ∧ wr.cell? ⟨w.heap.size + 1 + 1, 2, none⟩ = some (.int .u64 (l : Int)) ∧ wr.frozen? ⟨w.heap.size + 1 + 1, 0, none⟩ = false ∧ wr.frozen? ⟨w.heap.size + 1 + 1, 1, none⟩ = false ∧ wr.frozen? ⟨w.heap.size + 1 + 1, 2, none⟩ = false :=
  ⟨cellsAt_cell h.2.2.1 0, cellsAt_cell h.2.2.1 1, cellsAt_cell h.2.2.1 2, cellsAt_frozen h.2.2.1 0, cellsAt_frozen h.2.2.1 1, cellsAt_frozen h.2.2.1 2⟩
/-- The answer is written. -/
theorem tkB_end {w wr : World} {T : Nat} {rs nd : Array Value} {e : Bool} {f l : Nat} {mv : Value} {F : Nat → Nat} {e0 : Nat} {a b c : Value} (h : TkB w wr T rs nd e f l mv F e0) (hT : T < w.heap.size) : CellsAt (((wr.setCell ⟨w.heap.size, 0, none⟩ a).setCell ⟨w.heap.size, 1, none⟩ b).setCell ⟨w.heap.size, 2, none⟩ c) T (tkC mv F e0) := by
  refine cellsAt_far (cellsAt_far (cellsAt_far h.2.2.2.1 _ ?_) _ ?_) _ ?_ <;> (simp only []; omega)
theorem tkB_end2 {w wr : World} {T : Nat} {rs nd : Array Value} {e : Bool} {f l : Nat} {mv : Value} {F : Nat → Nat} {e0 : Nat} {a b c : Value} (h : TkB w wr T rs nd e f l mv F e0) (hT : T < w.heap.size) : w.grownBy (((wr.setCell ⟨w.heap.size, 0, none⟩ a).setCell ⟨w.heap.size, 1, none⟩ b).setCell ⟨w.heap.size, 2, none⟩ c) (some T) := by
  refine grown_far (grown_far (grown_far h.2.2.2.2 _ ?_) _ ?_) _ ?_ <;> (simp only []; omega)
theorem i_often (oc : Int) (w : World) : Calls Tryd.prog 69 #[.int .i64 oc] w fun r w' => r = .returned (.bool (decide (oc = 2 ∨ oc = 3))) ∧ w' = w := by
  by_cases h1 : oc = 2
  · subst h1
    go_enter Tryd.func69, Tryd.ntmps69
    go_wp2
    go_ret
    exact ⟨rfl, rfl⟩
  · have f1 : (oc == 2) = false := by simpa using h1
    by_cases h2 : oc = 3
    · subst h2
      go_enter Tryd.func69, Tryd.ntmps69
      go_wp2
      go_ret
      exact ⟨rfl, rfl⟩
    · have f2 : (oc == 3) = false := by simpa using h2
      have HD : Hid (decide (oc = 2 ∨ oc = 3) = false) := hide (by simp [h1, h2])
      clear h1 h2
      go_enter Tryd.func69, Tryd.ntmps69
      go_wp2
      go_ret
      exact ⟨by rw [HD.out]; rfl, rfl⟩
theorem i_opt9 (oc : Int) (w : World) : Calls Tryd.prog 71 #[.int .i64 oc] w fun r w' => r = .returned (.bool (decide (oc = 1 ∨ oc = 2))) ∧ w' = w := by
  by_cases h1 : oc = 1
  · subst h1
    go_enter Tryd.func71, Tryd.ntmps71
    go_wp2
    go_ret
    exact ⟨rfl, rfl⟩
  · have f1 : (oc == 1) = false := by simpa using h1
    by_cases h2 : oc = 2
    · subst h2
      go_enter Tryd.func71, Tryd.ntmps71
      go_wp2
      go_ret
      exact ⟨rfl, rfl⟩
    · have f2 : (oc == 2) = false := by simpa using h2
      have HD : Hid (decide (oc = 1 ∨ oc = 2) = false) := hide (by simp [h1, h2])
      clear h1 h2
      go_enter Tryd.func71, Tryd.ntmps71
      go_wp2
      go_ret
      exact ⟨by rw [HD.out]; rfl, rfl⟩
end Go.Proofs.YtfohfljdgmlibaaDoor
