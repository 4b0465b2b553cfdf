/-
  Contract: the drawn class and number: whatever the code is, a node with at most three ranges of its own, and a number.
-/
import Derived.Test.YtffgghbnkphieahDrawCls
import Derived.Deep.RegionLaw
namespace Go.Proofs.Ytffgghbnkphieah
open Go.RowKit Go.Joins
set_option linter.unusedVariables false
set_option linter.unusedSimpArgs false
theorem dr_dr {w : World} {N : Nat} {sa : Option Addr} {m c : Nat} (h : DR w N sa m c) : DR w.drew N sa m c := dr_grown (row := none) h ⟨rfl, rfl, rfl, Nat.le_refl _, fun _ _ _ => rfl⟩ (fun j hj => by cases hj)
theorem dr_set {w : World} {N : Nat} {sa : Option Addr} {m c : Nat} (h : DR w N sa m c) (i : Nat) (v : Value) : DR (w.setCell ⟨N, i, none⟩ v) N sa m c :=
  dr_grown (row := some N) h ⟨rfl, rfl, rfl, by simp [World.setCell], fun k hk hne => heap_setCell_far _ _ _ _ (fun e => hne (by rw [← e]))⟩ (fun j hj => by cases hj; exact Nat.le_refl _)
theorem ret_cell_tmp {P : Program} {fn : Func} {p u : Tmp} {ty : TypeId} (h : fn.results = #[.cell p ty, .tmp u]) (tmps : Array Value) (w : World) (g : Nat) (t : TypeId) (cs : Array Value) (fr : Nat × Nat) (d : TypeDesc)
    (hp : tmps.getD p undef = .pointer (some ⟨g, 0, none⟩)) (hg : w.heap[g]? = some (.cells cs t fr))
    (hu : P.underlying ty = some d) (hd : (match d with | .struct _ | .array _ _ => true | _ => false) = true) (hi : (P.info? ty).map (·.size) = some cs.size) :
    (results fn tmps).run P w = .ok (.tuple #[.agg cs, tmps.getD u undef]) w := by
  rw [results_cell_tmp h]
  simp only [hp, asAddr, Sem.run_pure, Result.andThen, run_loadVar_row w g t ty cs fr d hg hu hd hi]
theorem dr_ne {w : World} {N : Nat} {sa : Option Addr} {m c : Nat} (h : DR w N sa m c) {R : Nat} (hR : R ≤ N) : ∀ x, sa = some x → x.block ≠ R := by
  intro x hx e
  have := dr_block h x.block (by rw [hx]; rfl)
  omega
theorem rng_sets {w : World} {R : Nat} {sa : Option Addr} {m : Nat} {L H : Nat → Int} {B : Nat} {v0 v1 v2 v3 v4 v5 v6 : Value} (h : RngAt w sa m L H B) (hne : ∀ x, sa = some x → x.block ≠ R) :
    RngAt (((((((w.setCell ⟨R, 0, none⟩ v0).setCell ⟨R, 1, none⟩ v1).setCell ⟨R, 2, none⟩ v2).setCell ⟨R, 3, none⟩ v3).setCell ⟨R, 4, none⟩ v4).setCell ⟨R, 5, none⟩ v5).setCell ⟨R, 6, none⟩ v6) sa m L H B := fun h0 => by
  obtain ⟨b, off, e, hb, hc⟩ := h h0
  have hn : R ≠ b := fun e2 => hne _ e (by rw [e2])
  refine ⟨b, off, e, hb, fun j hj => ⟨?_, ?_⟩⟩
  · iterate 7 (rw [World.cell?_setCell_far _ _ _ _ (by simpa using hn)])
    exact (hc j hj).1
  · iterate 7 (rw [World.cell?_setCell_far _ _ _ _ (by simpa using hn)])
    exact (hc j hj).2
theorem src_up {w : World} {a : Option Addr} {zs : List Int} {B B' : Nat} (h : SrcAt w a zs B) (hB : B ≤ B') : SrcAt w a zs B' := by
  intro hne
  obtain ⟨b, off, e, hb, hc⟩ := h hne
  exact ⟨b, off, e, by omega, hc⟩
set_option maxRecDepth 100000 in
set_option maxHeartbeats 4000000 in
theorem d_class (a : Option Addr) (n cap : Nat) (zs : List Int) (w : World) (hl : zs.length = n) (hz : ∀ x ∈ zs, 0 ≤ x ∧ x ≤ 255) (hn : n ≤ 1048576) (hs : SrcAt w a zs w.heap.size) :
    Calls Try.prog 5 #[.slice a n cap] w fun e w' => ∃ (kd : Int) (nt : Bool) (sa : Option Addr) (m c : Nat) (L H : Nat → Int) (r : Int), e = .returned (.tuple #[.agg #[.int .i64 kd, .bool nt, .slice sa m c, .int .i64 0, .int .i64 0, .int .i64 0, .int .i64 0], .int .i64 r]) ∧ m ≤ 3 ∧ RngAt w' sa m L H w'.heap.size ∧ Below w.heap.size w w' := by
  obtain ⟨i0, hi, hz0, hz1, hz2⟩ := info_parts infoR
  have HS := hide hs
  have HL := hide hl
  have HZ := hide hz
  clear hs hl hz
  go_enter Try.func5, Try.ntmps5
  go_wp2_with fail
  refine (d_open a n cap zs _ HL.out HZ.out hn (src_up (src_grown HS.out (Nat.le_refl _) (World.grownBy_alloc w _ none) (fun k hk => by cases hk)) (by simp))).mono ?_
  rintro e w1 ⟨rfl, hrd, hb1⟩
  have hR1 := nodeAt_go (nodeAt_new w 0 false none 0 0 0 0 0 0 _) hb1
  have hB1 : Below w.heap.size w w1 := ((Below.refl w.heap.size w).alloc (Nat.le_refl _) _).trans (hb1.mono (by simp))
  have hG : (w.alloc (.cells #[.int .i64 0, .bool false, .slice none 0 0, .int .i64 0, .int .i64 0, .int .i64 0, .int .i64 0] 26)).heap.size = w.heap.size + 1 := by simp
  rw [hG] at hrd
  have HRD := hide hrd
  have HR1 := hide hR1
  have HB1 := hide hB1
  clear hrd hR1 hB1 hb1 hG
  go_wp2_with fail
  refine (d_once (w.heap.size + 1) a n cap zs 3 _ (by omega) (by omega) HRD.out).mono ?_
  rintro e w2 ⟨nt, rfl, hd⟩
  have HDS : Hid (DS w (w2.alloc (.cells #[.int .i64 2, .bool nt, .slice none 0 0, .int .i64 0, .int .i64 0, .int .i64 0, .int .i64 0] 26)) (w.heap.size + 1) w2.heap.size a n cap zs 2 nt none 0 0) := by
    have hlt : w.heap.size + 1 < w2.heap.size := rd_lt hd.1
    have hB2 : Below w.heap.size w w2 := HB1.out.grown hd.2 HB1.out.size (fun x hx => by cases hx; omega)
    have st : Below w2.heap.size w2 (w2.alloc (.cells #[.int .i64 2, .bool nt, .slice none 0 0, .int .i64 0, .int .i64 0, .int .i64 0, .int .i64 0] 26)) := (Below.refl _ _).alloc (Nat.le_refl _) _
    exact ⟨rd_alloc hd.1 _, ⟨by omega, hlt⟩, nodeAt_new _ _ _ _ _ _ _ _ _ _ _, nodeAt_go (node_grown HR1.out hd.2 (fun e => by simp at e)) st, hB2.trans (st.mono hB2.size)⟩
  clear hd HRD HR1 HB1
  go_wp2_with fail
  refine (d_below (w.heap.size + 1) a n cap zs 3 _ (by omega) (by omega) HDS.out.1).mono ?_
  rintro e w3 ⟨x, hx0, hx1, rfl, hd⟩
  replace HDS := hide (ds_drew HDS.out hd)
  have HDR : Hid (DR w3 w2.heap.size none 0 0) := ⟨[], fun _ => 0, fun _ => 0, World.ownsRow_nil _ _ _ _, fun j h => by omega⟩
  clear hd
  go_wp2_with fail
  go_loopw [6, 7] (fun vi vl wr => ∃ (k m c : Nat) (sa : Option Addr), vi = .int .i64 k ∧ k + m ≤ 3 ∧ Hid (DS w wr (w.heap.size + 1) w2.heap.size a n cap zs 2 nt sa m c) ∧ Hid (DR wr w2.heap.size sa m c)) (fun vi _ _ => (intOf vi).toNat)
  case atStart => exact ⟨(1 + x).toNat, 0, 0, none, by congr 1; omega, by omega, HDS, HDR⟩
  case round =>
    clear HDS HDR
    obtain ⟨k, m, c, sa, rfl, hkm, HDS, HDR⟩ := hrel
    by_cases hk : 0 < k
    · go_wp2_with fail
      refine (d_below (w.heap.size + 1) a n cap zs 20 _ (by omega) (by omega) HDS.out.1).mono ?_
      rintro e w4 ⟨y, hy0, hy1, rfl, hd⟩
      replace HDR := hide (dr_grown HDR.out hd.2 (fun j hj => by cases hj; have := HDS.out.2.1.2; omega))
      replace HDS := hide (ds_drew HDS.out hd)
      clear hd
      have hS0 := ds_all (ds_dr HDS.out)
      go_wp2_with fail
      have hc4 : w4.drew.cell? ⟨w2.heap.size, 2, none⟩ = some (.slice sa m c) := hS0.2
      go_region_law (first
          | (go_simp; go_at_call 11; refine (d_below (w.heap.size + 1) a n cap zs 6 _ (by omega) (by omega) (ds_dr HDS.out).1).mono ?_; rintro e w5 ⟨z, hz0', hz1', rfl, hd⟩; have HT1 := hide (ds_drew (ds_dr HDS.out) hd); have HO1 := hide (dr_grown (dr_dr HDR.out) hd.2 (fun j hj => by cases hj; have := HDS.out.2.1.2; omega)); obtain ⟨xs, LL, HH, hown5, hp5⟩ := HO1.out; have HOW := hide hown5; have HP5 := hide hp5; have hN5 : w2.heap.size + 1 ≤ w5.heap.size := ds_lt HT1.out; have hc5 := (ds_all HT1.out).2; have hc5a : ∀ o, (w5.alloc o).cell? ⟨w2.heap.size, 2, none⟩ = some (.slice sa m c) := fun o => (ds_all (ds_alloc HT1.out o)).2; clear hd hown5 hp5)
          | (refine step_append_lies _ (by rfl) _ _ _ (by rfl) (w2.heap.size + 1) 37 i0 _ 2 16 Try.underlying24 hi hz0 hz1 hz2 rfl (by omega) (.slice sa m c) m xs (by rfl) (HOW.out.alloc _) ⟨w5.heap.size, 0, none⟩ 1 1 [.int .i64 (90 + y), .int .i64 (IntKind.i64.wrap (90 + y + z))] (by rfl) (by rfl) (World.news_of_block (cs := #[.int .i64 (90 + y), .int .i64 (IntKind.i64.wrap (90 + y + z))]) (t := 37) (fr := (0, 0)) (heap_alloc_new w5 _)) (by simp [Value.oneCell']) (by omega) (by unfold maxLen; omega) (by omega) (by simp; omega) (w5.heap.size + 1) (by simp) ?_; intro gg cap' w6 hown6 hgrow6 hat6 hlt6; have HT2 := hide (ds_grown (ds_alloc HT1.out _) hgrow6 (dr_block HO1.out)); have HO6 := hide hown6; have hfz := nodeAt_frozen HT2.out.2.2.1 2; have hcz := (nodeAt_cells HT2.out.2.2.1).2.2.1; clear hown6 hgrow6 hat6)
          | (fail))
      all_goals
        go_wp2
        go_roundw
        case rel =>
          refine ⟨k - 1, m + 1, cap', some ⟨gg, 0, none⟩, by congr 1; omega, by omega, hide (ds_set2 HT2.out _ _ _), hide (dr_set ⟨_, _, _, HO6.out, pairs_push HP5.out HOW.out.1 _ _⟩ _ _)⟩
        case measure => simp [intOf]; omega
    · have hk0 : k = 0 := by omega
      subst hk0
      go_wp2_with fail
      refine (d_once (w.heap.size + 1) a n cap zs 20 _ (by omega) (by omega) HDS.out.1).mono ?_
      rintro e w4 ⟨o, rfl, hd⟩
      replace HDR := hide (dr_grown HDR.out hd.2 (fun j hj => by cases hj; have := HDS.out.2.1.2; omega))
      replace HDS := hide (ds_drew HDS.out hd)
      clear hd
      cases o
      · skip
        go_wp2_with fail
        obtain ⟨a0, a1, a2, a3, a4, a5, a6⟩ := nodeAt_cells (ds_dr HDS.out).2.2.1
        go_region_law (first
          | (go_simp; go_at_call 12; refine (d_off_88_120 (w.heap.size + 1) a n cap zs _ (ds_dr HDS.out).1).mono ?_; rintro e w7 ⟨r, rfl, hd⟩; have HT7 := hide (ds_drew (ds_dr HDS.out) hd); have HR7 := hide (dr_grown (dr_dr HDR.out) hd.2 (fun j hj => by cases hj; have := HDS.out.2.1.2; omega)); obtain ⟨c0, c1, c2, c3, c4, c5, c6⟩ := nodeAt_cells HT7.out.2.2.1; obtain ⟨b0, b1, b2, b3, b4, b5, b6⟩ := nodeAt_cells HT7.out.2.2.2.1; have f7 := nodeAt_frozen HT7.out.2.2.2.1; clear hd)
          | (fail))
        all_goals
          go_wp2
          obtain ⟨T, hT⟩ := nodeAt_sets (kd' := 2) (nt' := nt) (a' := sa) (n' := m) (c' := c) (A' := 0) (B' := 0) (mn' := 0) (mx' := 0) HT7.out.2.2.2.1
          obtain ⟨L, H, hrng⟩ := dr_rng HR7.out
          refine bodyPost_ret (v := .tuple #[.agg #[.int .i64 2, .bool nt, .slice sa m c, .int .i64 0, .int .i64 0, .int .i64 0, .int .i64 0], .int .i64 r]) (ret_cell_tmp Try.results5 _ _ w.heap.size T _ _ _ rfl hT Try.underlying26 rfl (by kernel_rfl)) rfl ⟨2, nt, sa, m, c, L, H, r, rfl, by omega, ?_, ?_⟩
          · simp only [heap_setCell_size]
            have hRN : w.heap.size < w2.heap.size := by have := HT7.out.2.1; omega
            exact rng_sets hrng (dr_ne HR7.out (by omega))
          · iterate 7 (refine Below.setCell ?_ (by simp) _)
            exact HT7.out.2.2.2.2
      · go_wp2_with fail
        refine (d_off_1_5 (w.heap.size + 1) a n cap zs _ HDS.out.1).mono ?_
        rintro e w5 ⟨y, rfl, hd⟩
        replace HDR := hide (dr_set (dr_grown HDR.out hd.2 (fun j hj => by cases hj; have := HDS.out.2.1.2; omega)) 0 (.int .i64 y))
        replace HDS := hide (ds_drew HDS.out hd)
        have cN := (nodeAt_cells HDS.out.2.2.1).1
        have fN := nodeAt_frozen HDS.out.2.2.1 0
        replace HDS := hide (ds_set0 HDS.out y)
        clear hd
        go_wp2_with fail
        obtain ⟨a0, a1, a2, a3, a4, a5, a6⟩ := nodeAt_cells (ds_dr HDS.out).2.2.1
        go_region_law (first
          | (go_simp; go_at_call 12; refine (d_off_88_120 (w.heap.size + 1) a n cap zs _ (ds_dr HDS.out).1).mono ?_; rintro e w7 ⟨r, rfl, hd⟩; have HT7 := hide (ds_drew (ds_dr HDS.out) hd); have HR7 := hide (dr_grown (dr_dr HDR.out) hd.2 (fun j hj => by cases hj; have := HDS.out.2.1.2; omega)); obtain ⟨c0, c1, c2, c3, c4, c5, c6⟩ := nodeAt_cells HT7.out.2.2.1; obtain ⟨b0, b1, b2, b3, b4, b5, b6⟩ := nodeAt_cells HT7.out.2.2.2.1; have f7 := nodeAt_frozen HT7.out.2.2.2.1; clear hd)
          | (fail))
        all_goals
          go_wp2
          obtain ⟨T, hT⟩ := nodeAt_sets (kd' := y) (nt' := nt) (a' := sa) (n' := m) (c' := c) (A' := 0) (B' := 0) (mn' := 0) (mx' := 0) HT7.out.2.2.2.1
          obtain ⟨L, H, hrng⟩ := dr_rng HR7.out
          refine bodyPost_ret (v := .tuple #[.agg #[.int .i64 y, .bool nt, .slice sa m c, .int .i64 0, .int .i64 0, .int .i64 0, .int .i64 0], .int .i64 r]) (ret_cell_tmp Try.results5 _ _ w.heap.size T _ _ _ rfl hT Try.underlying26 rfl (by kernel_rfl)) rfl ⟨y, nt, sa, m, c, L, H, r, rfl, by omega, ?_, ?_⟩
          · simp only [heap_setCell_size]
            have hRN : w.heap.size < w2.heap.size := by have := HT7.out.2.1; omega
            exact rng_sets hrng (dr_ne HR7.out (by omega))
          · iterate 7 (refine Below.setCell ?_ (by simp) _)
            exact HT7.out.2.2.2.2
end Go.Proofs.Ytffgghbnkphieah
