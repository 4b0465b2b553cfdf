/-
  Texts put together: RrD, RrE.
-/
import Derived.Test.YtibagghpimadfaaGreatDoorV11
import Derived.Deep.RegionLaw
import Derived.Deep.DeepCutAuto
import Derived.Test.YtibagghpimadfaaGreatDoorV16
/-
  Contracts of the program's reader of expressions: a node more.
-/
namespace Go.Proofs.YtibagghpimadfaaGreatDoor
open Go.RowKit Go.Joins
set_option linter.unusedVariables false
set_option linter.unusedSimpArgs false
theorem infoND : (Tryz.prog.info? 39).map (fun i => (i.zero, i.size, i.bytes)) = some (some (.agg #[.int .i64 0, .bool false, .slice none 0 0, .int .i64 0, .int .i64 0, .int .i64 0, .int .i64 0]), 7, 72) := by kernel_rfl
theorem infoRG : (Tryz.prog.info? 51).map (fun i => (i.zero, i.size, i.bytes)) = some (some (.agg #[.int .i64 0, .int .i64 0]), 2, 16) := by kernel_rfl
theorem grown_undrewR {w w' : World} {row : Option Nat} (h : w.drew.grownBy w' row) : w.grownBy w' row := ⟨h.os, h.tape, h.output, h.size, h.block⟩
section
variable {S : Nat → Prop} {w w' : World} {B R : Nat} {u : List Int} {X : List Nd}
theorem rd_blA (h : RD S B R w u X) (k : Below w.heap.size w w') : RD S B R w' u X := by
  obtain ⟨h0, ta, tc, ad, c, h1, h2, h3⟩ := h
  have hlt := xr_lt h1
  exact ⟨h0, ta, tc, ad, c, (k.block R hlt).trans h1, tx_go h2 (k.mono (by omega)), xo_below h3.1 k, h3.2⟩
/-- A node more, in memory. -/
theorem rd_push {nd : Nd} {na : Option Addr} {nc : Nat} {gg cap' : Nat} {w9 : World} {o : Obj} {ta ad : Option Addr} {tc c : Nat} {xs : List Value} (h0 : B ≤ R) (h1 : XR w R ta u.length tc ad X.length c) (h2 : Tx B w ta tc u) (hown : w.ownsRow B 39 7 (.slice ad X.length c) X.length xs) (hits : XItsZ 500 S w xs X) (hdj : Dj7 xs X.length) (hL : nd.L.length ≤ 500) (hS : ∀ j, S j → B ≤ j)
    (ho : w.ownsRow 0 51 2 (.slice na nd.L.length nc) nd.L.length (prV nd.L)) (hk : ∀ k, (Value.slice na nd.L.length nc).ownBlock = some k → B ≤ k ∧ ¬ S k)
    (hown9 : w9.ownsRow B 39 7 (.slice (some ⟨gg, 0, none⟩) (X.length + 1) cap') (X.length + 1) (xs ++ ndV nd na nc)) (hg : (w.alloc o).grownBy w9 (Value.slice ad X.length c).ownBlock) (hgB : B ≤ gg) :
    w9.cell? ⟨R, 1, none⟩ = some (.slice ad X.length c) ∧ w9.frozen? ⟨R, 1, none⟩ = false ∧ RD (fun j => B ≤ j) B R (w9.setCell ⟨R, 1, none⟩ (.slice (some ⟨gg, 0, none⟩) (X.length + 1) cap')) u (X ++ [nd]) ∧ Below B w (w9.setCell ⟨R, 1, none⟩ (.slice (some ⟨gg, 0, none⟩) (X.length + 1) cap')) := by
  have hlt := xr_lt h1
  have hkp : Kp (fun j => (Value.slice ad X.length c).ownBlock = some j) w w9 := (kp_alloc w o).trans (kp_grown (S := fun j => (Value.slice ad X.length c).ownBlock = some j) hg (fun j hj => hj)) (fun j _ hj => hj)
  have r9 : XR w9 R ta u.length tc ad X.length c := (hkp.block R hlt (fun e => type_ne hown e h1 (by decide) rfl)).trans h1
  have b9 : Below B w w9 := kp_below hkp (by omega) (fun k hk9 => (hown.lt k hk9).1)
  have ks := kp_r w9 R 1 (.slice (some ⟨gg, 0, none⟩) (X.length + 1) cap')
  have bs : Below B w9 (w9.setCell ⟨R, 1, none⟩ (.slice (some ⟨gg, 0, none⟩) (X.length + 1) cap')) := kp_below ks (by have := hkp.size; omega) (fun j hj => by have hj' : j = R := hj; omega)
  have i1 : XItsZ 500 (fun j => B ≤ j) w xs X := xits_imp hits (fun k _ hs => hS k hs)
  have i2 := xits_push i1 hown.1 ho (fun k hk9 => (hk k hk9).1) hL
  have d2 := dj7_push hdj hown.1 (nd := nd) (ad := na) (cp := nc) (fun j k hj hk9 e => (hk k e).2 (xits_kb hits hj hk9).1)
  have i3 := xits_kp i2 hkp (fun B' z n v ys j hv hj _ e => own_ne hv hj hown e (by decide) rfl)
  have hl : (X ++ [nd]).length = X.length + 1 := by simp
  refine ⟨(xr_cells r9).2, xr_frozen r9 1, ⟨h0, ta, tc, some ⟨gg, 0, none⟩, cap', ?_, tx_go (tx_go h2 b9) bs, ?_, fun k hk9 => by have h9 : gg = k := (by simpa [Value.ownBlock] using hk9); omega⟩, b9.trans bs⟩
  · rw [hl]; exact xr_o r9 _ _ _
  · refine xo_r r9 ⟨_, ?_, i3, ?_⟩ ks
    · rw [hl]; exact hown9
    · rw [hl]; exact d2
theorem ra_fin {nk : Int} {nt : Bool} {L : List (Int × Int)} {a b mn mx : Int} {na : Option Addr} {nc nL m : Nat} {gg cap' : Nat} {w9 : World} {o : Obj} {ta ad : Option Addr} {tc c : Nat} {xs : List Value} (hm : X.length = m) (hnL : L.length = nL) (h0 : B ≤ R) (h1 : XR w R ta u.length tc ad X.length c) (h2 : Tx B w ta tc u) (hown : w.ownsRow B 39 7 (.slice ad m c) m xs) (hits : XItsZ 500 S w xs X) (hdj : Dj7 xs X.length) (hL : L.length ≤ 500) (hS : ∀ j, S j → B ≤ j)
    (ho : w.ownsRow 0 51 2 (.slice na nL nc) nL (prV L)) (hk : ∀ k, (Value.slice na L.length nc).ownBlock = some k → B ≤ k ∧ ¬ S k)
    (hown9 : w9.ownsRow B 39 7 (.slice (some ⟨gg, 0, none⟩) (m + 1) cap') (m + 1) (xs ++ [.int .i64 nk, .bool nt, .slice na nL nc, .int .i64 a, .int .i64 b, .int .i64 mn, .int .i64 mx])) (hg : (w.alloc o).grownBy w9 (Value.slice ad m c).ownBlock) (hat : (Value.slice ad m c).ownBlock = some gg ∨ gg = w.heap.size + 1) :
    w9.cell? ⟨R, 1, none⟩ = some (.slice ad m c) ∧ w9.frozen? ⟨R, 1, none⟩ = false ∧ RD (fun j => B ≤ j) B R (w9.setCell ⟨R, 1, none⟩ (.slice (some ⟨gg, 0, none⟩) (m + 1) cap')) u (X ++ [⟨nk, nt, L, a, b, mn, mx⟩]) ∧ Below B w (w9.setCell ⟨R, 1, none⟩ (.slice (some ⟨gg, 0, none⟩) (m + 1) cap')) := by
  subst hm; subst hnL
  refine rd_push (nd := ⟨nk, nt, L, a, b, mn, mx⟩) h0 h1 h2 hown hits hdj hL hS ho hk hown9 hg ?_
  have := xr_lt h1
  rcases hat with e | e
  · exact (hown.lt gg e).1
  · omega
end
set_option maxRecDepth 100000 in
set_option maxHeartbeats 8000000 in
theorem i_add {S : Nat → Prop} (B R : Nat) (u : List Int) (X : List Nd) (nd : Nd) (na : Option Addr) (nc : Nat) (w : World) (hX : X.length ≤ 5000) (hL : nd.L.length ≤ 500) (h : RD S B R w u X) (hS : ∀ j, S j → B ≤ j) (ho : w.ownsRow 0 51 2 (.slice na nd.L.length nc) nd.L.length (prV nd.L)) (hk : ∀ k, (Value.slice na nd.L.length nc).ownBlock = some k → B ≤ k ∧ ¬ S k) :
    Calls Tryz.prog 52 #[.pointer (some ⟨R, 0, none⟩), .agg #[.int .i64 nd.k, .bool nd.nt, .slice na nd.L.length nc, .int .i64 nd.a, .int .i64 nd.b, .int .i64 nd.mn, .int .i64 nd.mx]] w fun e w' => e = .returned (.tuple #[]) ∧ RD (fun j => B ≤ j) B R w' u (X ++ [nd]) ∧ Below B w w' := by
  obtain ⟨i0, hi0, hz0, hz1, hz2⟩ := info_parts infoND
  obtain ⟨nk, nt, L, a, b, mn, mx⟩ := nd
  obtain ⟨nL, hnL⟩ : ∃ nL, L.length = nL := ⟨_, rfl⟩
  have hbB := rdx_lt h
  have bA : Below B w (w.alloc (.cells #[.int .i64 nk, .bool nt, .slice na L.length nc, .int .i64 a, .int .i64 b, .int .i64 mn, .int .i64 mx] 39)) := (Below.refl B w).alloc hbB _
  obtain ⟨h0, ta, tc, ad, c, h1, h2, h3⟩ := rd_blA h ((Below.refl w.heap.size w).alloc (Nat.le_refl _) (.cells #[.int .i64 nk, .bool nt, .slice na L.length nc, .int .i64 a, .int .i64 b, .int .i64 mn, .int .i64 mx] 39))
  have o1 := own_kp ho (kp_alloc (S := fun _ => False) w (.cells #[.int .i64 nk, .bool nt, .slice na L.length nc, .int .i64 a, .int .i64 b, .int .i64 mn, .int .i64 mx] 39)) (fun _ _ x => x)
  have hG := heap_alloc_new w (.cells #[.int .i64 nk, .bool nt, .slice na L.length nc, .int .i64 a, .int .i64 b, .int .i64 mn, .int .i64 mx] 39)
  have hsz : w.heap.size < (w.alloc (.cells #[.int .i64 nk, .bool nt, .slice na L.length nc, .int .i64 a, .int .i64 b, .int .i64 mn, .int .i64 mx] 39)).heap.size := by simp
  simp only [hnL] at hG h1 h2 h3 o1 hsz bA
  obtain ⟨G, hGw⟩ : ∃ G, w.heap.size = G := ⟨_, rfl⟩
  go_enter Tryz.func52, Tryz.ntmps52
  simp only [hnL]
  go_wp2_with fail
  obtain ⟨W, hW⟩ : ∃ W, w.alloc (.cells #[.int .i64 nk, .bool nt, .slice na nL nc, .int .i64 a, .int .i64 b, .int .i64 mn, .int .i64 mx] 39) = W := ⟨_, rfl⟩
  rw [hGw] at hG hsz
  rw [hW] at hG h1 h2 h3 o1 hsz bA
  rw [hW]
  clear hW
  obtain ⟨xs, hown, hits, hdj⟩ := h3.1
  have hBW : B ≤ W.heap.size := by omega
  have hRW := xr_lt h1
  have cG : ∀ i, W.drew.cell? ⟨G, i, none⟩ = (#[.int .i64 nk, .bool nt, .slice na nL nc, .int .i64 a, .int .i64 b, .int .i64 mn, .int .i64 mx] : Array Value)[i]? := fun i => by rw [cell_of_row W.drew G i _ _ (0, 0) hG]
  have g0 : W.drew.cell? ⟨G, 0, none⟩ = some (.int .i64 nk) := cG 0
  have g1 : W.drew.cell? ⟨G, 1, none⟩ = some (.bool nt) := cG 1
  have g2 : W.drew.cell? ⟨G, 2, none⟩ = some (.slice na nL nc) := cG 2
  have g3 : W.drew.cell? ⟨G, 3, none⟩ = some (.int .i64 a) := cG 3
  have g4 : W.drew.cell? ⟨G, 4, none⟩ = some (.int .i64 b) := cG 4
  have g5 : W.drew.cell? ⟨G, 5, none⟩ = some (.int .i64 mn) := cG 5
  have g6 : W.drew.cell? ⟨G, 6, none⟩ = some (.int .i64 mx) := cG 6
  have r1 : W.drew.cell? ⟨R, 1, none⟩ = some (.slice ad X.length c) := (xr_cells (w := W.drew) h1).2
  have r1a : ∀ o, (W.alloc o).cell? ⟨R, 1, none⟩ = some (.slice ad X.length c) := fun o => (xr_cells (w := W.alloc o) ((kp_alloc (S := fun _ => False) W o).block R hRW (fun x => x) |>.trans h1)).2
  have r1b : ∀ o, (W.alloc o).drew.cell? ⟨R, 1, none⟩ = some (.slice ad X.length c) := fun o => r1a o
  have H1 := hide h1
  have H2 := hide h2
  have HOW := hide hown
  have HIT := hide hits
  have HDJ := hide hdj
  have HS := hide hS
  have HK := hide hk
  have HO := hide o1
  have HA := hide bA
  obtain ⟨m, hm⟩ : ∃ m, X.length = m := ⟨_, rfl⟩
  have HM := hide hm
  rw [hm] at r1 r1a r1b hX HOW
  clear cG h1 h2 hown hits hdj hS hk o1 bA h ho hG hm hGw hbB
  go_region_law (first
    | (refine step_append_lies _ (by rfl) _ _ _ (by rfl) B 39 i0 _ 7 72 Tryz.underlying24 hi0 hz0 hz1 hz2 rfl (by omega) (.slice ad m c) m xs (by rfl) (HOW.out.alloc _).drew ⟨W.heap.size, 0, none⟩ 1 1 [.int .i64 nk, .bool nt, .slice na nL nc, .int .i64 a, .int .i64 b, .int .i64 mn, .int .i64 mx] (by rfl) (by rfl) (World.news_of_block (cs := #[.int .i64 nk, .bool nt, .slice na nL nc, .int .i64 a, .int .i64 b, .int .i64 mn, .int .i64 mx]) (t := 39) (fr := (0, 0)) (heap_alloc_new W _)) (by simp [Value.oneCell']) (by omega) (by unfold maxLen; omega) (by omega) (by simp; omega) (W.heap.size + 1) (by simp) ?_; intro gg cap' w9 hown9 hgrow9 hat9 hlt9; have hgr9 := grown_undrewR hgrow9; obtain ⟨hc9, hf9, h9, hb9⟩ := ra_fin HM.out hnL h0 H1.out H2.out HOW.out HIT.out HDJ.out hL HS.out HO.out HK.out hown9 hgr9 hat9; have H9 := hide h9; have HB9 := hide (HA.out.trans hb9); clear hown9 hgrow9 hgr9 hat9 h9 hb9)
    | (fail))
  all_goals
    go_wp2
    go_end0
    exact ⟨rfl, H9.out, HB9.out⟩
end Go.Proofs.YtibagghpimadfaaGreatDoor

/-
  Contracts of the program's reader of expressions: classes of one character, of a letter; what stands behind a backslash.
-/
namespace Go.Proofs.YtibagghpimadfaaGreatDoor
open Go.RowKit Go.Joins
set_option linter.unusedVariables false
set_option linter.unusedSimpArgs false
theorem own_prL {w : World} {q : Nat} {L : List (Int × Int)} {n : Nat} {cs : Array Value} (hn : L.length = n) (hn5 : n ≤ 500) (hc : cs.toList = prV L) (h : w.heap[q]? = some (.cells cs 51 (0, 0))) : w.ownsRow 0 51 2 (.slice (some ⟨q, 0, none⟩) n n) n (prV L) := by
  have hl := prV_len L
  refine ⟨by rw [hl, hn], .inr ⟨q, n, cs, rfl, Nat.zero_le _, h, Nat.le_refl _, by unfold maxLen; omega, ?_, ?_⟩⟩
  · rw [← Array.length_toList, hc, hl, hn]
  · rw [hc, ← hn, ← hl]; simp
/-- What stays when something is made. -/
theorem rd_small {B R : Nat} {w : World} {u : List Int} {X : List Nd} (h : RD (fun j => B ≤ j) B R w u X) : RD (fun j => B ≤ j ∧ j < w.heap.size) B R w u X := by
  obtain ⟨h0, ta, tc, ad, c, h1, h2, h3⟩ := h
  refine ⟨h0, ta, tc, ad, c, h1, h2, xo_imp h3.1 (fun k hk hs => ⟨hs, hk⟩), fun k hk => ⟨h3.2 k hk, ?_⟩⟩
  obtain ⟨xs, ho, -⟩ := h3.1
  exact (ho.lt k hk).2
set_option maxHeartbeats 2000000 in
theorem i_classOf (a : Int) (w : World) : Calls Tryz.prog 92 #[.int .i64 a] w fun e w' => ∃ q, e = .returned (.agg #[.int .i64 2, .bool false, .slice (some ⟨q, 0, none⟩) 1 1, .int .i64 0, .int .i64 0, .int .i64 0, .int .i64 0]) ∧ w.heap.size ≤ q ∧ w'.ownsRow 0 51 2 (.slice (some ⟨q, 0, none⟩) 1 1) 1 (prV [(a, a)]) ∧ Below w.heap.size w w' := by
  go_enter Tryz.func92, Tryz.ntmps92
  have h1 : ((w.alloc (.cells #[.int .i64 2, .bool false, .slice (some ⟨w.heap.size + 1, 0, none⟩) 1 1, .int .i64 0, .int .i64 0, .int .i64 0, .int .i64 0] 39)).alloc (.cells #[.int .i64 a, .int .i64 a] 51)).heap[w.heap.size + 1]? = some (.cells #[.int .i64 a, .int .i64 a] 51 (0, 0)) := by
    have h := heap_alloc_new (w.alloc (.cells #[.int .i64 2, .bool false, .slice (some ⟨w.heap.size + 1, 0, none⟩) 1 1, .int .i64 0, .int .i64 0, .int .i64 0, .int .i64 0] 39)) (.cells #[.int .i64 a, .int .i64 a] 51)
    rw [show (w.alloc (.cells #[.int .i64 2, .bool false, .slice (some ⟨w.heap.size + 1, 0, none⟩) 1 1, .int .i64 0, .int .i64 0, .int .i64 0, .int .i64 0] 39)).heap.size = w.heap.size + 1 by simp] at h
    exact h
  have H1 := hide (own_prL (L := [(a, a)]) (n := 1) rfl (by omega) rfl h1)
  have HB := hide (((Below.refl w.heap.size w).alloc (Nat.le_refl _) (.cells #[.int .i64 2, .bool false, .slice (some ⟨w.heap.size + 1, 0, none⟩) 1 1, .int .i64 0, .int .i64 0, .int .i64 0, .int .i64 0] 39)).alloc (by simp) (.cells #[.int .i64 a, .int .i64 a] 51))
  clear h1
  go_wp2
  refine bodyPost_ret (v := .agg #[.int .i64 2, .bool false, .slice (some ⟨w.heap.size + 1, 0, none⟩) 1 1, .int .i64 0, .int .i64 0, .int .i64 0, .int .i64 0]) (by simp [results, Tryz.results92, go_sem]) rfl ?_
  exact ⟨w.heap.size + 1, rfl, by omega, H1.out, HB.out⟩
/-- Ranges in new memory. -/
def LrA (L : List (Int × Int)) (w : World) (e : Ending) (w' : World) : Prop := ∃ na, e = .returned (.slice na L.length L.length) ∧ w'.ownsRow 0 51 2 (.slice na L.length L.length) L.length (prV L) ∧ (∀ k, (Value.slice na L.length L.length).ownBlock = some k → w.heap.size ≤ k) ∧ Below w.heap.size w w'
theorem lr_new {w : World} {L : List (Int × Int)} {cs : Array Value} (hl : L.length ≤ 500) (hc : cs.toList = prV L) : LrA L w (.returned (.slice (some ⟨w.heap.size, 0, none⟩) L.length L.length)) (w.alloc (.cells cs 51)) :=
  ⟨_, rfl, own_prL rfl hl hc (heap_alloc_new w _), fun k hk => by have h9 : w.heap.size = k := (by simpa [Value.ownBlock] using hk); omega, (Below.refl w.heap.size w).alloc (Nat.le_refl _) _⟩
set_option maxHeartbeats 4000000 in
theorem i_letters (c : Int) (w : World) : Calls Tryz.prog 104 #[.int .i64 c] w (LrA (ltR c) w) := by
  by_cases e1 : c = 100 ∨ c = 68
  · have E : Hid (ltR c = [(48, 57)]) := hide (by unfold ltR; rw [if_pos e1])
    have HN := hide (lr_new (w := w) (L := [(48, 57)]) (cs := #[.int .i64 48, .int .i64 57]) (by simp) rfl)
    rcases e1 with rfl | rfl
    all_goals
      go_enter Tryz.func104, Tryz.ntmps104
      go_wp2
      go_ret
      rw [E.out]
      exact HN.out
  · by_cases e2 : c = 119 ∨ c = 87
    · have E : Hid (ltR c = [(48, 57), (65, 90), (95, 95), (97, 122)]) := hide (by unfold ltR; rw [if_neg e1, if_pos e2])
      have HN := hide (lr_new (w := w) (L := [(48, 57), (65, 90), (95, 95), (97, 122)]) (cs := #[.int .i64 48, .int .i64 57, .int .i64 65, .int .i64 90, .int .i64 95, .int .i64 95, .int .i64 97, .int .i64 122]) (by simp) rfl)
      clear e1
      rcases e2 with rfl | rfl
      all_goals
        go_enter Tryz.func104, Tryz.ntmps104
        go_wp2
        go_ret
        rw [E.out]
        exact HN.out
    · by_cases e3 : c = 115 ∨ c = 83
      · have E : Hid (ltR c = [(9, 10), (13, 13), (32, 32)]) := hide (by unfold ltR; rw [if_neg e1, if_neg e2, if_pos e3])
        have HN := hide (lr_new (w := w) (L := [(9, 10), (13, 13), (32, 32)]) (cs := #[.int .i64 9, .int .i64 10, .int .i64 13, .int .i64 13, .int .i64 32, .int .i64 32]) (by simp) rfl)
        clear e1 e2
        rcases e3 with rfl | rfl
        all_goals
          go_enter Tryz.func104, Tryz.ntmps104
          go_wp2
          go_ret
          rw [E.out]
          exact HN.out
      · have E : Hid (ltR c = []) := hide (by unfold ltR; rw [if_neg e1, if_neg e2, if_neg e3])
        have b1 : (c == 100) = false := by simp; omega
        have b2 : (c == 68) = false := by simp; omega
        have b3 : (c == 119) = false := by simp; omega
        have b4 : (c == 87) = false := by simp; omega
        have b5 : (c == 115) = false := by simp; omega
        have b6 : (c == 83) = false := by simp; omega
        clear e1 e2 e3
        go_enter Tryz.func104, Tryz.ntmps104
        go_wp2
        go_ret
        rw [E.out]
        exact ⟨none, rfl, World.ownsRow_nil _ _ _ _, fun k hk => (by cases hk), Below.refl _ _⟩
/-- What a part leaves: the rest and the nodes, or it gives up. -/
def RaI (B R : Nat) (w : World) (o : Option (List Int × List Nd)) (e : Ending) (w' : World) : Prop := match o with
  | some (u', X') => e = .returned (.tuple #[]) ∧ RD (fun j => B ≤ j) B R w' u' X' ∧ Below B w w'
  | none => GivB B w e w'
theorem giv_bl {B : Nat} {w w1 w2 : World} {e : Ending} (k : Below B w w1) (g : GivB B w1 e w2) : GivB B w e w2 := ⟨g.1, k.trans g.2⟩
set_option maxHeartbeats 4000000 in
theorem i_slash (B R : Nat) (u : List Int) (X : List Nd) (w : World) (hX : X.length ≤ 4000) (h : RD (fun j => B ≤ j) B R w u X) : Calls Tryz.prog 91 #[.pointer (some ⟨R, 0, none⟩)] w (RaI B R w (bsP u X)) := by
  have H0 := hide h
  have hB := rdx_lt h
  cases u with
  | nil =>
    obtain ⟨ta, tc, c0⟩ := rd_nil h
    have HA := hide (i_escN (u := []) rfl h)
    clear h
    go_enter Tryz.func91, Tryz.ntmps91
    go_wp2_with fail
    refine HA.out.mono ?_
    rintro e w2 ⟨⟨tv, v, rfl⟩, k2⟩
    have K2 := hide k2
    clear k2
    go_wp2
    exact ⟨rfl, ⟨_, _, rfl⟩, K2.out⟩
  | cons c r =>
    have hs := rd_small h
    obtain ⟨b, off, tc, ad, cp, c0, f0, c1, c2, h1, h2, HT⟩ := rd_cons h
    have h6 : (0 : Int) < (r.length : Int) + 1 := by omega
    have h7 : (0 : Int) < ((r.length + 1 : Nat) : Int) := by omega
    clear h HT
    have HS := hide hs
    clear hs
    have hB' := hB
    go_enter Tryz.func91, Tryz.ntmps91
    go_wp2_with fail
    refine (i_letters c _).mono ?_
    rintro e w1 ⟨na, rfl, ho, hk, hb⟩
    have HO := hide ho
    have HK := hide hk
    have HB := hide hb
    have HS1 := hide (rd_blA HS.out hb)
    have HB1 := hide (hb.mono hB)
    clear ho hk hb c0 c1 c2 f0
    by_cases hl : 0 < (ltR c).length
    · have hl' : (0 : Int) < ((ltR c).length : Int) := by omega
      have hl5 : (ltR c).length ≤ 500 := by unfold ltR; split <;> (try split) <;> (try split) <;> simp
      have E : Hid (bsP (c :: r) X = some (r, X ++ [clN (capB c) (ltR c)])) := hide (by rw [bsP, if_pos hl])
      have HN := hide (i_nextC B R c r X w1 HS1.out)
      have CB := hide (fun W => i_in c 65 90 W)
      have HC : Hid (decide (65 ≤ c ∧ c ≤ 90) = capB c) := hide rfl
      rw [HC.out] at CB
      obtain ⟨L, hL⟩ : ∃ L, ltR c = L := ⟨_, rfl⟩
      rw [hL] at hl hl' hl5 HO HK E
      rw [hL]
      obtain ⟨cb, hcb⟩ : ∃ cb, capB c = cb := ⟨_, rfl⟩
      rw [hcb] at CB E
      clear hL hcb HC hl
      go_wp2_with fail
      refine HN.out.mono ?_
      rintro e w2 ⟨rfl, h2, k2⟩
      have H2 := hide h2
      have HB2 := hide (HB1.out.trans (rd_kpB HS1.out k2))
      have HO2 := hide (own_kp HO.out k2 (fun j hj e9 => by
        obtain ⟨_, _, _, _, _, hx, _⟩ := HS1.out
        exact type_ne HO.out hj hx (by decide) e9))
      have HA := hide (i_add B R r X (clN cb L) na L.length w2 (by omega) hl5 h2 (fun j hj => hj.1) HO2.out (fun k hk => ⟨Nat.le_trans hB (HK.out k hk), fun h9 => by have := HK.out k hk; omega⟩))
      clear h2 k2 HN
      go_wp2_with (first | (go_at_call 58; refine (CB.out _).mono ?_; rintro e w9 ⟨rfl, h9⟩; rw [h9]; clear h9 w9))
      refine HA.out.mono ?_
      rintro e w3 ⟨rfl, h3, k3⟩
      have H3 := hide h3
      have HB3 := hide (HB2.out.trans k3)
      clear h3 k3 HA
      go_wp2
      go_end0
      rw [E.out]
      exact ⟨rfl, H3.out, HB3.out⟩
    · have hl' : ¬ (0 : Int) < ((ltR c).length : Int) := by omega
      have E0 : Hid (bsP (c :: r) X = match esP (c :: r) with
        | none => none
        | some (d, r') => some (r', X ++ [clsN d])) := hide (by rw [bsP, if_neg hl]; rfl)
      rcases hn : esP (c :: r) with _ | ⟨d, r2⟩
      · have E : Hid (bsP (c :: r) X = none) := hide (by rw [E0.out, hn])
        have HE := hide (i_escN hn HS1.out)
        clear hn E0
        go_wp2_with fail
        refine HE.out.mono ?_
        rintro e w3 ⟨⟨tv, v, rfl⟩, k3⟩
        have K3 := hide (giv_bl HB1.out ⟨⟨tv, v, rfl⟩, k3⟩)
        clear k3
        go_wp2
        rw [E.out]
        exact ⟨rfl, K3.out⟩
      · have E : Hid (bsP (c :: r) X = some (r2, X ++ [clsN d])) := hide (by have h9 := E0.out; rw [hn] at h9; exact h9)
        have HE := hide (i_escY hn HS1.out)
        clear hn E0
        go_wp2_with fail
        refine HE.out.mono ?_
        rintro e w2 ⟨rfl, h2, k2⟩
        have H2 := hide h2
        have HB2 := hide (HB1.out.trans (rd_kpB HS1.out k2))
        have hz2 : w.heap.size ≤ w2.heap.size := Nat.le_trans HB.out.size k2.size
        clear h2 k2 HE
        go_wp2_with fail
        refine (i_classOf d _).mono ?_
        rintro e w3 ⟨q, rfl, hq, hr3, hb3⟩
        have HB3 := hide (HB2.out.trans (hb3.mono (by omega)))
        have HA := hide (i_add B R r2 X (clsN d) (some ⟨q, 0, none⟩) 1 w3 (by omega) (by simp [clsN]) (rd_blA H2.out hb3) (fun j hj => hj.1) hr3 (fun k hk => by
          have h9 : q = k := (by simpa [Value.ownBlock] using hk)
          refine ⟨by omega, fun h10 => ?_⟩
          have : k < w.heap.size := h10.2
          omega))
        clear hr3 hb3
        go_wp2_with fail
        refine HA.out.mono ?_
        rintro e w4 ⟨rfl, h4, k4⟩
        have H4 := hide h4
        have HB4 := hide (HB3.out.trans k4)
        clear h4 k4 HA
        go_wp2
        go_end0
        rw [E.out]
        exact ⟨rfl, H4.out, HB4.out⟩
end Go.Proofs.YtibagghpimadfaaGreatDoor
