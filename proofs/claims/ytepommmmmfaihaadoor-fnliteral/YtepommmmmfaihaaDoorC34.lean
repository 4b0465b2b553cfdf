/-
  Texts put together: RsD, RsE.
-/
import Derived.Test.YtepommmmmfaihaaDoorC33
import Derived.Deep.RegionLaw
import Derived.Deep.DeepCutAuto
import Derived.Test.YtepommmmmfaihaaDoorC32
/-
  Contracts of the specification's reader of expressions: a node more.
-/
namespace Go.Proofs.YtepommmmmfaihaaDoor
open Go.RowKit Go.Joins
set_option linter.unusedVariables false
set_option linter.unusedSimpArgs false
section
variable {S : Nat → Prop} {w w' : World} {B R : Nat} {C : List Int} {k : Nat} {bd : Bool} {X : List Nd}
theorem sd_small (h : SD (fun j => B ≤ j) B R w C k bd X) : SD (fun j => B ≤ j ∧ j < w.heap.size) B R w C k bd X := by
  obtain ⟨h0, ta, tc, ad, c, h1, h2, h3⟩ := h
  refine ⟨h0, ta, tc, ad, c, h1, h2, xo_imp h3.1 (fun k hk hs => ⟨hs, hk⟩), fun k hk => ⟨h3.2 k hk, ?_⟩⟩
  obtain ⟨xs, ho, -⟩ := h3.1
  exact (ho.lt k hk).2
theorem sd_wide {M : Nat} (h : SD (fun j => B ≤ j ∧ j < M) B R w C k bd X) : SD (fun j => B ≤ j) B R w C k bd X := by
  obtain ⟨h0, ta, tc, ad, c, h1, h2, h3, h4⟩ := h
  exact ⟨h0, ta, tc, ad, c, h1, h2, xo_imp h3 (fun k _ hs => hs.1), fun k hk => (h4 k hk).1⟩
theorem sd_hi {T : Nat → Prop} {M : Nat} (h : SD (fun j => B ≤ j ∧ j < M) B R w C k bd X) (q : Kp T w w') (hT : ∀ j, T j → M ≤ j) (hTR : ¬ T R) (hB : B ≤ M) : SD (fun j => B ≤ j ∧ j < M) B R w' C k bd X := by
  obtain ⟨h0, ta, tc, ad, c, h1, h2, h3, h4⟩ := h
  have hlt := sx_lt h1
  exact ⟨h0, ta, tc, ad, c, (q.block R hlt hTR).trans h1, tx_go h2 (kp_below q (by omega) (fun j hj => by have := hT j hj; omega)), xo_kp h3 q (fun j hj ht => by have := (h4 j hj).2; have := hT j ht; omega) (fun B' z n v ys j hv hj hs ht => by have := hs.2; have := hT j ht; omega), h4⟩
/-- A node more, in memory. -/
theorem sa_fin {nk : Int} {nt : Bool} {L : List (Int × Int)} {a b mn mx : Int} {na : Option Addr} {nc nL m : Nat} {gg cap' : Nat} {w9 : World} {o : Obj} {ta ad : Option Addr} {tc c : Nat} {xs : List Value} (hm : X.length = m) (hnL : L.length = nL) (h0 : B ≤ R ∧ k ≤ C.length ∧ C.length ≤ 400) (h1 : SX w R ta C.length tc k bd ad X.length c) (h2 : Tx B w ta tc C) (hown : w.ownsRow B 43 7 (.slice ad m c) m xs) (hits : XItsZ 500 S w xs X) (hdj : Dj7 xs X.length) (hL : L.length ≤ 500) (hS : ∀ j, S j → B ≤ j)
    (ho : w.ownsRow 0 46 2 (.slice na nL nc) nL (prV L)) (hk : ∀ k, (Value.slice na L.length nc).ownBlock = some k → B ≤ k ∧ ¬ S k)
    (hown9 : w9.ownsRow B 43 7 (.slice (some ⟨gg, 0, none⟩) (m + 1) cap') (m + 1) (xs ++ [.int .i64 nk, .bool nt, .slice na nL nc, .int .i64 a, .int .i64 b, .int .i64 mn, .int .i64 mx])) (hg : (w.alloc o).grownBy w9 (Value.slice ad m c).ownBlock) (hat : (Value.slice ad m c).ownBlock = some gg ∨ gg = w.heap.size + 1) :
    w9.cell? ⟨R, 3, none⟩ = some (.slice ad m c) ∧ w9.frozen? ⟨R, 3, none⟩ = false ∧ SD (fun j => B ≤ j) B R (w9.setCell ⟨R, 3, none⟩ (.slice (some ⟨gg, 0, none⟩) (m + 1) cap')) C k bd (X ++ [⟨nk, nt, L, a, b, mn, mx⟩]) ∧ Below B w (w9.setCell ⟨R, 3, none⟩ (.slice (some ⟨gg, 0, none⟩) (m + 1) cap')) := by
  subst hm; subst hnL
  have hlt := sx_lt h1
  have hkp : Kp (fun j => (Value.slice ad X.length c).ownBlock = some j) w w9 := (kp_alloc w o).trans (kp_grown (S := fun j => (Value.slice ad X.length c).ownBlock = some j) hg (fun j hj => hj)) (fun j _ hj => hj)
  have r9 : SX w9 R ta C.length tc k bd ad X.length c := (hkp.block R hlt (fun e => type_ne hown e h1 (by decide) rfl)).trans h1
  have b9 : Below B w w9 := kp_below hkp (by omega) (fun k hk9 => (hown.lt k hk9).1)
  have ks := kp_r w9 R 3 (.slice (some ⟨gg, 0, none⟩) (X.length + 1) cap')
  have bs : Below B w9 (w9.setCell ⟨R, 3, none⟩ (.slice (some ⟨gg, 0, none⟩) (X.length + 1) cap')) := kp_below ks (by have := hkp.size; omega) (fun j hj => by have hj' : j = R := hj; omega)
  have i1 : XItsZ 500 (fun j => B ≤ j) w xs X := xits_imp hits (fun k _ hs => hS k hs)
  have i2 := xits_push i1 hown.1 (nd := ⟨nk, nt, L, a, b, mn, mx⟩) ho (fun k hk9 => (hk k hk9).1) hL
  have d2 := dj7_push hdj hown.1 (nd := ⟨nk, nt, L, a, b, mn, mx⟩) (ad := na) (cp := nc) (fun j k hj hk9 e => (hk k e).2 (xits_kb hits hj hk9).1)
  have i3 := xits_kp i2 hkp (fun B' z n v ys j hv hj _ e => own_ne hv hj hown e (by decide) rfl)
  have hl : (X ++ [(⟨nk, nt, L, a, b, mn, mx⟩ : Nd)]).length = X.length + 1 := by simp
  have hgB : B ≤ gg := by
    rcases hat with e | e
    · exact (hown.lt gg e).1
    · omega
  refine ⟨(sx_cells r9).2.2.2, sx_frozen r9 3, ⟨h0, ta, tc, some ⟨gg, 0, none⟩, cap', ?_, tx_go (tx_go h2 b9) bs, ?_, fun k hk9 => by have h9 : gg = k := (by simpa [Value.ownBlock] using hk9); omega⟩, b9.trans bs⟩
  · rw [hl]; exact sx_o r9 _ _ _
  · refine xo_sr r9 ⟨_, ?_, i3, ?_⟩ ks
    · rw [hl]; exact hown9
    · rw [hl]; exact d2
end
set_option maxRecDepth 100000 in
set_option maxHeartbeats 8000000 in
theorem s_add {S : Nat → Prop} (B R : Nat) (C : List Int) (k : Nat) (X : List Nd) (nd : Nd) (na : Option Addr) (nc : Nat) (w : World) (hX : X.length ≤ 120) (hL : nd.L.length ≤ 500) (h : SD S B R w C k false X) (hS : ∀ j, S j → B ≤ j) (ho : w.ownsRow 0 46 2 (.slice na nd.L.length nc) nd.L.length (prV nd.L)) (hk : ∀ k, (Value.slice na nd.L.length nc).ownBlock = some k → B ≤ k ∧ ¬ S k) :
    Calls Tryd.prog 59 #[.pointer (some ⟨R, 0, none⟩), .agg #[.int .i64 nd.k, .bool nd.nt, .slice na nd.L.length nc, .int .i64 nd.a, .int .i64 nd.b, .int .i64 nd.mn, .int .i64 nd.mx]] w fun e w' => e = .returned (.int .i64 (X.length : Int)) ∧ SD (fun j => B ≤ j) B R w' C k (decide (120 < X.length + 1)) (X ++ [nd]) ∧ Below B w w' := by
  obtain ⟨i0, hi0, hz0, hz1, hz2⟩ := info_parts infoND
  obtain ⟨nk, nt, L, a, b, mn, mx⟩ := nd
  obtain ⟨nL, hnL⟩ : ∃ nL, L.length = nL := ⟨_, rfl⟩
  have hbB := sd_lt h
  have bA : Below B w (w.alloc (.cells #[.int .i64 nk, .bool nt, .slice na L.length nc, .int .i64 a, .int .i64 b, .int .i64 mn, .int .i64 mx] 43)) := (Below.refl B w).alloc hbB _
  obtain ⟨h0, ta, tc, ad, c, h1, h2, h3⟩ := sd_bl h ((Below.refl w.heap.size w).alloc (Nat.le_refl _) (.cells #[.int .i64 nk, .bool nt, .slice na L.length nc, .int .i64 a, .int .i64 b, .int .i64 mn, .int .i64 mx] 43))
  have o1 := own_kp ho (kp_alloc (S := fun _ => False) w (.cells #[.int .i64 nk, .bool nt, .slice na L.length nc, .int .i64 a, .int .i64 b, .int .i64 mn, .int .i64 mx] 43)) (fun _ _ x => x)
  have hG := heap_alloc_new w (.cells #[.int .i64 nk, .bool nt, .slice na L.length nc, .int .i64 a, .int .i64 b, .int .i64 mn, .int .i64 mx] 43)
  have hsz : w.heap.size < (w.alloc (.cells #[.int .i64 nk, .bool nt, .slice na L.length nc, .int .i64 a, .int .i64 b, .int .i64 mn, .int .i64 mx] 43)).heap.size := by simp
  simp only [hnL] at hG h1 h2 h3 o1 hsz bA
  obtain ⟨G, hGw⟩ : ∃ G, w.heap.size = G := ⟨_, rfl⟩
  go_enter Tryd.func59, Tryd.ntmps59
  simp only [hnL]
  go_wp2_with fail
  obtain ⟨W, hW⟩ : ∃ W, w.alloc (.cells #[.int .i64 nk, .bool nt, .slice na nL nc, .int .i64 a, .int .i64 b, .int .i64 mn, .int .i64 mx] 43) = W := ⟨_, rfl⟩
  rw [hGw] at hG hsz
  rw [hW] at hG h1 h2 h3 o1 hsz bA
  rw [hW]
  clear hW
  obtain ⟨xs, hown, hits, hdj⟩ := h3.1
  have hBW : B ≤ W.heap.size := by omega
  have hRW := sx_lt h1
  have cG : ∀ i, W.drew.cell? ⟨G, i, none⟩ = (#[.int .i64 nk, .bool nt, .slice na nL nc, .int .i64 a, .int .i64 b, .int .i64 mn, .int .i64 mx] : Array Value)[i]? := fun i => by rw [cell_of_row W.drew G i _ _ (0, 0) hG]
  have g0 : W.drew.cell? ⟨G, 0, none⟩ = some (.int .i64 nk) := cG 0
  have g1 : W.drew.cell? ⟨G, 1, none⟩ = some (.bool nt) := cG 1
  have g2 : W.drew.cell? ⟨G, 2, none⟩ = some (.slice na nL nc) := cG 2
  have g3 : W.drew.cell? ⟨G, 3, none⟩ = some (.int .i64 a) := cG 3
  have g4 : W.drew.cell? ⟨G, 4, none⟩ = some (.int .i64 b) := cG 4
  have g5 : W.drew.cell? ⟨G, 5, none⟩ = some (.int .i64 mn) := cG 5
  have g6 : W.drew.cell? ⟨G, 6, none⟩ = some (.int .i64 mx) := cG 6
  have r1 : W.drew.cell? ⟨R, 3, none⟩ = some (.slice ad X.length c) := (sx_cells (w := W.drew) h1).2.2.2
  have r1a : ∀ o, (W.alloc o).cell? ⟨R, 3, none⟩ = some (.slice ad X.length c) := fun o => (sx_cells (w := W.alloc o) ((kp_alloc (S := fun _ => False) W o).block R hRW (fun x => x) |>.trans h1)).2.2.2
  have r1b : ∀ o, (W.alloc o).drew.cell? ⟨R, 3, none⟩ = some (.slice ad X.length c) := fun o => r1a o
  have H1 := hide h1
  have H2 := hide h2
  have HOW := hide hown
  have HIT := hide hits
  have HDJ := hide hdj
  have HS := hide hS
  have HK := hide hk
  have HO := hide o1
  have HA := hide bA
  obtain ⟨m, hm⟩ : ∃ m, X.length = m := ⟨_, rfl⟩
  have HM := hide hm
  rw [hm] at r1 r1a r1b hX HOW
  clear cG h1 h2 hown hits hdj hS hk o1 bA h ho hG hm hGw hbB
  go_cut [] (fun wx => SD (fun j => B ≤ j) B R wx C k false (X ++ [⟨nk, nt, L, a, b, mn, mx⟩]) ∧ Below B w wx)
  case first =>
    go_region_law (first
      | (refine step_append_lies _ (by rfl) _ _ _ (by rfl) B 43 i0 _ 7 72 Tryd.underlying25 hi0 hz0 hz1 hz2 rfl (by omega) (.slice ad m c) m xs (by rfl) (HOW.out.alloc _).drew ⟨W.heap.size, 0, none⟩ 1 1 [.int .i64 nk, .bool nt, .slice na nL nc, .int .i64 a, .int .i64 b, .int .i64 mn, .int .i64 mx] (by rfl) (by rfl) (World.news_of_block (cs := #[.int .i64 nk, .bool nt, .slice na nL nc, .int .i64 a, .int .i64 b, .int .i64 mn, .int .i64 mx]) (t := 43) (fr := (0, 0)) (heap_alloc_new W _)) (by simp [Value.oneCell']) (by omega) (by unfold maxLen; omega) (by omega) (by simp; omega) (W.heap.size + 1) (by simp) ?_; intro gg cap' w9 hown9 hgrow9 hat9 hlt9; have hgr9 := grown_undrewR hgrow9; obtain ⟨hc9, hf9, h9, hb9⟩ := sa_fin HM.out hnL h0 H1.out H2.out HOW.out HIT.out HDJ.out hL HS.out HO.out HK.out hown9 hgr9 hat9; have H9 := hide h9; have HB9 := hide (HA.out.trans hb9); clear hown9 hgrow9 hgr9 hat9 h9 hb9)
      | (fail))
    all_goals
      go_wp2
      go_meet
      exact ⟨H9.out, HB9.out⟩
  case rest =>
    obtain ⟨h9, hb9⟩ := hcut
    have hl : (X ++ [(⟨nk, nt, L, a, b, mn, mx⟩ : Nd)]).length = m + 1 := by rw [List.length_append, HM.out]; rfl
    obtain ⟨ta9, tc9, ad9, cp9, ⟨c0, c1, c2, c3⟩, f9, -⟩ := sd_cells h9
    have f2 := f9 2
    rw [hl] at c3
    have H9 := hide h9
    have HB9 := hide hb9
    have hwm : IntKind.i64.wrap ((m : Int) + 1 - 1) = (m : Int) := by rw [IntKind.wrap_i64]; omega
    have hwm2 : IntKind.i64.wrap (((m + 1 : Nat) : Int) - 1) = (m : Int) := by rw [IntKind.wrap_i64]; omega
    have hwm3 : IntKind.i64.wrap (m : Int) = (m : Int) := by rw [IntKind.wrap_i64]; omega
    clear h9 hb9 hl f9 H1 H2 HOW HIT HDJ HS HK HO HA g0 g1 g2 g3 g4 g5 g6 r1 r1a r1b hsz
    by_cases hbig : 120 < m + 1
    · have hb1 : (120 : Int) < (m : Int) + 1 := by omega
      have hb2 : (120 : Int) < ((m + 1 : Nat) : Int) := by omega
      have HS2 := hide (sd_b H9.out true)
      have HB2 := hide (HB9.out.trans (sd_kpB H9.out (kp_r _ R 2 (.bool true))))
      have HD : Hid (decide (120 < m + 1) = true) := hide (decide_eq_true hbig)
      go_wp2
      go_ret
      rw [HM.out, HD.out]
      exact ⟨by simp, HS2.out, HB2.out⟩
    · have hb1 : ¬ (120 : Int) < (m : Int) + 1 := by omega
      have hb2 : ¬ (120 : Int) < ((m + 1 : Nat) : Int) := by omega
      have HD : Hid (decide (120 < m + 1) = false) := hide (decide_eq_false hbig)
      go_wp2
      go_ret
      rw [HM.out, HD.out]
      exact ⟨by simp, H9.out, HB9.out⟩
end Go.Proofs.YtepommmmmfaihaaDoor

/-
  Contracts of the specification's reader of expressions: the class of a letter.
-/
namespace Go.Proofs.YtepommmmmfaihaaDoor
open Go.RowKit Go.Joins
set_option linter.unusedVariables false
set_option linter.unusedSimpArgs false
/-- The class of a letter, or none. -/
def MnA (c : Int) (w : World) (e : Ending) (w' : World) : Prop :=
  if 0 < (ltR c).length then ∃ na, e = .returned (.tuple #[.agg #[.int .i64 2, .bool (capB c), .slice na (ltR c).length (ltR c).length, .int .i64 0, .int .i64 0, .int .i64 0, .int .i64 0], .bool true]) ∧ w'.ownsRow 0 46 2 (.slice na (ltR c).length (ltR c).length) (ltR c).length (prV (ltR c)) ∧ (∀ k, (Value.slice na (ltR c).length (ltR c).length).ownBlock = some k → w.heap.size ≤ k) ∧ Below w.heap.size w w'
  else e = .returned (.tuple #[.agg #[.int .i64 0, .bool false, .slice none 0 0, .int .i64 0, .int .i64 0, .int .i64 0, .int .i64 0], .bool false]) ∧ Below w.heap.size w w'
theorem mn_new {w : World} {c : Int} {L : List (Int × Int)} {n : Nat} {b : Bool} {cs : Array Value} (o1 o2 : Obj) (hL : ltR c = L) (hn : L.length = n) (hp : 0 < n) (hl : n ≤ 500) (hc : cs.toList = prV L) (hb : capB c = b) : MnA c w (.returned (.tuple #[.agg #[.int .i64 2, .bool b, .slice (some ⟨w.heap.size + 1 + 1, 0, none⟩) n n, .int .i64 0, .int .i64 0, .int .i64 0, .int .i64 0], .bool true])) (((w.alloc o1).alloc o2).alloc (.cells cs 46)) := by
  unfold MnA
  rw [hL, hb, hn, if_pos hp]
  have hs : ((w.alloc o1).alloc o2).heap.size = w.heap.size + 1 + 1 := by simp
  have h1 := heap_alloc_new ((w.alloc o1).alloc o2) (.cells cs 46)
  rw [hs] at h1
  refine ⟨_, rfl, own_prL hn hl hc h1, fun k hk => ?_, (((Below.refl w.heap.size w).alloc (Nat.le_refl _) o1).alloc (by simp) o2).alloc (by simp; omega) _⟩
  have h9 : w.heap.size + 1 + 1 = k := (by simpa [Value.ownBlock] using hk)
  omega
set_option maxRecDepth 100000 in
set_option maxHeartbeats 4000000 in
theorem s_many (c : Int) (w : World) : Calls Tryd.prog 68 #[.int .i64 c] w (MnA c w) := by
  by_cases e1 : c = 100 ∨ c = 68
  · rcases e1 with rfl | rfl
    all_goals
      go_enter Tryd.func68, Tryd.ntmps68
      go_wp2
      refine bodyPost_ret (by simp [results, Tryd.results68, go_sem]; rfl) rfl ?_
      exact mn_new _ _ (L := [(48, 57)]) rfl rfl (by omega) (by omega) rfl rfl
  · by_cases e2 : c = 119 ∨ c = 87
    · clear e1
      rcases e2 with rfl | rfl
      all_goals
        go_enter Tryd.func68, Tryd.ntmps68
        go_wp2
        refine bodyPost_ret (by simp [results, Tryd.results68, go_sem]; rfl) rfl ?_
        exact mn_new _ _ (L := [(48, 57), (65, 90), (95, 95), (97, 122)]) rfl rfl (by omega) (by omega) rfl rfl
    · by_cases e3 : c = 115 ∨ c = 83
      · clear e1 e2
        rcases e3 with rfl | rfl
        all_goals
          go_enter Tryd.func68, Tryd.ntmps68
          go_wp2
          refine bodyPost_ret (by simp [results, Tryd.results68, go_sem]; rfl) rfl ?_
          exact mn_new _ _ (L := [(9, 10), (13, 13), (32, 32)]) rfl rfl (by omega) (by omega) rfl rfl
      · have E : Hid (ltR c = []) := hide (by unfold ltR; rw [if_neg e1, if_neg e2, if_neg e3])
        have b1 : (c == 100) = false := by simp; omega
        have b2 : (c == 68) = false := by simp; omega
        have b3 : (c == 119) = false := by simp; omega
        have b4 : (c == 87) = false := by simp; omega
        have b5 : (c == 115) = false := by simp; omega
        have b6 : (c == 83) = false := by simp; omega
        clear e1 e2 e3
        go_enter Tryd.func68, Tryd.ntmps68
        go_wp2
        refine bodyPost_ret (by simp [results, Tryd.results68, go_sem]; rfl) rfl ?_
        unfold MnA
        rw [E.out, if_neg (by simp)]
        exact ⟨rfl, ((Below.refl w.heap.size w).alloc (Nat.le_refl _) _).alloc (by simp) _⟩
end Go.Proofs.YtepommmmmfaihaaDoor
