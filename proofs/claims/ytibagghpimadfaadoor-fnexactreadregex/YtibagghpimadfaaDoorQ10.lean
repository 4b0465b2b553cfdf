/-
  Texts put together: RsD, Shelf.
-/
import Derived.Test.YtibagghpimadfaaDoorQ9
import Derived.Deep.RegionLaw
import Derived.Deep.DeepCutAuto
import Derived.Shelf.Unicode.ValidAny
import Derived.Shelf.Small.Utf8
import Derived.Shelf.Strconv.Itoa4
import Derived.Shelf.Strings.Search1
import Derived.Shelf.Strings.Runes
import Derived.Test.YtibagghpimadfaaDoorProg
/-
  Contracts of the specification's reader of expressions: a node more.
-/
namespace Go.Proofs.YtibagghpimadfaaDoor
open Go.RowKit Go.Joins
set_option linter.unusedVariables false
set_option linter.unusedSimpArgs false
section
variable {S : Nat → Prop} {w w' : World} {B R : Nat} {C : List Int} {k : Nat} {bd : Bool} {X : List Nd}
theorem sd_small (h : SD (fun j => B ≤ j) B R w C k bd X) : SD (fun j => B ≤ j ∧ j < w.heap.size) B R w C k bd X := by
  obtain ⟨h0, ta, tc, ad, c, h1, h2, h3⟩ := h
  refine ⟨h0, ta, tc, ad, c, h1, h2, xo_imp h3.1 (fun k hk hs => ⟨hs, hk⟩), fun k hk => ⟨h3.2 k hk, ?_⟩⟩
  obtain ⟨xs, ho, -⟩ := h3.1
  exact (ho.lt k hk).2
theorem sd_wide {M : Nat} (h : SD (fun j => B ≤ j ∧ j < M) B R w C k bd X) : SD (fun j => B ≤ j) B R w C k bd X := by
  obtain ⟨h0, ta, tc, ad, c, h1, h2, h3, h4⟩ := h
  exact ⟨h0, ta, tc, ad, c, h1, h2, xo_imp h3 (fun k _ hs => hs.1), fun k hk => (h4 k hk).1⟩
theorem sd_hi {T : Nat → Prop} {M : Nat} (h : SD (fun j => B ≤ j ∧ j < M) B R w C k bd X) (q : Kp T w w') (hT : ∀ j, T j → M ≤ j) (hTR : ¬ T R) (hB : B ≤ M) : SD (fun j => B ≤ j ∧ j < M) B R w' C k bd X := by
  obtain ⟨h0, ta, tc, ad, c, h1, h2, h3, h4⟩ := h
  have hlt := sx_lt h1
  exact ⟨h0, ta, tc, ad, c, (q.block R hlt hTR).trans h1, tx_go h2 (kp_below q (by omega) (fun j hj => by have := hT j hj; omega)), xo_kp h3 q (fun j hj ht => by have := (h4 j hj).2; have := hT j ht; omega) (fun B' z n v ys j hv hj hs ht => by have := hs.2; have := hT j ht; omega), h4⟩
/-- A node more, in memory. -/
theorem sa_fin {nk : Int} {nt : Bool} {L : List (Int × Int)} {a b mn mx : Int} {na : Option Addr} {nc nL m : Nat} {gg cap' : Nat} {w9 : World} {o : Obj} {ta ad : Option Addr} {tc c : Nat} {xs : List Value} (hm : X.length = m) (hnL : L.length = nL) (h0 : B ≤ R ∧ k ≤ C.length ∧ C.length ≤ 400) (h1 : SX w R ta C.length tc k bd ad X.length c) (h2 : Tx B w ta tc C) (hown : w.ownsRow B 53 7 (.slice ad m c) m xs) (hits : XItsZ 500 S w xs X) (hdj : Dj7 xs X.length) (hL : L.length ≤ 500) (hS : ∀ j, S j → B ≤ j)
    (ho : w.ownsRow 0 55 2 (.slice na nL nc) nL (prV L)) (hk : ∀ k, (Value.slice na L.length nc).ownBlock = some k → B ≤ k ∧ ¬ S k)
    (hown9 : w9.ownsRow B 53 7 (.slice (some ⟨gg, 0, none⟩) (m + 1) cap') (m + 1) (xs ++ [.int .i64 nk, .bool nt, .slice na nL nc, .int .i64 a, .int .i64 b, .int .i64 mn, .int .i64 mx])) (hg : (w.alloc o).grownBy w9 (Value.slice ad m c).ownBlock) (hat : (Value.slice ad m c).ownBlock = some gg ∨ gg = w.heap.size + 1) :
    w9.cell? ⟨R, 3, none⟩ = some (.slice ad m c) ∧ w9.frozen? ⟨R, 3, none⟩ = false ∧ SD (fun j => B ≤ j) B R (w9.setCell ⟨R, 3, none⟩ (.slice (some ⟨gg, 0, none⟩) (m + 1) cap')) C k bd (X ++ [⟨nk, nt, L, a, b, mn, mx⟩]) ∧ Below B w (w9.setCell ⟨R, 3, none⟩ (.slice (some ⟨gg, 0, none⟩) (m + 1) cap')) := by
  subst hm; subst hnL
  have hlt := sx_lt h1
  have hkp : Kp (fun j => (Value.slice ad X.length c).ownBlock = some j) w w9 := (kp_alloc w o).trans (kp_grown (S := fun j => (Value.slice ad X.length c).ownBlock = some j) hg (fun j hj => hj)) (fun j _ hj => hj)
  have r9 : SX w9 R ta C.length tc k bd ad X.length c := (hkp.block R hlt (fun e => type_ne hown e h1 (by decide) rfl)).trans h1
  have b9 : Below B w w9 := kp_below hkp (by omega) (fun k hk9 => (hown.lt k hk9).1)
  have ks := kp_r w9 R 3 (.slice (some ⟨gg, 0, none⟩) (X.length + 1) cap')
  have bs : Below B w9 (w9.setCell ⟨R, 3, none⟩ (.slice (some ⟨gg, 0, none⟩) (X.length + 1) cap')) := kp_below ks (by have := hkp.size; omega) (fun j hj => by have hj' : j = R := hj; omega)
  have i1 : XItsZ 500 (fun j => B ≤ j) w xs X := xits_imp hits (fun k _ hs => hS k hs)
  have i2 := xits_push i1 hown.1 (nd := ⟨nk, nt, L, a, b, mn, mx⟩) ho (fun k hk9 => (hk k hk9).1) hL
  have d2 := dj7_push hdj hown.1 (nd := ⟨nk, nt, L, a, b, mn, mx⟩) (ad := na) (cp := nc) (fun j k hj hk9 e => (hk k e).2 (xits_kb hits hj hk9).1)
  have i3 := xits_kp i2 hkp (fun B' z n v ys j hv hj _ e => own_ne hv hj hown e (by decide) rfl)
  have hl : (X ++ [(⟨nk, nt, L, a, b, mn, mx⟩ : Nd)]).length = X.length + 1 := by simp
  have hgB : B ≤ gg := by
    rcases hat with e | e
    · exact (hown.lt gg e).1
    · omega
  refine ⟨(sx_cells r9).2.2.2, sx_frozen r9 3, ⟨h0, ta, tc, some ⟨gg, 0, none⟩, cap', ?_, tx_go (tx_go h2 b9) bs, ?_, fun k hk9 => by have h9 : gg = k := (by simpa [Value.ownBlock] using hk9); omega⟩, b9.trans bs⟩
  · rw [hl]; exact sx_o r9 _ _ _
  · refine xo_sr r9 ⟨_, ?_, i3, ?_⟩ ks
    · rw [hl]; exact hown9
    · rw [hl]; exact d2
end
set_option maxRecDepth 100000 in
set_option maxHeartbeats 8000000 in
theorem s_add {S : Nat → Prop} (B R : Nat) (C : List Int) (k : Nat) (X : List Nd) (nd : Nd) (na : Option Addr) (nc : Nat) (w : World) (hX : X.length ≤ 120) (hL : nd.L.length ≤ 500) (h : SD S B R w C k false X) (hS : ∀ j, S j → B ≤ j) (ho : w.ownsRow 0 55 2 (.slice na nd.L.length nc) nd.L.length (prV nd.L)) (hk : ∀ k, (Value.slice na nd.L.length nc).ownBlock = some k → B ≤ k ∧ ¬ S k) :
    Calls Tryd.prog 45 #[.pointer (some ⟨R, 0, none⟩), .agg #[.int .i64 nd.k, .bool nd.nt, .slice na nd.L.length nc, .int .i64 nd.a, .int .i64 nd.b, .int .i64 nd.mn, .int .i64 nd.mx]] w fun e w' => e = .returned (.int .i64 (X.length : Int)) ∧ SD (fun j => B ≤ j) B R w' C k (decide (120 < X.length + 1)) (X ++ [nd]) ∧ Below B w w' := by
  obtain ⟨i0, hi0, hz0, hz1, hz2⟩ := info_parts infoND
  obtain ⟨nk, nt, L, a, b, mn, mx⟩ := nd
  obtain ⟨nL, hnL⟩ : ∃ nL, L.length = nL := ⟨_, rfl⟩
  have hbB := sd_lt h
  have bA : Below B w (w.alloc (.cells #[.int .i64 nk, .bool nt, .slice na L.length nc, .int .i64 a, .int .i64 b, .int .i64 mn, .int .i64 mx] 53)) := (Below.refl B w).alloc hbB _
  obtain ⟨h0, ta, tc, ad, c, h1, h2, h3⟩ := sd_bl h ((Below.refl w.heap.size w).alloc (Nat.le_refl _) (.cells #[.int .i64 nk, .bool nt, .slice na L.length nc, .int .i64 a, .int .i64 b, .int .i64 mn, .int .i64 mx] 53))
  have o1 := own_kp ho (kp_alloc (S := fun _ => False) w (.cells #[.int .i64 nk, .bool nt, .slice na L.length nc, .int .i64 a, .int .i64 b, .int .i64 mn, .int .i64 mx] 53)) (fun _ _ x => x)
  have hG := heap_alloc_new w (.cells #[.int .i64 nk, .bool nt, .slice na L.length nc, .int .i64 a, .int .i64 b, .int .i64 mn, .int .i64 mx] 53)
  have hsz : w.heap.size < (w.alloc (.cells #[.int .i64 nk, .bool nt, .slice na L.length nc, .int .i64 a, .int .i64 b, .int .i64 mn, .int .i64 mx] 53)).heap.size := by simp
  simp only [hnL] at hG h1 h2 h3 o1 hsz bA
  obtain ⟨G, hGw⟩ : ∃ G, w.heap.size = G := ⟨_, rfl⟩
  go_enter Tryd.func45, Tryd.ntmps45
  simp only [hnL]
  go_wp2_with fail
  obtain ⟨W, hW⟩ : ∃ W, w.alloc (.cells #[.int .i64 nk, .bool nt, .slice na nL nc, .int .i64 a, .int .i64 b, .int .i64 mn, .int .i64 mx] 53) = W := ⟨_, rfl⟩
  rw [hGw] at hG hsz
  rw [hW] at hG h1 h2 h3 o1 hsz bA
  rw [hW]
  clear hW
  obtain ⟨xs, hown, hits, hdj⟩ := h3.1
  have hBW : B ≤ W.heap.size := by omega
  have hRW := sx_lt h1
  have cG : ∀ i, W.drew.cell? ⟨G, i, none⟩ = (#[.int .i64 nk, .bool nt, .slice na nL nc, .int .i64 a, .int .i64 b, .int .i64 mn, .int .i64 mx] : Array Value)[i]? := fun i => by rw [cell_of_row W.drew G i _ _ (0, 0) hG]
  have g0 : W.drew.cell? ⟨G, 0, none⟩ = some (.int .i64 nk) := cG 0
  have g1 : W.drew.cell? ⟨G, 1, none⟩ = some (.bool nt) := cG 1
  have g2 : W.drew.cell? ⟨G, 2, none⟩ = some (.slice na nL nc) := cG 2
  have g3 : W.drew.cell? ⟨G, 3, none⟩ = some (.int .i64 a) := cG 3
  have g4 : W.drew.cell? ⟨G, 4, none⟩ = some (.int .i64 b) := cG 4
  have g5 : W.drew.cell? ⟨G, 5, none⟩ = some (.int .i64 mn) := cG 5
  have g6 : W.drew.cell? ⟨G, 6, none⟩ = some (.int .i64 mx) := cG 6
  have r1 : W.drew.cell? ⟨R, 3, none⟩ = some (.slice ad X.length c) := (sx_cells (w := W.drew) h1).2.2.2
  have r1a : ∀ o, (W.alloc o).cell? ⟨R, 3, none⟩ = some (.slice ad X.length c) := fun o => (sx_cells (w := W.alloc o) ((kp_alloc (S := fun _ => False) W o).block R hRW (fun x => x) |>.trans h1)).2.2.2
  have r1b : ∀ o, (W.alloc o).drew.cell? ⟨R, 3, none⟩ = some (.slice ad X.length c) := fun o => r1a o
  have H1 := hide h1
  have H2 := hide h2
  have HOW := hide hown
  have HIT := hide hits
  have HDJ := hide hdj
  have HS := hide hS
  have HK := hide hk
  have HO := hide o1
  have HA := hide bA
  obtain ⟨m, hm⟩ : ∃ m, X.length = m := ⟨_, rfl⟩
  have HM := hide hm
  rw [hm] at r1 r1a r1b hX HOW
  clear cG h1 h2 hown hits hdj hS hk o1 bA h ho hG hm hGw hbB
  go_cut [] (fun wx => SD (fun j => B ≤ j) B R wx C k false (X ++ [⟨nk, nt, L, a, b, mn, mx⟩]) ∧ Below B w wx)
  case first =>
    go_region_law (first
      | (refine step_append_lies _ (by rfl) _ _ _ (by rfl) B 53 i0 _ 7 72 Tryd.underlying25 hi0 hz0 hz1 hz2 rfl (by omega) (.slice ad m c) m xs (by rfl) (HOW.out.alloc _).drew ⟨W.heap.size, 0, none⟩ 1 1 [.int .i64 nk, .bool nt, .slice na nL nc, .int .i64 a, .int .i64 b, .int .i64 mn, .int .i64 mx] (by rfl) (by rfl) (World.news_of_block (cs := #[.int .i64 nk, .bool nt, .slice na nL nc, .int .i64 a, .int .i64 b, .int .i64 mn, .int .i64 mx]) (t := 53) (fr := (0, 0)) (heap_alloc_new W _)) (by simp [Value.oneCell']) (by omega) (by unfold maxLen; omega) (by omega) (by simp; omega) (W.heap.size + 1) (by simp) ?_; intro gg cap' w9 hown9 hgrow9 hat9 hlt9; have hgr9 := grown_undrewR hgrow9; obtain ⟨hc9, hf9, h9, hb9⟩ := sa_fin HM.out hnL h0 H1.out H2.out HOW.out HIT.out HDJ.out hL HS.out HO.out HK.out hown9 hgr9 hat9; have H9 := hide h9; have HB9 := hide (HA.out.trans hb9); clear hown9 hgrow9 hgr9 hat9 h9 hb9)
      | (fail))
    all_goals
      go_wp2
      go_meet
      exact ⟨H9.out, HB9.out⟩
  case rest =>
    obtain ⟨h9, hb9⟩ := hcut
    have hl : (X ++ [(⟨nk, nt, L, a, b, mn, mx⟩ : Nd)]).length = m + 1 := by rw [List.length_append, HM.out]; rfl
    obtain ⟨ta9, tc9, ad9, cp9, ⟨c0, c1, c2, c3⟩, f9, -⟩ := sd_cells h9
    have f2 := f9 2
    rw [hl] at c3
    have H9 := hide h9
    have HB9 := hide hb9
    have hwm : IntKind.i64.wrap ((m : Int) + 1 - 1) = (m : Int) := by rw [IntKind.wrap_i64]; omega
    have hwm2 : IntKind.i64.wrap (((m + 1 : Nat) : Int) - 1) = (m : Int) := by rw [IntKind.wrap_i64]; omega
    have hwm3 : IntKind.i64.wrap (m : Int) = (m : Int) := by rw [IntKind.wrap_i64]; omega
    clear h9 hb9 hl f9 H1 H2 HOW HIT HDJ HS HK HO HA g0 g1 g2 g3 g4 g5 g6 r1 r1a r1b hsz
    by_cases hbig : 120 < m + 1
    · have hb1 : (120 : Int) < (m : Int) + 1 := by omega
      have hb2 : (120 : Int) < ((m + 1 : Nat) : Int) := by omega
      have HS2 := hide (sd_b H9.out true)
      have HB2 := hide (HB9.out.trans (sd_kpB H9.out (kp_r _ R 2 (.bool true))))
      have HD : Hid (decide (120 < m + 1) = true) := hide (decide_eq_true hbig)
      go_wp2
      go_ret
      rw [HM.out, HD.out]
      exact ⟨by simp, HS2.out, HB2.out⟩
    · have hb1 : ¬ (120 : Int) < (m : Int) + 1 := by omega
      have hb2 : ¬ (120 : Int) < ((m + 1 : Nat) : Int) := by omega
      have HD : Hid (decide (120 < m + 1) = false) := hide (decide_eq_false hbig)
      go_wp2
      go_ret
      rw [HM.out, HD.out]
      exact ⟨by simp, H9.out, HB9.out⟩
end Go.Proofs.YtibagghpimadfaaDoor

/-
  Contracts of Go's own library at this program, laid by the shelf's plain mode: each is one application of a theorem of the library.
-/
namespace Go.Proofs
open Go.Shelf
def Tryd.lays119_ren : Go.Shelf.Ren := ⟨fun | 119 => 116 | n => n, fun | 21 => 21 | 4 => 4 | n => n, fun | n => n⟩
theorem Tryd.lays119 : Go.Proofs.Lays.n119 Tryd.prog Tryd.lays119_ren := {
  mixed := by kernel_rfl
  f119 := Tryd.func116.trans (congrArg some (by kernel_rfl))
  t4 := Tryd.underlying4
  a4 := Tryd.isAgg4
  z4 := Tryd.sizeOf4
  v4 := Tryd.zeroValue4
  t21 := Tryd.underlying21
  a21 := Tryd.isAgg21
  z21 := Tryd.sizeOf21
  v21 := Tryd.zeroValue21 }
/-- utf8.ValidRune: "ValidRune reports whether r can be legally encoded as UTF-8. Code points that are out of range or a surrogate half are illegal.": IT RETURNS 'Lib.validRune r'; the world is as it was. (LAID: no walk: one application.) -/
theorem Tryd.utf8_ValidRune (r : Int) (w : World) :
    Calls Tryd.prog 116 #[.int .i32 r] w fun e w' => e = .returned (.bool (Lib.validRune r)) ∧ w' = w := Any.utf8_ValidRune Tryd.lays119 r w
def Tryd.lays137_ren : Go.Shelf.Ren := ⟨fun | 137 => 115 | 217 => 121 | 266 => 122 | n => n, fun | 9 => 9 | 5 => 5 | 3 => 3 | n => n, fun | n => n⟩
theorem Tryd.lays137 : Go.Proofs.Lays.n137 Tryd.prog Tryd.lays137_ren := {
  mixed := by kernel_rfl
  f137 := Tryd.func115.trans (congrArg some (by kernel_rfl))
  f217 := Tryd.func121.trans (congrArg some (by kernel_rfl))
  f266 := Tryd.func122.trans (congrArg some (by kernel_rfl))
  t3 := Tryd.underlying3
  a3 := Tryd.isAgg3
  z3 := Tryd.sizeOf3
  v3 := Tryd.zeroValue3
  t5 := Tryd.underlying5
  a5 := Tryd.isAgg5
  z5 := Tryd.sizeOf5
  v5 := Tryd.zeroValue5
  t9 := Tryd.underlying9
  a9 := Tryd.isAgg9
  z9 := Tryd.sizeOf9
  v9 := Tryd.zeroValue9 }
open Go.RowKit in
/-- strings.IndexByte: "IndexByte returns the index of the first instance of c in s, or -1 if c is not present in s.": IT RETURNS 'Lib.indexByte s c'; the world is as it was. (LAID: no walk: one application.) -/
theorem Tryd.strings_IndexByte (s : ByteArray) (c : Int) (w : World) :
    Calls Tryd.prog 115 #[.string s, .int .u8 c] w fun e w' => e = .returned (.int .i64 (Lib.indexByte s.data.toList c.toNat.toUInt8)) ∧ w' = w := Any.strings_IndexByte Tryd.lays137 s c w
def Tryd.laysM173_ren : Go.Shelf.Ren := ⟨fun | 173 => 71 | 246 => 85 | 283 => 94 | 284 => 95 | 285 => 96 | 286 => 97 | 129 => 107 | 317 => 106 | 318 => 108 | 319 => 109 | 320 => 110 | 337 => 119 | 338 => 120 | n => n, fun | 2 => 2 | 3 => 3 | 9 => 9 | 4 => 4 | 171 => 116 | 0 => 0 | 53 => 102 | 37 => 22 | 5 => 5 | 173 => 119 | 212 => 125 | 51 => 126 | 20 => 20 | 213 => 127 | 46 => 90 | 232 => 134 | 233 => 135 | n => n, fun | 17 => 2 | 18 => 4 | 19 => 5 | n => n⟩
theorem Tryd.laysM173 : Go.Proofs.LaysM.n173 Tryd.prog Tryd.laysM173_ren := {
  mixed := by kernel_rfl
  f129 := Tryd.func107.trans (congrArg some (by kernel_rfl))
  f173 := Tryd.func71.trans (congrArg some (by kernel_rfl))
  f246 := Tryd.func85.trans (congrArg some (by kernel_rfl))
  f283 := Tryd.func94.trans (congrArg some (by kernel_rfl))
  f284 := Tryd.func95.trans (congrArg some (by kernel_rfl))
  f285 := Tryd.func96.trans (congrArg some (by kernel_rfl))
  f286 := Tryd.func97.trans (congrArg some (by kernel_rfl))
  f317 := Tryd.func106.trans (congrArg some (by kernel_rfl))
  f318 := Tryd.func108.trans (congrArg some (by kernel_rfl))
  f319 := Tryd.func109.trans (congrArg some (by kernel_rfl))
  f320 := Tryd.func110.trans (congrArg some (by kernel_rfl))
  f337 := Tryd.func119.trans (congrArg some (by kernel_rfl))
  f338 := Tryd.func120.trans (congrArg some (by kernel_rfl))
  t0 := Tryd.underlying0
  a0 := Tryd.isAgg0
  z0 := Tryd.sizeOf0
  v0 := Tryd.zeroValue0
  t2 := Tryd.underlying2
  a2 := Tryd.isAgg2
  z2 := Tryd.sizeOf2
  v2 := Tryd.zeroValue2
  t3 := Tryd.underlying3
  a3 := Tryd.isAgg3
  z3 := Tryd.sizeOf3
  v3 := Tryd.zeroValue3
  t4 := Tryd.underlying4
  a4 := Tryd.isAgg4
  z4 := Tryd.sizeOf4
  v4 := Tryd.zeroValue4
  t5 := Tryd.underlying5
  a5 := Tryd.isAgg5
  z5 := Tryd.sizeOf5
  v5 := Tryd.zeroValue5
  t9 := Tryd.underlying9
  a9 := Tryd.isAgg9
  z9 := Tryd.sizeOf9
  v9 := Tryd.zeroValue9
  t20 := Tryd.underlying20
  a20 := Tryd.isAgg20
  z20 := Tryd.sizeOf20
  v20 := Tryd.zeroValue20
  t37 := Tryd.underlying22
  a37 := Tryd.isAgg22
  z37 := Tryd.sizeOf22
  v37 := Tryd.zeroValue22
  t46 := Tryd.underlying90
  a46 := Tryd.isAgg90
  z46 := Tryd.sizeOf90
  v46 := Tryd.zeroValue90
  t51 := Tryd.underlying126
  a51 := Tryd.isAgg126
  z51 := Tryd.sizeOf126
  v51 := Tryd.zeroValue126
  t53 := Tryd.underlying102
  a53 := Tryd.isAgg102
  z53 := Tryd.sizeOf102
  v53 := Tryd.zeroValue102
  t171 := Tryd.underlying116
  a171 := Tryd.isAgg116
  z171 := Tryd.sizeOf116
  v171 := Tryd.zeroValue116
  t173 := Tryd.underlying119
  a173 := Tryd.isAgg119
  z173 := Tryd.sizeOf119
  v173 := Tryd.zeroValue119
  t212 := Tryd.underlying125
  a212 := Tryd.isAgg125
  z212 := Tryd.sizeOf125
  v212 := Tryd.zeroValue125
  t213 := Tryd.underlying127
  a213 := Tryd.isAgg127
  z213 := Tryd.sizeOf127
  t232 := Tryd.underlying134
  a232 := Tryd.isAgg134
  z232 := Tryd.sizeOf134
  v232 := Tryd.zeroValue134
  t233 := Tryd.underlying135
  a233 := Tryd.isAgg135
  z233 := Tryd.sizeOf135
  v233 := Tryd.zeroValue135
  g17 := by kernel_rfl
  g18 := by kernel_rfl
  g19 := by kernel_rfl
  i0 := by kernel_rfl
  i2 := by kernel_rfl
  i3 := by kernel_rfl
  i4 := by kernel_rfl
  i5 := by kernel_rfl
  i9 := by kernel_rfl
  i20 := by kernel_rfl
  i37 := by kernel_rfl
  i46 := by kernel_rfl
  i51 := by kernel_rfl
  i53 := by kernel_rfl
  i171 := by kernel_rfl
  i173 := by kernel_rfl
  i212 := by kernel_rfl
  i232 := by kernel_rfl
  i233 := by kernel_rfl
  m17 := by kernel_rfl
  m18 := by kernel_rfl
  m19 := by kernel_rfl }
open Go.RowKit Go.Sort Go.Lib in
/-- strconv.FormatInt: "FormatInt returns the string representation of i in the given base": AT BASE 10: i's decimal numeral, for every int64. (LAID: no walk: one application.) -/
theorem Tryd.strconv_FormatInt_10 (n : Int) (h0 : -9223372036854775808 ≤ n) (h1 : n ≤ 9223372036854775807) (w : World) (htab : Lib.TabIs Tryd.prog w "internal/strconv.uint64pow10" .u64 Lib.pow10Tab) :
    Calls Tryd.prog 71 #[.int .i64 n, .int .i64 10] w fun e w' => e = .returned (.string ⟨(Lib.itoa n).toArray⟩) ∧ ∃ k os, w' = grow (w.drewN k) os := Any.strconv_FormatInt_10 Tryd.laysM173 n h0 h1 w htab
def Tryd.lays151_ren : Go.Shelf.Ren := ⟨fun | 151 => 93 | 152 => 105 | 137 => 115 | 119 => 116 | 224 => 117 | 225 => 118 | 217 => 121 | 266 => 122 | n => n, fun | 9 => 9 | 21 => 21 | 4 => 4 | 3 => 3 | 5 => 5 | 0 => 0 | 46 => 90 | n => n, fun | n => n⟩
theorem Tryd.lays151 : Go.Proofs.Lays.n151 Tryd.prog Tryd.lays151_ren := {
  mixed := by kernel_rfl
  f119 := Tryd.func116.trans (congrArg some (by kernel_rfl))
  f137 := Tryd.func115.trans (congrArg some (by kernel_rfl))
  f151 := Tryd.func93.trans (congrArg some (by kernel_rfl))
  f152 := Tryd.func105.trans (congrArg some (by kernel_rfl))
  f217 := Tryd.func121.trans (congrArg some (by kernel_rfl))
  f224 := Tryd.func117.trans (congrArg some (by kernel_rfl))
  f225 := Tryd.func118.trans (congrArg some (by kernel_rfl))
  f266 := Tryd.func122.trans (congrArg some (by kernel_rfl))
  t0 := Tryd.underlying0
  a0 := Tryd.isAgg0
  z0 := Tryd.sizeOf0
  v0 := Tryd.zeroValue0
  t3 := Tryd.underlying3
  a3 := Tryd.isAgg3
  z3 := Tryd.sizeOf3
  v3 := Tryd.zeroValue3
  t4 := Tryd.underlying4
  a4 := Tryd.isAgg4
  z4 := Tryd.sizeOf4
  v4 := Tryd.zeroValue4
  t5 := Tryd.underlying5
  a5 := Tryd.isAgg5
  z5 := Tryd.sizeOf5
  v5 := Tryd.zeroValue5
  t9 := Tryd.underlying9
  a9 := Tryd.isAgg9
  z9 := Tryd.sizeOf9
  v9 := Tryd.zeroValue9
  t21 := Tryd.underlying21
  a21 := Tryd.isAgg21
  z21 := Tryd.sizeOf21
  v21 := Tryd.zeroValue21
  t46 := Tryd.underlying90
  a46 := Tryd.isAgg90
  z46 := Tryd.sizeOf90
  v46 := Tryd.zeroValue90 }
open Go.RowKit Go.Lib in
theorem Tryd.strings_ContainsRune_ascii (s : ByteArray) (r : Int) (w : World) (h0 : 0 ≤ r) (h1 : r < 128) :
    Calls Tryd.prog 93 #[.string s, .int .i32 r] w fun e w' => e = .returned (.bool (decide (0 ≤ Lib.indexByte s.data.toList r.toNat.toUInt8))) ∧ w' = w := Any.strings_ContainsRune_ascii Tryd.lays151 s r w h0 h1
def Tryd.laysValid_ren : Go.Shelf.Ren := ⟨fun | 196 => 29 | 259 => 52 | n => n, fun | 9 => 9 | 4 => 4 | 3 => 3 | 5 => 5 | 12 => 12 | 119 => 86 | 0 => 0 | 46 => 90 | 139 => 89 | 138 => 88 | 53 => 102 | n => n, fun | 3 => 0 | 4 => 1 | n => n⟩
theorem Tryd.laysValid : Go.Proofs.Lays.n196 Tryd.prog Tryd.laysValid_ren := {
  mixed := by kernel_rfl
  f196 := Tryd.func29.trans (congrArg some (by kernel_rfl))
  f259 := Tryd.func52.trans (congrArg some (by kernel_rfl))
  t0 := Tryd.underlying0
  a0 := Tryd.isAgg0
  z0 := Tryd.sizeOf0
  v0 := Tryd.zeroValue0
  t3 := Tryd.underlying3
  a3 := Tryd.isAgg3
  z3 := Tryd.sizeOf3
  v3 := Tryd.zeroValue3
  t4 := Tryd.underlying4
  a4 := Tryd.isAgg4
  z4 := Tryd.sizeOf4
  v4 := Tryd.zeroValue4
  t5 := Tryd.underlying5
  a5 := Tryd.isAgg5
  z5 := Tryd.sizeOf5
  v5 := Tryd.zeroValue5
  t9 := Tryd.underlying9
  a9 := Tryd.isAgg9
  z9 := Tryd.sizeOf9
  v9 := Tryd.zeroValue9
  t12 := Tryd.underlying12
  a12 := Tryd.isAgg12
  z12 := Tryd.sizeOf12
  v12 := Tryd.zeroValue12
  t46 := Tryd.underlying90
  a46 := Tryd.isAgg90
  z46 := Tryd.sizeOf90
  v46 := Tryd.zeroValue90
  t53 := Tryd.underlying102
  a53 := Tryd.isAgg102
  z53 := Tryd.sizeOf102
  v53 := Tryd.zeroValue102
  t119 := Tryd.underlying86
  a119 := Tryd.isAgg86
  z119 := Tryd.sizeOf86
  t138 := Tryd.underlying88
  a138 := Tryd.isAgg88
  z138 := Tryd.sizeOf88
  v138 := Tryd.zeroValue88
  t139 := Tryd.underlying89
  a139 := Tryd.isAgg89
  z139 := Tryd.sizeOf89
  v139 := Tryd.zeroValue89
  g3 := by kernel_rfl
  g4 := by kernel_rfl }
end Go.Proofs
