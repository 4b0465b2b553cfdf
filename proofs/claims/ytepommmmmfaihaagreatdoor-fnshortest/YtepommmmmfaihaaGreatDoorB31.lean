/-
  Texts put together: RgX, DrOff, RgY.
-/
import Derived.Test.YtepommmmmfaihaaGreatDoorB30
import Derived.Deep.QuietTactic
/-
  Contracts of the draw of an expression's text: whatever the code is, some text of at most 200 bytes.
-/
namespace Go.Proofs.YtepommmmmfaihaaGreatDoor
open Go.RowKit
set_option linter.unusedVariables false
set_option linter.unusedSimpArgs false
theorem below_drewG {G : Nat} {a : Option Addr} {n cap : Nat} {zs : List Int} {w w1 w2 : World} (h : Below G w w1) (hd : Drew G a n cap zs w1 w2) (hG : G ≤ w1.heap.size) : Below G w w2 :=
  h.grown hd.2 hG (fun k hk => by cases hk; exact Nat.le_refl _)
theorem str_cellG {w w1 : World} {G : Nat} (K : Nat) {cs : Array Value} {T : TypeId} {x : Int} {N : Nat} (hg : (w.alloc (.cells cs T)).grownBy w1 (some G)) (h0 : 0 ≤ x) (hx : x < N) (hN : cs.size = N) (hG : G < w.heap.size) (hK : ∀ k, k < N → ∃ s : ByteArray, cs[k]? = some (.string s) ∧ s.size ≤ K) : ∃ s : ByteArray, w1.cell? ⟨w.heap.size, x.toNat, none⟩ = some (.string s) ∧ s.size ≤ K := by
  have hb := hg.block w.heap.size (by simp) (fun e => by cases e; omega)
  rw [World.cell?_of_block (a := ⟨w.heap.size, x.toNat, none⟩) hb, cell_of_row _ w.heap.size x.toNat _ T (0, 0) (heap_alloc_new w _)]
  exact hK x.toNat (by omega)
/-- How long such a text is at most. -/
def bsR : Nat → Nat
  | 0 => 10
  | d + 1 => 2 * bsR d + 10
theorem bsR_le : ∀ d, 10 ≤ bsR d
  | 0 => Nat.le_refl _
  | d + 1 => by have := bsR_le d; rw [bsR]; omega
theorem bsR_3 : ∀ d, d ≤ 3 → bsR d ≤ 150
  | 0, _ => by decide
  | 1, _ => by decide
  | 2, _ => by decide
  | 3, _ => by decide
def RxD (G : Nat) (a : Option Addr) (n cap : Nat) (zs : List Int) (d : Nat) : Prop := ∀ w, RdAt w G a n cap zs → Calls Tryz.prog 37 #[.pointer (some ⟨G, 0, none⟩), .int .i64 (d : Int)] w fun e w' => ∃ s : ByteArray, s.size ≤ bsR d ∧ e = .returned (.string s) ∧ Drew G a n cap zs w w'
set_option maxRecDepth 100000 in
set_option maxHeartbeats 8000000 in
theorem d_rxS (G : Nat) (a : Option Addr) (n cap : Nat) (zs : List Int) (d : Nat) (hd3 : d ≤ 3) (ih : ∀ q, d = q + 1 → RxD G a n cap zs q) : RxD G a n cap zs d := by
  intro w h
  have HH := hide h
  have hG := rd_lt h
  have hb10 := bsR_le d
  clear h
  go_enter Tryz.func37, Tryz.ntmps37
  go_wp2_with fail
  refine (d_below G a n cap zs 9 _ (by omega) (by omega) HH.out).mono ?_
  rintro e w1 ⟨x, hx0, hx1, rfl, hd⟩
  have R1 := hide hd.1
  have D1 := hide hd
  have hG1 := rd_lt hd.1
  clear hd
  by_cases e0 : x = 0 ∨ x = 1
  · rcases e0 with rfl | rfl
    all_goals
      go_wp2_with fail
      refine (d_below G a n cap zs 6 _ (by omega) (by omega) (rd_alloc R1.out _)).mono ?_
      rintro e w2 ⟨y, hy0, hy1, rfl, hd2⟩
      obtain ⟨s, hs, hs1⟩ := str_cellG 10 hd2.2 hy0 hy1 rfl hG1 (fun k hk => by
        have hk' : k < 6 := hk
        rcases (show k = 0 ∨ k = 1 ∨ k = 2 ∨ k = 3 ∨ k = 4 ∨ k = 5 by omega) with e | e | e | e | e | e <;> subst e <;> exact ⟨_, rfl, by decide⟩)
      have D2 := hide (drew_trans D1.out (drew_alloc _ hd2))
      clear hd2
      go_wp2
      go_ret
      exact ⟨s, by omega, rfl, D2.out⟩
  · have b0 : (x == 0) = false := by simp; omega
    have b1 : (x == 1) = false := by simp; omega
    by_cases e2 : x = 2
    · subst e2
      go_wp2_with fail
      refine (d_below G a n cap zs 9 _ (by omega) (by omega) (rd_alloc R1.out _)).mono ?_
      rintro e w2 ⟨y, hy0, hy1, rfl, hd2⟩
      obtain ⟨s, hs, hs1⟩ := str_cellG 10 hd2.2 hy0 hy1 rfl hG1 (fun k hk => by
        have hk' : k < 9 := hk
        rcases (show k = 0 ∨ k = 1 ∨ k = 2 ∨ k = 3 ∨ k = 4 ∨ k = 5 ∨ k = 6 ∨ k = 7 ∨ k = 8 by omega) with e | e | e | e | e | e | e | e | e <;> subst e <;> exact ⟨_, rfl, by decide⟩)
      have D2 := hide (drew_trans D1.out (drew_alloc _ hd2))
      clear hd2
      go_wp2
      go_ret
      exact ⟨s, by omega, rfl, D2.out⟩
    · have b2 : (x == 2) = false := by simp; omega
      clear e0 e2
      cases d with
      | zero =>
        go_wp2
        go_ret
        exact ⟨⟨#[97]⟩, by decide, rfl, D1.out⟩
      | succ q =>
        have IH := hide (ih q rfl)
        have hq3 := bsR_3 q (by omega)
        have bd : (((q + 1 : Nat) : Int) == 0) = false := by simp; omega
        have bd2 : ((q : Int) + 1 == 0) = false := by simp; omega
        have hw : IntKind.i64.wrap (((q + 1 : Nat) : Int) - 1) = (q : Int) := by rw [IntKind.wrap_i64]; omega
        have hw2 : IntKind.i64.wrap ((q : Int) + 1 - 1) = (q : Int) := by rw [IntKind.wrap_i64]; omega
        have hw3 : IntKind.i64.wrap (q : Int) = (q : Int) := by rw [IntKind.wrap_i64]; omega
        have z40 : (⟨#[40]⟩ : ByteArray).size = 1 := rfl
        have z41 : (⟨#[41]⟩ : ByteArray).size = 1 := rfl
        have z124 : (⟨#[124]⟩ : ByteArray).size = 1 := rfl
        have z12 : (⟨#[124, 41]⟩ : ByteArray).size = 2 := rfl
        have EB : Hid (bsR (q + 1) = 2 * bsR q + 10) := hide rfl
        clear ih hb10
        go_wp2_with fail
        refine (d_below G a n cap zs 5 _ (by omega) (by omega) R1.out).mono ?_
        rintro e w2 ⟨y, hy0, hy1, rfl, hd2⟩
        have R2 := hide hd2.1
        have D2 := hide (drew_trans D1.out hd2)
        clear hd2
        by_cases f0 : y = 0
        · subst f0
          go_wp2_with fail
          refine (IH.out _ R2.out).mono ?_
          rintro e w3 ⟨s1, hs1, rfl, hd3'⟩
          have R3 := hide hd3'.1
          have D3 := hide (drew_trans D2.out hd3')
          clear hd3'
          go_wp2_with fail
          refine (IH.out _ R3.out).mono ?_
          rintro e w4 ⟨s2, hs2, rfl, hd4⟩
          have D4 := hide (drew_trans D3.out hd4)
          clear hd4
          go_wp2
          go_ret
          exact ⟨_, by have := EB.out; simp only [ByteArray.size_append]; omega, rfl, D4.out⟩
        · have c0 : (y == 0) = false := by simp; omega
          by_cases f1 : y = 1
          · subst f1
            go_wp2_with fail
            refine (IH.out _ R2.out).mono ?_
            rintro e w3 ⟨s1, hs1, rfl, hd3'⟩
            have R3 := hide hd3'.1
            have D3 := hide (drew_trans D2.out hd3')
            have hG3 := rd_lt hd3'.1
            clear hd3'
            go_wp2_with fail
            refine (d_below G a n cap zs 7 _ (by omega) (by omega) (rd_alloc R3.out _)).mono ?_
            rintro e w4 ⟨z, hz0, hz1, rfl, hd4⟩
            obtain ⟨s, hs, hs2⟩ := str_cellG 5 hd4.2 hz0 hz1 rfl hG3 (fun k hk => by
              have hk' : k < 7 := hk
              rcases (show k = 0 ∨ k = 1 ∨ k = 2 ∨ k = 3 ∨ k = 4 ∨ k = 5 ∨ k = 6 by omega) with e | e | e | e | e | e | e <;> subst e <;> exact ⟨_, rfl, by decide⟩)
            have D4 := hide (drew_trans D3.out (drew_alloc _ hd4))
            clear hd4
            go_wp2
            go_ret
            exact ⟨_, by have := EB.out; simp only [ByteArray.size_append]; omega, rfl, D4.out⟩
          · have c1 : (y == 1) = false := by simp; omega
            by_cases f2 : y = 2
            · subst f2
              go_wp2_with fail
              refine (IH.out _ R2.out).mono ?_
              rintro e w3 ⟨s1, hs1, rfl, hd3'⟩
              have D3 := hide (drew_trans D2.out hd3')
              clear hd3'
              go_wp2
              go_ret
              exact ⟨_, by have := EB.out; simp only [ByteArray.size_append]; omega, rfl, D3.out⟩
            · have c2 : (y == 2) = false := by simp; omega
              go_wp2_with fail
              refine (IH.out _ R2.out).mono ?_
              rintro e w3 ⟨s1, hs1, rfl, hd3'⟩
              have R3 := hide hd3'.1
              have D3 := hide (drew_trans D2.out hd3')
              clear hd3'
              go_wp2_with fail
              refine (IH.out _ R3.out).mono ?_
              rintro e w4 ⟨s2, hs2, rfl, hd4⟩
              have D4 := hide (drew_trans D3.out hd4)
              clear hd4
              go_wp2
              go_ret
              exact ⟨_, by have := EB.out; simp only [ByteArray.size_append]; omega, rfl, D4.out⟩
theorem d_rx (G : Nat) (a : Option Addr) (n cap : Nat) (zs : List Int) : ∀ d, d ≤ 3 → RxD G a n cap zs d
  | 0, _ => d_rxS G a n cap zs 0 (by omega) (fun q h => by omega)
  | d + 1, h => d_rxS G a n cap zs (d + 1) h (fun q hq => by obtain rfl : d = q := (by omega); exact d_rx G a n cap zs d (by omega))
set_option maxRecDepth 100000 in
set_option maxHeartbeats 4000000 in
theorem d_readRegex (a : Option Addr) (n cap : Nat) (zs : List Int) (w : World) (hl : zs.length = n) (hz : ∀ x ∈ zs, 0 ≤ x ∧ x ≤ 255) (hn : n ≤ 1048576) (hs : SrcAt w a zs w.heap.size) :
    Calls Tryz.prog 27 #[.slice a n cap] w fun e w' => ∃ (s : ByteArray), s.size ≤ 200 ∧ e = .returned (.string s) ∧ Below w.heap.size w w' := by
  obtain ⟨G, hG⟩ : ∃ G, w.heap.size = G := ⟨_, rfl⟩
  have HS := hide hs
  have HL := hide hl
  have HZ := hide hz
  have HG := hide hG
  clear hs hl hz hG
  go_enter Tryz.func27, Tryz.ntmps27
  go_wp2_with fail
  refine (d_open a n cap zs _ HL.out HZ.out hn HS.out).mono ?_
  rintro e w1 ⟨rfl, hr1, hb1⟩
  rw [HG.out] at hr1 hb1 ⊢
  have R1 := hide hr1
  have B1 := hide hb1
  clear hr1 hb1
  go_wp2_with fail
  refine (d_rx G a n cap zs 3 (by omega) _ R1.out).mono ?_
  rintro e w2 ⟨s1, hs1, rfl, hd⟩
  have B2 := hide (below_drewG B1.out hd (Nat.le_of_lt (rd_lt R1.out)))
  have R2 := hide hd.1
  have hs2 := bsR_3 3 (by omega)
  clear hd
  go_wp2_with fail
  refine (d_once G a n cap zs 3 _ (by omega) (by omega) R2.out).mono ?_
  rintro e w4 ⟨b, rfl, hd⟩
  have B4 := hide (below_drewG B2.out hd (Nat.le_of_lt (rd_lt R2.out)))
  have R4 := hide hd.1
  have hG4 := rd_lt hd.1
  clear hd
  cases b
  · go_wp2
    go_ret
    exact ⟨s1, by omega, rfl, by rw [HG.out]; exact B4.out⟩
  · go_wp2_with fail
    refine (d_below G a n cap zs 13 _ (by omega) (by omega) (rd_alloc R4.out _)).mono ?_
    rintro e w5 ⟨y, hy0, hy1, rfl, hd2⟩
    obtain ⟨s, hs, hs3⟩ := str_cellG 10 hd2.2 hy0 hy1 rfl hG4 (fun k hk => by
      have hk' : k < 13 := hk
      rcases (show k = 0 ∨ k = 1 ∨ k = 2 ∨ k = 3 ∨ k = 4 ∨ k = 5 ∨ k = 6 ∨ k = 7 ∨ k = 8 ∨ k = 9 ∨ k = 10 ∨ k = 11 ∨ k = 12 by omega) with e | e | e | e | e | e | e | e | e | e | e | e | e <;> subst e <;> exact ⟨_, rfl, by decide⟩)
    have B5 := hide (below_drewG B4.out (drew_alloc _ hd2) (Nat.le_of_lt hG4))
    clear hd2
    go_wp2
    go_ret
    exact ⟨_, by simp only [ByteArray.size_append]; omega, rfl, by rw [HG.out]; exact B5.out⟩
end Go.Proofs.YtepommmmmfaihaaGreatDoor

/-
  Contracts of the drawing reader: a number in a range, or just outside of it, and a text: what it leaves.
-/
namespace Go.Proofs.YtepommmmmfaihaaGreatDoor
open Go.RowKit
set_option linter.unusedVariables false
set_option linter.unusedSimpArgs false
theorem below_drew {G : Nat} {a : Option Addr} {n cap : Nat} {zs : List Int} {w w1 w2 : World} (h : Below G w w1) (hd : Drew G a n cap zs w1 w2) (hG : G ≤ w1.heap.size) : Below G w w2 :=
  h.grown hd.2 hG (fun k hk => by cases hk; exact Nat.le_refl _)
theorem drew_refl {G : Nat} {a : Option Addr} {n cap : Nat} {zs : List Int} {w : World} (h : RdAt w G a n cap zs) : Drew G a n cap zs w w := ⟨h, grown_refl w _⟩
theorem off_cell (w w1 : World) (G : Nat) (x : Int) (h0 : 0 ≤ x) (h7 : x < 4) (hG : G < w.heap.size) {p q r s : Int} {T : TypeId}
    (hg : (w.alloc (.cells #[.int .i64 p, .int .i64 q, .int .i64 r, .int .i64 s] T)).grownBy w1 (some G)) :
    ∃ y : Int, w1.cell? ⟨w.heap.size, x.toNat, none⟩ = some (.int .i64 y) := by
  have hb := hg.block w.heap.size (by simp) (fun e => by cases e; omega)
  rw [World.cell?_of_block (a := ⟨w.heap.size, x.toNat, none⟩) hb, cell_of_row _ w.heap.size x.toNat _ T (0, 0) (heap_alloc_new w _)]
  have hx : x.toNat = 0 ∨ x.toNat = 1 ∨ x.toNat = 2 ∨ x.toNat = 3 := by omega
  rcases hx with e | e | e | e <;> rw [e] <;> exact ⟨_, rfl⟩
set_option maxHeartbeats 1000000 in
theorem d_word (G : Nat) (a : Option Addr) (n cap : Nat) (zs : List Int) (w : World) (h : RdAt w G a n cap zs) :
    Calls Tryz.prog 85 #[.pointer (some ⟨G, 0, none⟩)] w fun e w' => ∃ x : Int, e = .returned (.int .u64 x) ∧ Drew G a n cap zs w w' := by
  have HH := hide h
  clear h
  go_enter Tryz.func85, Tryz.ntmps85
  go_wp2
  go_loopw [3, 4] (fun vx vi wr => ∃ (x : Int) (k : Nat), vx = .int .u64 x ∧ vi = .int .i64 k ∧ k ≤ 8 ∧ Hid (Drew G a n cap zs w wr)) (fun _ vi _ => 8 - (intOf vi).toNat)
  case atStart => exact ⟨0, 0, rfl, rfl, by omega, hide (drew_refl HH.out)⟩
  case round =>
    obtain ⟨x, k, rfl, rfl, hk, HD⟩ := hrel
    by_cases hlt : k < 8
    · go_wp2_with fail
      refine (d_next G a n cap zs _ HD.out.1).mono ?_
      rintro e w2 ⟨y, hy0, hy1, rfl, hd⟩
      have HD2 := hide (drew_trans HD.out hd)
      clear hd
      go_wp2
      go_roundw
      case rel => exact ⟨_, k + 1, rfl, by go_num, by omega, HD2⟩
      case measure => simp [intOf]; omega
    · go_wp2
      go_ret
      exact ⟨x, rfl, HD.out⟩
set_option maxHeartbeats 1000000 in
theorem d_nearG (G : Nat) (a : Option Addr) (n cap : Nat) (zs : List Int) (lo hi : Int) (w : World) (h0 : -2 ≤ lo) (h1 : lo ≤ hi) (h2 : hi ≤ 1048576) (h : RdAt w G a n cap zs) :
    Calls Tryz.prog 62 #[.pointer (some ⟨G, 0, none⟩), .int .i64 lo, .int .i64 hi] w fun e w' => ∃ x : Int, e = .returned (.int .i64 x) ∧ Drew G a n cap zs w w' := by
  have HH := hide h
  have hlt : ¬ hi < lo := by omega
  have k1 : IntKind.i64.wrap (hi - lo) = hi - lo := by rw [IntKind.wrap_i64]; omega
  have k2 : IntKind.i64.wrap (hi - lo + 1) = hi - lo + 1 := by rw [IntKind.wrap_i64]; omega
  have k3 : IntKind.u64.wrap (hi - lo + 1) = hi - lo + 1 := by unfold IntKind.wrap; simp [IntKind.signed, IntKind.bits]; omega
  have k4 : ¬ (hi - lo + 1 = 0) := by omega
  have k5 : (hi - lo + 1 == 0) = false := by simp; omega
  clear h
  go_enter Tryz.func62, Tryz.ntmps62
  go_wp2_with fail
  refine (d_below G a n cap zs 8 _ (by omega) (by omega) HH.out).mono ?_
  rintro e w1 ⟨x, hx0, hx1, rfl, hd⟩
  have HD := hide hd
  clear hd
  rcases (show x = 0 ∨ x = 1 ∨ 2 ≤ x by omega) with hx | hx | hx
  · subst hx
    go_wp2
    go_ret
    exact ⟨_, rfl, HD.out⟩
  · subst hx
    go_wp2
    go_ret
    exact ⟨_, rfl, HD.out⟩
  · go_wp2_with fail
    refine (d_word G a n cap zs _ HD.out.1).mono ?_
    rintro e w2 ⟨y, rfl, hd⟩
    have HD2 := hide (drew_trans HD.out hd)
    clear hd
    go_wp2
    go_ret
    exact ⟨_, rfl, HD2.out⟩
set_option maxHeartbeats 1000000 in
theorem d_offG (G : Nat) (a : Option Addr) (n cap : Nat) (zs : List Int) (lo hi : Int) (w : World) (h0 : -2 ≤ lo) (h1 : lo ≤ hi) (h2 : hi ≤ 1048576) (h : RdAt w G a n cap zs) :
    Calls Tryz.prog 38 #[.pointer (some ⟨G, 0, none⟩), .int .i64 lo, .int .i64 hi] w fun e w' => ∃ x : Int, e = .returned (.int .i64 x) ∧ Drew G a n cap zs w w' := by
  have HH := hide h
  clear h
  go_enter Tryz.func38, Tryz.ntmps38
  go_wp2_with fail
  refine (d_once G a n cap zs 24 _ (by omega) (by omega) HH.out).mono ?_
  rintro e w1 ⟨b, rfl, hd⟩
  have HD := hide hd
  have hG := rd_lt hd.1
  clear hd
  cases b
  · go_wp2_with fail
    refine (d_nearG G a n cap zs lo hi _ h0 h1 h2 HD.out.1).mono ?_
    rintro e w2 ⟨y, rfl, hd⟩
    have HD2 := hide (drew_trans HD.out hd)
    clear hd
    go_wp2
    go_ret
    exact ⟨_, rfl, HD2.out⟩
  · go_wp2_with fail
    refine (d_below G a n cap zs 4 _ (by omega) (by omega) (rd_alloc HD.out.1 _)).mono ?_
    rintro e w2 ⟨x, hx0, hx1, rfl, hd⟩
    obtain ⟨y, hy⟩ := off_cell w1 w2 G x hx0 hx1 hG hd.2
    have HD2 := hide (drew_trans HD.out (drew_alloc _ hd))
    clear hd
    go_wp2
    go_ret
    exact ⟨y, rfl, HD2.out⟩
theorem str_cell {w w1 : World} {G : Nat} (K : Nat) {cs : Array Value} {T : TypeId} {x : Int} {N : Nat} (hg : (w.alloc (.cells cs T)).grownBy w1 (some G)) (h0 : 0 ≤ x) (hx : x < N) (hN : cs.size = N) (hG : G < w.heap.size) (hK : ∀ k, k < N → ∃ s : ByteArray, cs[k]? = some (.string s) ∧ s.size ≤ K) : ∃ s : ByteArray, w1.cell? ⟨w.heap.size, x.toNat, none⟩ = some (.string s) ∧ s.size ≤ K := by
  have hb := hg.block w.heap.size (by simp) (fun e => by cases e; omega)
  rw [World.cell?_of_block (a := ⟨w.heap.size, x.toNat, none⟩) hb, cell_of_row _ w.heap.size x.toNat _ T (0, 0) (heap_alloc_new w _)]
  exact hK x.toNat (by omega)
end Go.Proofs.YtepommmmmfaihaaGreatDoor

/-
  Contract of the draw of an expression: whatever the code is, some row of nodes of the call's own, at most 120 long. What the reading of a text leaves is given (RgS).
-/
namespace Go.Proofs.YtepommmmmfaihaaGreatDoor
open Go.RowKit Go.Joins
set_option linter.unusedVariables false
set_option linter.unusedSimpArgs false
def RgS : Prop := ∀ (s : ByteArray) (w : World), s.size ≤ 200 → Calls Tryz.prog 29 #[.string s] w fun e w' => ∃ (V : List Nd) (ok : Bool) (ad : Option Addr) (c : Nat), V.length ≤ 120 ∧ e = .returned (.tuple #[.slice ad V.length c, .bool ok]) ∧ XO w.heap.size (fun j => w.heap.size ≤ j) w' ad c V ∧ Below w.heap.size w w'
section
variable {G n cap : Nat} {a : Option Addr} {zs : List Int} {w w' : World}
theorem rd_belowY (h : RdAt w G a n cap zs) (hb : Below w.heap.size w w') : Drew G a n cap zs w w' :=
  ⟨rd_grown (row := none) h ⟨hb.os, hb.tape, hb.output, hb.size, fun k hk _ => hb.block k hk⟩ (fun k hk => by cases hk), ⟨hb.os, hb.tape, hb.output, hb.size, fun k hk _ => hb.block k hk⟩⟩
theorem xo_drew {Z B : Nat} {S : Nat → Prop} {ad : Option Addr} {c : Nat} {X : List Nd} (h : XOZ Z B S w ad c X) (hd : Drew G a n cap zs w w') (hB : G < B) (hS : ∀ j, S j → G < j) : XOZ Z B S w' ad c X := by
  refine xo_kp (T := fun j => j = G) h (kp_grown (S := fun j => j = G) hd.2 (fun k hk => by cases hk; rfl)) (fun j hj e => ?_) (fun B' z n' v ys j hv hj hs e => by have := hS j hs; omega)
  obtain ⟨xs, h1, -⟩ := h
  have := (h1.lt j hj).1
  omega
theorem grown_setY (w : World) (g o : Nat) (v : Value) : w.grownBy (w.setCell ⟨g, o, none⟩ v) (some g) :=
  ⟨rfl, rfl, rfl, by simp, fun k hk hne => Below.heap_setCell w ⟨g, o, none⟩ v k (fun e => hne (by rw [e]))⟩
theorem drew_setY {w9 : World} (h : Drew G a n cap zs w w9) (hG : G < w.heap.size) {g : Nat} (hg : w.heap.size ≤ g) (o : Nat) (v : Value) : Drew G a n cap zs w (w9.setCell ⟨g, o, none⟩ v) := by
  have hs := grown_setY w9 g o v
  refine ⟨rd_grown h.1 hs (fun k hk => by cases hk; omega), hs.os.trans h.2.os, hs.tape.trans h.2.tape, hs.output.trans h.2.output, Nat.le_trans h.2.size hs.size, fun k hk hne => ?_⟩
  exact (hs.block k (Nat.lt_of_lt_of_le hk h.2.size) (fun e => by cases e; omega)).trans (h.2.block k hk hne)
end
set_option maxHeartbeats 1000000 in
theorem d_belowY (G : Nat) (a : Option Addr) (n cap : Nat) (zs : List Int) (m : Int) (w : World) (hm : 1 ≤ m) (hm' : m ≤ 256) (h : RdAt w G a n cap zs) :
    Calls Tryz.prog 21 #[.pointer (some ⟨G, 0, none⟩), .int .i64 m] w fun e w' => ∃ x : Int, 0 ≤ x ∧ x < m ∧ e = .returned (.int .i64 x) ∧ Drew G a n cap zs w w' := by
  by_cases h2 : 2 ≤ m
  · exact d_below G a n cap zs m w h2 hm' h
  · have h1 : m ≤ 1 := by omega
    have HH := hide h
    clear h
    go_enter Tryz.func21, Tryz.ntmps21
    go_wp2
    go_ret
    exact ⟨0, by omega, by omega, rfl, drew_refl HH.out⟩
set_option maxRecDepth 100000 in
set_option maxHeartbeats 8000000 in
theorem d_regex (G : Nat) (a : Option Addr) (n cap : Nat) (zs : List Int) (w : World) (HS : RgS) (h : RdAt w G a n cap zs) :
    Calls Tryz.prog 19 #[.pointer (some ⟨G, 0, none⟩)] w fun e w' => ∃ (V : List Nd) (B : Nat) (ad : Option Addr) (c : Nat), V.length ≤ 120 ∧ G < B ∧ e = .returned (.slice ad V.length c) ∧ XO B (fun j => B ≤ j) w' ad c V ∧ Drew G a n cap zs w w' := by
  have HH := hide h
  have HSS := hide HS
  have hG := rd_lt h
  clear h HS
  go_enter Tryz.func19, Tryz.ntmps19
  go_wp2_with fail
  refine (d_rx G a n cap zs 3 (by omega) _ HH.out).mono ?_
  rintro e w1 ⟨s, hs, rfl, hd⟩
  have R1 := hide hd.1
  have D1 := hide hd
  have hs3 := bsR_3 3 (by omega)
  have hsz := hd.2.size
  clear hd
  go_wp2_with fail
  refine (HSS.out s _ (by omega)).mono ?_
  rintro e w2 ⟨V, ok, ad, c, hv, rfl, hx, hb⟩
  obtain ⟨B, hB⟩ : ∃ B, w1.heap.size = B := ⟨_, rfl⟩
  have hGB : G < B := by rw [← hB]; exact rd_lt R1.out
  have hdb := rd_belowY R1.out hb
  rw [hB] at hx hsz
  have X2 := hide hx
  have D2 := hide (drew_trans D1.out hdb)
  have R2 := hide hdb.1
  have HWB := hide hsz
  obtain ⟨m, hm⟩ : ∃ m, V.length = m := ⟨_, rfl⟩
  rw [hm] at hv ⊢
  have HM := hide hm
  clear hx hdb hb hB hsz R1 D1 hm HSS HH
  go_wp2_with fail
  refine (d_once G a n cap zs 24 _ (by omega) (by omega) R2.out).mono ?_
  rintro e w3 ⟨b, rfl, hd⟩
  have X3 := hide (xo_drew X2.out hd hGB (fun j hj => Nat.lt_of_lt_of_le hGB hj))
  have D3 := hide (drew_trans D2.out hd)
  have R3 := hide hd.1
  clear hd X2 D2 R2
  cases b
  · go_wp2
    go_ret
    exact ⟨V, B, ad, c, by rw [HM.out]; exact hv, hGB, by rw [HM.out] <;> rfl, X3.out, D3.out⟩
  · by_cases h0 : 0 < m
    · have h0' : (0 : Int) < (m : Int) := by omega
      go_wp2_with fail
      refine (d_belowY G a n cap zs m _ (by omega) (by omega) R3.out).mono ?_
      rintro e w4 ⟨x, hx0, hx1, rfl, hd⟩
      obtain ⟨i, rfl⟩ : ∃ i : Nat, x = (i : Int) := ⟨x.toNat, by omega⟩
      have X4 := hide (xo_drew X3.out hd hGB (fun j hj => Nat.lt_of_lt_of_le hGB hj))
      have D4 := hide (drew_trans D3.out hd)
      have R4 := hide hd.1
      clear hd X3 D3 R3
      have him : i < m := by omega
      go_wp2_with fail
      refine (d_below G a n cap zs 3 _ (by omega) (by omega) R4.out).mono ?_
      rintro e w5 ⟨y, hy0, hy1, rfl, hd⟩
      have X5 := hide (xo_drew X4.out hd hGB (fun j hj => Nat.lt_of_lt_of_le hGB hj))
      have D5 := hide (drew_trans D4.out hd)
      have R5 := hide hd.1
      clear hd X4 D4 R4
      obtain ⟨g, rfl, hBg, hgl⟩ := xo_form X5.out (by rw [HM.out]; exact h0)
      obtain ⟨nd, hnd⟩ : ∃ nd, V[i]? = some nd := ⟨_, List.getElem?_eq_getElem (by rw [HM.out]; exact him)⟩
      have HND := hide hnd
      have hwg : Hid (w.heap.size ≤ g) := hide (Nat.le_trans HWB.out hBg)
      clear hnd
      rcases (show y = 0 ∨ y = 1 ∨ y = 2 by omega) with rfl | rfl | rfl
      · go_wp2_with fail
        refine (d_offG G a n cap zs 0 20 _ (by omega) (by omega) (by omega) R5.out).mono ?_
        rintro e w6 ⟨z, rfl, hd⟩
        have X6 := hide (xo_drew X5.out hd hGB (fun j hj => Nat.lt_of_lt_of_le hGB hj))
        have D6 := hide (drew_trans D5.out hd)
        clear hd X5 D5 R5
        obtain ⟨kad, kc, b1, -⟩ := xo_at7 X6.out HND.out
        have c5 : w6.cell? ⟨g, i * 7 + 5, none⟩ = some (.int .i64 nd.mn) := b1 5 (by omega)
        have f5 := (xo_cell X6.out (i * 7 + 5) (by rw [HM.out]; omega)).2
        have O := hide (xo_set (nd' := { nd with mn := z }) (o := 5) (v := .int .i64 z) X6.out HND.out (by omega) (by omega) rfl (fun _ _ => rfl))
        have DS := hide (drew_setY D6.out hG hwg.out (i * 7 + 5) (.int .i64 z))
        clear b1 X6 D6
        go_wp2
        go_ret
        exact ⟨V.set i { nd with mn := z }, B, _, c, by rw [List.length_set, HM.out]; exact hv, hGB, by rw [List.length_set, HM.out] <;> rfl, O.out, DS.out⟩
      · go_wp2_with fail
        refine (d_offG G a n cap zs 0 i _ (by omega) (by omega) (by omega) R5.out).mono ?_
        rintro e w6 ⟨z, rfl, hd⟩
        have X6 := hide (xo_drew X5.out hd hGB (fun j hj => Nat.lt_of_lt_of_le hGB hj))
        have D6 := hide (drew_trans D5.out hd)
        clear hd X5 D5 R5
        obtain ⟨kad, kc, b1, -⟩ := xo_at7 X6.out HND.out
        have c3 : w6.cell? ⟨g, i * 7 + 3, none⟩ = some (.int .i64 nd.a) := b1 3 (by omega)
        have f3 := (xo_cell X6.out (i * 7 + 3) (by rw [HM.out]; omega)).2
        have O := hide (xo_set (nd' := { nd with a := z }) (o := 3) (v := .int .i64 z) X6.out HND.out (by omega) (by omega) rfl (fun _ _ => rfl))
        have DS := hide (drew_setY D6.out hG hwg.out (i * 7 + 3) (.int .i64 z))
        clear b1 X6 D6
        go_wp2
        go_ret
        exact ⟨V.set i { nd with a := z }, B, _, c, by rw [List.length_set, HM.out]; exact hv, hGB, by rw [List.length_set, HM.out] <;> rfl, O.out, DS.out⟩
      · obtain ⟨kad, kc, b1, -⟩ := xo_at7 X5.out HND.out
        have c1 : w5.cell? ⟨g, i * 7 + 1, none⟩ = some (.bool nd.nt) := b1 1 (by omega)
        have f1 := (xo_cell X5.out (i * 7 + 1) (by rw [HM.out]; omega)).2
        have O := hide (xo_set (nd' := { nd with nt := !nd.nt }) (o := 1) (v := .bool (!nd.nt)) X5.out HND.out (by omega) (by omega) rfl (fun _ _ => rfl))
        have DS := hide (drew_setY D5.out hG hwg.out (i * 7 + 1) (.bool (!nd.nt)))
        clear b1 X5 D5 R5
        go_wp2
        go_ret
        exact ⟨V.set i { nd with nt := !nd.nt }, B, _, c, by rw [List.length_set, HM.out]; exact hv, hGB, by rw [List.length_set, HM.out] <;> rfl, O.out, DS.out⟩
    · have h0' : ¬ (0 : Int) < (m : Int) := by omega
      go_wp2
      go_ret
      exact ⟨V, B, ad, c, by rw [HM.out]; exact hv, hGB, by rw [HM.out] <;> rfl, X3.out, D3.out⟩
end Go.Proofs.YtepommmmmfaihaaGreatDoor
