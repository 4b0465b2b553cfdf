/-
  Texts put together: Draw, RgX.
-/
import Derived.Test.YtepommmmmfaihaaDoorC1
import Derived.Test.YtepommmmmfaihaaDoorChecked
import Derived.WalkKit
import Derived.WalkLawsBesides
import Derived.Below
import Derived.OwnWalk
import Derived.Laws.OwnMore
import Derived.RegionTactic
import Derived.Deep.QuietTactic
import Derived.BigQuiet
import Derived.Deep.Draws
import Derived.KernelRfl
/-
  Contracts of the drawing reader: whatever the code is, each draw answers a number in its range and writes the reader's own place alone.
-/
namespace Go.Proofs.YtepommmmmfaihaaDoor
open Go.RowKit
set_option linter.unusedVariables false
set_option linter.unusedSimpArgs false

/-- A row's first cells hold 'zs', in a block below 'B'. -/
def SrcAt (w : World) (a : Option Addr) (zs : List Int) (B : Nat) : Prop :=
  zs ≠ [] → ∃ b off, a = some ⟨b, off, none⟩ ∧ b < B ∧ ∀ j, j < zs.length → w.cell? ⟨b, off + j, none⟩ = some (.int .u8 (zs[j]?.getD 0))
/-- The reader lies in block 'G', over the code 'zs', somewhere in it. -/
def RdAt (w : World) (G : Nat) (a : Option Addr) (n cap : Nat) (zs : List Int) : Prop :=
  (∃ p : Nat, p ≤ n ∧ w.heap[G]? = some (.cells #[.slice a n cap, .int .i64 p] 65 (0, 0))) ∧ SrcAt w a zs G ∧ zs.length = n ∧ (∀ x ∈ zs, 0 ≤ x ∧ x ≤ 255) ∧ n ≤ 1048576
theorem grown_trans {w w1 w2 : World} {row : Option Nat} (h1 : w.grownBy w1 row) (h2 : w1.grownBy w2 row) : w.grownBy w2 row :=
  ⟨h2.os.trans h1.os, h2.tape.trans h1.tape, h2.output.trans h1.output, Nat.le_trans h1.size h2.size, fun k hk hne => (h2.block k (Nat.lt_of_lt_of_le hk h1.size) hne).trans (h1.block k hk hne)⟩
theorem grown_refl (w : World) (row : Option Nat) : w.grownBy w row := ⟨rfl, rfl, rfl, Nat.le_refl _, fun _ _ _ => rfl⟩
theorem src_grown {w w' : World} {a : Option Addr} {zs : List Int} {B : Nat} {row : Option Nat} (h : SrcAt w a zs B) (hB : B ≤ w.heap.size) (hg : w.grownBy w' row) (hr : ∀ k, row = some k → B ≤ k) : SrcAt w' a zs B := by
  intro hne
  obtain ⟨b, off, rfl, hb, hc⟩ := h hne
  refine ⟨b, off, rfl, hb, fun j hj => ?_⟩
  exact (World.cell?_of_block (hg.block b (by omega) (fun e => by have := hr b e.symm; omega))).trans (hc j hj)
theorem rd_lt {w : World} {G : Nat} {a : Option Addr} {n cap : Nat} {zs : List Int} (h : RdAt w G a n cap zs) : G < w.heap.size := by
  obtain ⟨⟨p, _, hg⟩, _⟩ := h
  exact (Array.getElem?_eq_some_iff.1 hg).1
/-- What is written behind the reader leaves it as it was. -/
theorem rd_grown {w w' : World} {G : Nat} {a : Option Addr} {n cap : Nat} {zs : List Int} {row : Option Nat} (h : RdAt w G a n cap zs) (hg : w.grownBy w' row) (hr : ∀ k, row = some k → G < k) : RdAt w' G a n cap zs := by
  have hlt := rd_lt h
  obtain ⟨⟨p, hp, hG⟩, hs, hl, hz, hn⟩ := h
  refine ⟨⟨p, hp, ?_⟩, src_grown hs (by omega) hg (fun k hk => by have := hr k hk; omega), hl, hz, hn⟩
  rw [hg.block G hlt (fun e => by have := hr G e.symm; omega)]; exact hG
theorem rd_alloc {w : World} {G : Nat} {a : Option Addr} {n cap : Nat} {zs : List Int} (h : RdAt w G a n cap zs) (o : Obj) : RdAt (w.alloc o) G a n cap zs :=
  rd_grown h (World.grownBy_alloc w o none) (fun k hk => by cases hk)
theorem rd_drewN {w : World} {G : Nat} {a : Option Addr} {n cap : Nat} {zs : List Int} (h : RdAt w G a n cap zs) (q : Nat) : RdAt (w.drewN q) G a n cap zs := h
/-- What one draw leaves. -/
def Drew (G : Nat) (a : Option Addr) (n cap : Nat) (zs : List Int) (w w' : World) : Prop := RdAt w' G a n cap zs ∧ w.grownBy w' (some G)
theorem drew_trans {G : Nat} {a : Option Addr} {n cap : Nat} {zs : List Int} {w w1 w2 : World} (h1 : Drew G a n cap zs w w1) (h2 : Drew G a n cap zs w1 w2) : Drew G a n cap zs w w2 := ⟨h2.1, grown_trans h1.2 h2.2⟩

theorem drew_step {w : World} {G : Nat} {a : Option Addr} {n cap : Nat} {zs : List Int} (h : RdAt w G a n cap zs) {p : Nat} (hp : p < n) (hG : w.heap[G]? = some (.cells #[.slice a n cap, .int .i64 p] 65 (0, 0))) (q1 q2 : Nat) :
    Drew G a n cap zs w (((w.drewN q1).setCell ⟨G, 1, none⟩ (.int .i64 ((p : Int) + 1))).drewN q2) := by
  have hlt := rd_lt h
  have hset := heap_setCell_same (w.drewN q1) G 1 _ 65 (.int .i64 ((p : Int) + 1)) hG
  have hgr : w.grownBy (((w.drewN q1).setCell ⟨G, 1, none⟩ (.int .i64 ((p : Int) + 1))).drewN q2) (some G) := by
    refine ⟨rfl, rfl, rfl, ?_, fun k hk hne => ?_⟩
    · simp
    · exact Below.heap_setCell (w.drewN q1) ⟨G, 1, none⟩ _ k (fun e => hne (by rw [e]))
  obtain ⟨_, hs, hl, hz, hn⟩ := h
  refine ⟨⟨⟨p + 1, by omega, ?_⟩, src_grown hs (by omega) hgr (fun k hk => by cases hk; exact Nat.le_refl _), hl, hz, hn⟩, hgr⟩
  exact hset

set_option maxHeartbeats 1000000 in
theorem d_next (G : Nat) (a : Option Addr) (n cap : Nat) (zs : List Int) (w : World) (h : RdAt w G a n cap zs) :
    Calls Tryd.prog 25 #[.pointer (some ⟨G, 0, none⟩)] w fun e w' => ∃ x : Int, 0 ≤ x ∧ x ≤ 255 ∧ e = .returned (.int .i64 x) ∧ Drew G a n cap zs w w' := by
  have HH := hide h
  obtain ⟨⟨p, hp, hG⟩, hs, hl, hz, hn⟩ := h
  have c0 : w.cell? ⟨G, 0, none⟩ = some (.slice a n cap) := by rw [cell_of_row w G 0 _ 65 (0, 0) hG]; rfl
  have c1 : w.cell? ⟨G, 1, none⟩ = some (.int .i64 p) := by rw [cell_of_row w G 1 _ 65 (0, 0) hG]; rfl
  have hf : w.frozen? ⟨G, 1, none⟩ = false := frozen_of_row w G 1 _ 65 hG
  have HG := hide hG
  have HS := hide hs
  have HL := hide hl
  have HZ := hide hz
  clear hG hs hl hz
  by_cases hlt : p < n
  · have hlt' : ¬ (n : Int) ≤ (p : Int) := by omega
    obtain ⟨b, off, rfl, hbG, hc⟩ := HS.out (fun e => by have := HL.out; rw [e] at this; simp at this; omega)
    have hcb := hc p (by rw [HL.out]; exact hlt)
    have hmem : 0 ≤ zs[p]?.getD 0 ∧ zs[p]?.getD 0 ≤ 255 := by
      have hpl : p < zs.length := by rw [HL.out]; exact hlt
      rw [List.getElem?_eq_getElem hpl]
      exact HZ.out _ (List.getElem_mem hpl)
    obtain ⟨x, hx⟩ : ∃ x, zs[p]?.getD 0 = x := ⟨_, rfl⟩
    rw [hx] at hcb hmem
    obtain ⟨hx0, hx1⟩ := hmem
    have hset := heap_setCell_same w G 1 _ 65 (.int .i64 ((p : Int) + 1)) HG.out
    have s2 : ∀ q, ((w.drewN q).setCell ⟨G, 1, none⟩ (.int .i64 ((p : Int) + 1))).cell? ⟨b, off + p, none⟩ = some (.int .u8 x) := fun q =>
      (World.cell?_of_block (Below.heap_setCell w ⟨G, 1, none⟩ _ b (by show b ≠ G; omega))).trans hcb
    have hwr : IntKind.i64.wrap (p : Int) = (p : Int) := by rw [IntKind.wrap_i64]; omega
    have hi0 : (0 : Int) ≤ (p : Int) := by omega
    have hi1 : (p : Int) < (n : Int) := by omega
    have HSET := hide hset
    clear hset hx hc
    go_enter Tryd.func25, Tryd.ntmps25
    go_wp2
    go_quiet (fail)
    go_wp2
    go_quiet (fail)
    go_wp2
    go_ret
    exact ⟨x, hx0, hx1, rfl, drew_step HH.out hlt HG.out _ _⟩
  · have hlt' : (n : Int) ≤ (p : Int) := by omega
    go_enter Tryd.func25, Tryd.ntmps25
    go_wp2
    go_quiet (fail)
    go_wp2
    go_ret
    exact ⟨0, by omega, by omega, rfl, HH.out, ⟨rfl, rfl, rfl, Nat.le_refl _, fun _ _ _ => rfl⟩⟩

set_option maxHeartbeats 1000000 in
theorem d_below (G : Nat) (a : Option Addr) (n cap : Nat) (zs : List Int) (m : Int) (w : World) (hm : 2 ≤ m) (hm' : m ≤ 256) (h : RdAt w G a n cap zs) :
    Calls Tryd.prog 14 #[.pointer (some ⟨G, 0, none⟩), .int .i64 m] w fun e w' => ∃ x : Int, 0 ≤ x ∧ x < m ∧ e = .returned (.int .i64 x) ∧ Drew G a n cap zs w w' := by
  have HH := hide h
  clear h
  have hm1 : ¬ m ≤ 1 := by omega
  go_enter Tryd.func14, Tryd.ntmps14
  go_wp2_with fail
  refine (d_next G a n cap zs _ HH.out).mono ?_
  rintro e w1 ⟨x, hx0, hx1, rfl, hd⟩
  have HD := hide hd
  clear hd
  go_wp2
  go_ret
  exact ⟨x % m, Int.emod_nonneg _ (by omega), Int.emod_lt_of_pos _ (by omega), rfl, HD.out⟩

set_option maxHeartbeats 1000000 in
theorem d_once (G : Nat) (a : Option Addr) (n cap : Nat) (zs : List Int) (m : Int) (w : World) (hm : 2 ≤ m) (hm' : m ≤ 256) (h : RdAt w G a n cap zs) :
    Calls Tryd.prog 19 #[.pointer (some ⟨G, 0, none⟩), .int .i64 m] w fun e w' => ∃ x : Bool, e = .returned (.bool x) ∧ Drew G a n cap zs w w' := by
  have HH := hide h
  clear h
  go_enter Tryd.func19, Tryd.ntmps19
  go_wp2_with fail
  refine (d_below G a n cap zs m _ hm hm' HH.out).mono ?_
  rintro e w1 ⟨x, hx0, hx1, rfl, hd⟩
  have HD := hide hd
  clear hd
  go_wp2
  go_ret
  exact ⟨_, rfl, HD.out⟩

set_option maxHeartbeats 1000000 in
theorem d_open (a : Option Addr) (n cap : Nat) (zs : List Int) (w : World) (hl : zs.length = n) (hz : ∀ x ∈ zs, 0 ≤ x ∧ x ≤ 255) (hn : n ≤ 1048576) (hs : SrcAt w a zs w.heap.size) :
    Calls Tryd.prog 12 #[.slice a n cap] w fun e w' => e = .returned (.pointer (some ⟨w.heap.size, 0, none⟩)) ∧ RdAt w' w.heap.size a n cap zs ∧ Below w.heap.size w w' := by
  have HS := hide hs
  have HL := hide hl
  have HZ := hide hz
  clear hs hl hz
  go_enter Tryd.func12, Tryd.ntmps12
  go_wp2
  go_ret
  exact ⟨rfl, ⟨⟨0, Nat.zero_le _, heap_alloc_new w _⟩, src_grown HS.out (Nat.le_refl _) (World.grownBy_alloc w _ none) (fun k hk => by cases hk), HL.out, HZ.out, hn⟩, (Below.refl _ _).alloc (Nat.le_refl _) _⟩

/-- What a draw leaves that also laid new blocks. -/
def Drawn (G : Nat) (a : Option Addr) (n cap : Nat) (zs : List Int) (w w' : World) : Prop := Drew G a n cap zs w w'
theorem drew_alloc {G : Nat} {a : Option Addr} {n cap : Nat} {zs : List Int} {w w1 : World} (o : Obj) (h : Drew G a n cap zs (w.alloc o) w1) : Drew G a n cap zs w w1 :=
  ⟨h.1, grown_trans (World.grownBy_alloc w o (some G)) h.2⟩
end Go.Proofs.YtepommmmmfaihaaDoor

/-
  Contracts of the draw of an expression's text: whatever the code is, some text of at most 200 bytes.
-/
namespace Go.Proofs.YtepommmmmfaihaaDoor
open Go.RowKit
set_option linter.unusedVariables false
set_option linter.unusedSimpArgs false
theorem below_drewG {G : Nat} {a : Option Addr} {n cap : Nat} {zs : List Int} {w w1 w2 : World} (h : Below G w w1) (hd : Drew G a n cap zs w1 w2) (hG : G ≤ w1.heap.size) : Below G w w2 :=
  h.grown hd.2 hG (fun k hk => by cases hk; exact Nat.le_refl _)
theorem str_cellG {w w1 : World} {G : Nat} (K : Nat) {cs : Array Value} {T : TypeId} {x : Int} {N : Nat} (hg : (w.alloc (.cells cs T)).grownBy w1 (some G)) (h0 : 0 ≤ x) (hx : x < N) (hN : cs.size = N) (hG : G < w.heap.size) (hK : ∀ k, k < N → ∃ s : ByteArray, cs[k]? = some (.string s) ∧ s.size ≤ K) : ∃ s : ByteArray, w1.cell? ⟨w.heap.size, x.toNat, none⟩ = some (.string s) ∧ s.size ≤ K := by
  have hb := hg.block w.heap.size (by simp) (fun e => by cases e; omega)
  rw [World.cell?_of_block (a := ⟨w.heap.size, x.toNat, none⟩) hb, cell_of_row _ w.heap.size x.toNat _ T (0, 0) (heap_alloc_new w _)]
  exact hK x.toNat (by omega)
/-- How long such a text is at most. -/
def bsR : Nat → Nat
  | 0 => 10
  | d + 1 => 2 * bsR d + 10
theorem bsR_le : ∀ d, 10 ≤ bsR d
  | 0 => Nat.le_refl _
  | d + 1 => by have := bsR_le d; rw [bsR]; omega
theorem bsR_3 : ∀ d, d ≤ 3 → bsR d ≤ 150
  | 0, _ => by decide
  | 1, _ => by decide
  | 2, _ => by decide
  | 3, _ => by decide
def RxD (G : Nat) (a : Option Addr) (n cap : Nat) (zs : List Int) (d : Nat) : Prop := ∀ w, RdAt w G a n cap zs → Calls Tryd.prog 29 #[.pointer (some ⟨G, 0, none⟩), .int .i64 (d : Int)] w fun e w' => ∃ s : ByteArray, s.size ≤ bsR d ∧ e = .returned (.string s) ∧ Drew G a n cap zs w w'
set_option maxRecDepth 100000 in
set_option maxHeartbeats 8000000 in
theorem d_rxS (G : Nat) (a : Option Addr) (n cap : Nat) (zs : List Int) (d : Nat) (hd3 : d ≤ 3) (ih : ∀ q, d = q + 1 → RxD G a n cap zs q) : RxD G a n cap zs d := by
  intro w h
  have HH := hide h
  have hG := rd_lt h
  have hb10 := bsR_le d
  clear h
  go_enter Tryd.func29, Tryd.ntmps29
  go_wp2_with fail
  refine (d_below G a n cap zs 9 _ (by omega) (by omega) HH.out).mono ?_
  rintro e w1 ⟨x, hx0, hx1, rfl, hd⟩
  have R1 := hide hd.1
  have D1 := hide hd
  have hG1 := rd_lt hd.1
  clear hd
  by_cases e0 : x = 0 ∨ x = 1
  · rcases e0 with rfl | rfl
    all_goals
      go_wp2_with fail
      refine (d_below G a n cap zs 6 _ (by omega) (by omega) (rd_alloc R1.out _)).mono ?_
      rintro e w2 ⟨y, hy0, hy1, rfl, hd2⟩
      obtain ⟨s, hs, hs1⟩ := str_cellG 10 hd2.2 hy0 hy1 rfl hG1 (fun k hk => by
        have hk' : k < 6 := hk
        rcases (show k = 0 ∨ k = 1 ∨ k = 2 ∨ k = 3 ∨ k = 4 ∨ k = 5 by omega) with e | e | e | e | e | e <;> subst e <;> exact ⟨_, rfl, by decide⟩)
      have D2 := hide (drew_trans D1.out (drew_alloc _ hd2))
      clear hd2
      go_wp2
      go_ret
      exact ⟨s, by omega, rfl, D2.out⟩
  · have b0 : (x == 0) = false := by simp; omega
    have b1 : (x == 1) = false := by simp; omega
    by_cases e2 : x = 2
    · subst e2
      go_wp2_with fail
      refine (d_below G a n cap zs 9 _ (by omega) (by omega) (rd_alloc R1.out _)).mono ?_
      rintro e w2 ⟨y, hy0, hy1, rfl, hd2⟩
      obtain ⟨s, hs, hs1⟩ := str_cellG 10 hd2.2 hy0 hy1 rfl hG1 (fun k hk => by
        have hk' : k < 9 := hk
        rcases (show k = 0 ∨ k = 1 ∨ k = 2 ∨ k = 3 ∨ k = 4 ∨ k = 5 ∨ k = 6 ∨ k = 7 ∨ k = 8 by omega) with e | e | e | e | e | e | e | e | e <;> subst e <;> exact ⟨_, rfl, by decide⟩)
      have D2 := hide (drew_trans D1.out (drew_alloc _ hd2))
      clear hd2
      go_wp2
      go_ret
      exact ⟨s, by omega, rfl, D2.out⟩
    · have b2 : (x == 2) = false := by simp; omega
      clear e0 e2
      cases d with
      | zero =>
        go_wp2
        go_ret
        exact ⟨⟨#[97]⟩, by decide, rfl, D1.out⟩
      | succ q =>
        have IH := hide (ih q rfl)
        have hq3 := bsR_3 q (by omega)
        have bd : (((q + 1 : Nat) : Int) == 0) = false := by simp; omega
        have bd2 : ((q : Int) + 1 == 0) = false := by simp; omega
        have hw : IntKind.i64.wrap (((q + 1 : Nat) : Int) - 1) = (q : Int) := by rw [IntKind.wrap_i64]; omega
        have hw2 : IntKind.i64.wrap ((q : Int) + 1 - 1) = (q : Int) := by rw [IntKind.wrap_i64]; omega
        have hw3 : IntKind.i64.wrap (q : Int) = (q : Int) := by rw [IntKind.wrap_i64]; omega
        have z40 : (⟨#[40]⟩ : ByteArray).size = 1 := rfl
        have z41 : (⟨#[41]⟩ : ByteArray).size = 1 := rfl
        have z124 : (⟨#[124]⟩ : ByteArray).size = 1 := rfl
        have z12 : (⟨#[124, 41]⟩ : ByteArray).size = 2 := rfl
        have EB : Hid (bsR (q + 1) = 2 * bsR q + 10) := hide rfl
        clear ih hb10
        go_wp2_with fail
        refine (d_below G a n cap zs 5 _ (by omega) (by omega) R1.out).mono ?_
        rintro e w2 ⟨y, hy0, hy1, rfl, hd2⟩
        have R2 := hide hd2.1
        have D2 := hide (drew_trans D1.out hd2)
        clear hd2
        by_cases f0 : y = 0
        · subst f0
          go_wp2_with fail
          refine (IH.out _ R2.out).mono ?_
          rintro e w3 ⟨s1, hs1, rfl, hd3'⟩
          have R3 := hide hd3'.1
          have D3 := hide (drew_trans D2.out hd3')
          clear hd3'
          go_wp2_with fail
          refine (IH.out _ R3.out).mono ?_
          rintro e w4 ⟨s2, hs2, rfl, hd4⟩
          have D4 := hide (drew_trans D3.out hd4)
          clear hd4
          go_wp2
          go_ret
          exact ⟨_, by have := EB.out; simp only [ByteArray.size_append]; omega, rfl, D4.out⟩
        · have c0 : (y == 0) = false := by simp; omega
          by_cases f1 : y = 1
          · subst f1
            go_wp2_with fail
            refine (IH.out _ R2.out).mono ?_
            rintro e w3 ⟨s1, hs1, rfl, hd3'⟩
            have R3 := hide hd3'.1
            have D3 := hide (drew_trans D2.out hd3')
            have hG3 := rd_lt hd3'.1
            clear hd3'
            go_wp2_with fail
            refine (d_below G a n cap zs 7 _ (by omega) (by omega) (rd_alloc R3.out _)).mono ?_
            rintro e w4 ⟨z, hz0, hz1, rfl, hd4⟩
            obtain ⟨s, hs, hs2⟩ := str_cellG 5 hd4.2 hz0 hz1 rfl hG3 (fun k hk => by
              have hk' : k < 7 := hk
              rcases (show k = 0 ∨ k = 1 ∨ k = 2 ∨ k = 3 ∨ k = 4 ∨ k = 5 ∨ k = 6 by omega) with e | e | e | e | e | e | e <;> subst e <;> exact ⟨_, rfl, by decide⟩)
            have D4 := hide (drew_trans D3.out (drew_alloc _ hd4))
            clear hd4
            go_wp2
            go_ret
            exact ⟨_, by have := EB.out; simp only [ByteArray.size_append]; omega, rfl, D4.out⟩
          · have c1 : (y == 1) = false := by simp; omega
            by_cases f2 : y = 2
            · subst f2
              go_wp2_with fail
              refine (IH.out _ R2.out).mono ?_
              rintro e w3 ⟨s1, hs1, rfl, hd3'⟩
              have D3 := hide (drew_trans D2.out hd3')
              clear hd3'
              go_wp2
              go_ret
              exact ⟨_, by have := EB.out; simp only [ByteArray.size_append]; omega, rfl, D3.out⟩
            · have c2 : (y == 2) = false := by simp; omega
              go_wp2_with fail
              refine (IH.out _ R2.out).mono ?_
              rintro e w3 ⟨s1, hs1, rfl, hd3'⟩
              have R3 := hide hd3'.1
              have D3 := hide (drew_trans D2.out hd3')
              clear hd3'
              go_wp2_with fail
              refine (IH.out _ R3.out).mono ?_
              rintro e w4 ⟨s2, hs2, rfl, hd4⟩
              have D4 := hide (drew_trans D3.out hd4)
              clear hd4
              go_wp2
              go_ret
              exact ⟨_, by have := EB.out; simp only [ByteArray.size_append]; omega, rfl, D4.out⟩
theorem d_rx (G : Nat) (a : Option Addr) (n cap : Nat) (zs : List Int) : ∀ d, d ≤ 3 → RxD G a n cap zs d
  | 0, _ => d_rxS G a n cap zs 0 (by omega) (fun q h => by omega)
  | d + 1, h => d_rxS G a n cap zs (d + 1) h (fun q hq => by obtain rfl : d = q := (by omega); exact d_rx G a n cap zs d (by omega))
end Go.Proofs.YtepommmmmfaihaaDoor
