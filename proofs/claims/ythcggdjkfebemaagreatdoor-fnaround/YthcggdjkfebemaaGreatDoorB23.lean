/-
  Texts put together: Draw, DrOff, DrMath.
-/
import Derived.Test.YthcggdjkfebemaaGreatDoorB2
import Derived.Test.YthcggdjkfebemaaGreatDoorChecked
import Derived.WalkKit
import Derived.WalkLawsBesides
import Derived.Below
import Derived.OwnWalk
import Derived.Laws.OwnMore
import Derived.RegionTactic
import Derived.Deep.QuietTactic
import Derived.BigQuiet
import Derived.Deep.Draws
import Derived.KernelRfl
import Derived.Test.YthcggdjkfebemaaGreatDoorB12
/-
  Contracts of the drawing reader: whatever the code is, each draw answers a number in its range and writes the reader's own place alone.
-/
namespace Go.Proofs.YthcggdjkfebemaaGreatDoor
open Go.RowKit
set_option linter.unusedVariables false
set_option linter.unusedSimpArgs false

/-- A row's first cells hold 'zs', in a block below 'B'. -/
def SrcAt (w : World) (a : Option Addr) (zs : List Int) (B : Nat) : Prop :=
  zs ≠ [] → ∃ b off, a = some ⟨b, off, none⟩ ∧ b < B ∧ ∀ j, j < zs.length → w.cell? ⟨b, off + j, none⟩ = some (.int .u8 (zs[j]?.getD 0))
/-- The reader lies in block 'G', over the code 'zs', somewhere in it. -/
def RdAt (w : World) (G : Nat) (a : Option Addr) (n cap : Nat) (zs : List Int) : Prop :=
  (∃ p : Nat, p ≤ n ∧ w.heap[G]? = some (.cells #[.slice a n cap, .int .i64 p] 67 (0, 0))) ∧ SrcAt w a zs G ∧ zs.length = n ∧ (∀ x ∈ zs, 0 ≤ x ∧ x ≤ 255) ∧ n ≤ 1048576
theorem grown_trans {w w1 w2 : World} {row : Option Nat} (h1 : w.grownBy w1 row) (h2 : w1.grownBy w2 row) : w.grownBy w2 row :=
  ⟨h2.os.trans h1.os, h2.tape.trans h1.tape, h2.output.trans h1.output, Nat.le_trans h1.size h2.size, fun k hk hne => (h2.block k (Nat.lt_of_lt_of_le hk h1.size) hne).trans (h1.block k hk hne)⟩
theorem grown_refl (w : World) (row : Option Nat) : w.grownBy w row := ⟨rfl, rfl, rfl, Nat.le_refl _, fun _ _ _ => rfl⟩
theorem src_grown {w w' : World} {a : Option Addr} {zs : List Int} {B : Nat} {row : Option Nat} (h : SrcAt w a zs B) (hB : B ≤ w.heap.size) (hg : w.grownBy w' row) (hr : ∀ k, row = some k → B ≤ k) : SrcAt w' a zs B := by
  intro hne
  obtain ⟨b, off, rfl, hb, hc⟩ := h hne
  refine ⟨b, off, rfl, hb, fun j hj => ?_⟩
  exact (World.cell?_of_block (hg.block b (by omega) (fun e => by have := hr b e.symm; omega))).trans (hc j hj)
theorem rd_lt {w : World} {G : Nat} {a : Option Addr} {n cap : Nat} {zs : List Int} (h : RdAt w G a n cap zs) : G < w.heap.size := by
  obtain ⟨⟨p, _, hg⟩, _⟩ := h
  exact (Array.getElem?_eq_some_iff.1 hg).1
/-- What is written behind the reader leaves it as it was. -/
theorem rd_grown {w w' : World} {G : Nat} {a : Option Addr} {n cap : Nat} {zs : List Int} {row : Option Nat} (h : RdAt w G a n cap zs) (hg : w.grownBy w' row) (hr : ∀ k, row = some k → G < k) : RdAt w' G a n cap zs := by
  have hlt := rd_lt h
  obtain ⟨⟨p, hp, hG⟩, hs, hl, hz, hn⟩ := h
  refine ⟨⟨p, hp, ?_⟩, src_grown hs (by omega) hg (fun k hk => by have := hr k hk; omega), hl, hz, hn⟩
  rw [hg.block G hlt (fun e => by have := hr G e.symm; omega)]; exact hG
theorem rd_alloc {w : World} {G : Nat} {a : Option Addr} {n cap : Nat} {zs : List Int} (h : RdAt w G a n cap zs) (o : Obj) : RdAt (w.alloc o) G a n cap zs :=
  rd_grown h (World.grownBy_alloc w o none) (fun k hk => by cases hk)
theorem rd_drewN {w : World} {G : Nat} {a : Option Addr} {n cap : Nat} {zs : List Int} (h : RdAt w G a n cap zs) (q : Nat) : RdAt (w.drewN q) G a n cap zs := h
/-- What one draw leaves. -/
def Drew (G : Nat) (a : Option Addr) (n cap : Nat) (zs : List Int) (w w' : World) : Prop := RdAt w' G a n cap zs ∧ w.grownBy w' (some G)
theorem drew_trans {G : Nat} {a : Option Addr} {n cap : Nat} {zs : List Int} {w w1 w2 : World} (h1 : Drew G a n cap zs w w1) (h2 : Drew G a n cap zs w1 w2) : Drew G a n cap zs w w2 := ⟨h2.1, grown_trans h1.2 h2.2⟩

theorem drew_step {w : World} {G : Nat} {a : Option Addr} {n cap : Nat} {zs : List Int} (h : RdAt w G a n cap zs) {p : Nat} (hp : p < n) (hG : w.heap[G]? = some (.cells #[.slice a n cap, .int .i64 p] 67 (0, 0))) (q1 q2 : Nat) :
    Drew G a n cap zs w (((w.drewN q1).setCell ⟨G, 1, none⟩ (.int .i64 ((p : Int) + 1))).drewN q2) := by
  have hlt := rd_lt h
  have hset := heap_setCell_same (w.drewN q1) G 1 _ 67 (.int .i64 ((p : Int) + 1)) hG
  have hgr : w.grownBy (((w.drewN q1).setCell ⟨G, 1, none⟩ (.int .i64 ((p : Int) + 1))).drewN q2) (some G) := by
    refine ⟨rfl, rfl, rfl, ?_, fun k hk hne => ?_⟩
    · simp
    · exact Below.heap_setCell (w.drewN q1) ⟨G, 1, none⟩ _ k (fun e => hne (by rw [e]))
  obtain ⟨_, hs, hl, hz, hn⟩ := h
  refine ⟨⟨⟨p + 1, by omega, ?_⟩, src_grown hs (by omega) hgr (fun k hk => by cases hk; exact Nat.le_refl _), hl, hz, hn⟩, hgr⟩
  exact hset

set_option maxHeartbeats 1000000 in
theorem d_next (G : Nat) (a : Option Addr) (n cap : Nat) (zs : List Int) (w : World) (h : RdAt w G a n cap zs) :
    Calls Tryz.prog 61 #[.pointer (some ⟨G, 0, none⟩)] w fun e w' => ∃ x : Int, 0 ≤ x ∧ x ≤ 255 ∧ e = .returned (.int .i64 x) ∧ Drew G a n cap zs w w' := by
  have HH := hide h
  obtain ⟨⟨p, hp, hG⟩, hs, hl, hz, hn⟩ := h
  have c0 : w.cell? ⟨G, 0, none⟩ = some (.slice a n cap) := by rw [cell_of_row w G 0 _ 67 (0, 0) hG]; rfl
  have c1 : w.cell? ⟨G, 1, none⟩ = some (.int .i64 p) := by rw [cell_of_row w G 1 _ 67 (0, 0) hG]; rfl
  have hf : w.frozen? ⟨G, 1, none⟩ = false := frozen_of_row w G 1 _ 67 hG
  have HG := hide hG
  have HS := hide hs
  have HL := hide hl
  have HZ := hide hz
  clear hG hs hl hz
  by_cases hlt : p < n
  · have hlt' : ¬ (n : Int) ≤ (p : Int) := by omega
    obtain ⟨b, off, rfl, hbG, hc⟩ := HS.out (fun e => by have := HL.out; rw [e] at this; simp at this; omega)
    have hcb := hc p (by rw [HL.out]; exact hlt)
    have hmem : 0 ≤ zs[p]?.getD 0 ∧ zs[p]?.getD 0 ≤ 255 := by
      have hpl : p < zs.length := by rw [HL.out]; exact hlt
      rw [List.getElem?_eq_getElem hpl]
      exact HZ.out _ (List.getElem_mem hpl)
    obtain ⟨x, hx⟩ : ∃ x, zs[p]?.getD 0 = x := ⟨_, rfl⟩
    rw [hx] at hcb hmem
    obtain ⟨hx0, hx1⟩ := hmem
    have hset := heap_setCell_same w G 1 _ 67 (.int .i64 ((p : Int) + 1)) HG.out
    have s2 : ∀ q, ((w.drewN q).setCell ⟨G, 1, none⟩ (.int .i64 ((p : Int) + 1))).cell? ⟨b, off + p, none⟩ = some (.int .u8 x) := fun q =>
      (World.cell?_of_block (Below.heap_setCell w ⟨G, 1, none⟩ _ b (by show b ≠ G; omega))).trans hcb
    have hwr : IntKind.i64.wrap (p : Int) = (p : Int) := by rw [IntKind.wrap_i64]; omega
    have hi0 : (0 : Int) ≤ (p : Int) := by omega
    have hi1 : (p : Int) < (n : Int) := by omega
    have HSET := hide hset
    clear hset hx hc
    go_enter Tryz.func61, Tryz.ntmps61
    go_wp2
    go_quiet (fail)
    go_wp2
    go_quiet (fail)
    go_wp2
    go_ret
    exact ⟨x, hx0, hx1, rfl, drew_step HH.out hlt HG.out _ _⟩
  · have hlt' : (n : Int) ≤ (p : Int) := by omega
    go_enter Tryz.func61, Tryz.ntmps61
    go_wp2
    go_quiet (fail)
    go_wp2
    go_ret
    exact ⟨0, by omega, by omega, rfl, HH.out, ⟨rfl, rfl, rfl, Nat.le_refl _, fun _ _ _ => rfl⟩⟩

set_option maxHeartbeats 1000000 in
theorem d_below (G : Nat) (a : Option Addr) (n cap : Nat) (zs : List Int) (m : Int) (w : World) (hm : 2 ≤ m) (hm' : m ≤ 256) (h : RdAt w G a n cap zs) :
    Calls Tryz.prog 30 #[.pointer (some ⟨G, 0, none⟩), .int .i64 m] w fun e w' => ∃ x : Int, 0 ≤ x ∧ x < m ∧ e = .returned (.int .i64 x) ∧ Drew G a n cap zs w w' := by
  have HH := hide h
  clear h
  have hm1 : ¬ m ≤ 1 := by omega
  go_enter Tryz.func30, Tryz.ntmps30
  go_wp2_with fail
  refine (d_next G a n cap zs _ HH.out).mono ?_
  rintro e w1 ⟨x, hx0, hx1, rfl, hd⟩
  have HD := hide hd
  clear hd
  go_wp2
  go_ret
  exact ⟨x % m, Int.emod_nonneg _ (by omega), Int.emod_lt_of_pos _ (by omega), rfl, HD.out⟩

set_option maxHeartbeats 1000000 in
theorem d_once (G : Nat) (a : Option Addr) (n cap : Nat) (zs : List Int) (m : Int) (w : World) (hm : 2 ≤ m) (hm' : m ≤ 256) (h : RdAt w G a n cap zs) :
    Calls Tryz.prog 39 #[.pointer (some ⟨G, 0, none⟩), .int .i64 m] w fun e w' => ∃ x : Bool, e = .returned (.bool x) ∧ Drew G a n cap zs w w' := by
  have HH := hide h
  clear h
  go_enter Tryz.func39, Tryz.ntmps39
  go_wp2_with fail
  refine (d_below G a n cap zs m _ hm hm' HH.out).mono ?_
  rintro e w1 ⟨x, hx0, hx1, rfl, hd⟩
  have HD := hide hd
  clear hd
  go_wp2
  go_ret
  exact ⟨_, rfl, HD.out⟩

set_option maxHeartbeats 1000000 in
theorem d_open (a : Option Addr) (n cap : Nat) (zs : List Int) (w : World) (hl : zs.length = n) (hz : ∀ x ∈ zs, 0 ≤ x ∧ x ≤ 255) (hn : n ≤ 1048576) (hs : SrcAt w a zs w.heap.size) :
    Calls Tryz.prog 15 #[.slice a n cap] w fun e w' => e = .returned (.pointer (some ⟨w.heap.size, 0, none⟩)) ∧ RdAt w' w.heap.size a n cap zs ∧ Below w.heap.size w w' := by
  have HS := hide hs
  have HL := hide hl
  have HZ := hide hz
  clear hs hl hz
  go_enter Tryz.func15, Tryz.ntmps15
  go_wp2
  go_ret
  exact ⟨rfl, ⟨⟨0, Nat.zero_le _, heap_alloc_new w _⟩, src_grown HS.out (Nat.le_refl _) (World.grownBy_alloc w _ none) (fun k hk => by cases hk), HL.out, HZ.out, hn⟩, (Below.refl _ _).alloc (Nat.le_refl _) _⟩

/-- What a draw leaves that also laid new blocks. -/
def Drawn (G : Nat) (a : Option Addr) (n cap : Nat) (zs : List Int) (w w' : World) : Prop := Drew G a n cap zs w w'
theorem drew_alloc {G : Nat} {a : Option Addr} {n cap : Nat} {zs : List Int} {w w1 : World} (o : Obj) (h : Drew G a n cap zs (w.alloc o) w1) : Drew G a n cap zs w w1 :=
  ⟨h.1, grown_trans (World.grownBy_alloc w o (some G)) h.2⟩
theorem name_cell (w w1 : World) (G : Nat) (x : Int) (h0 : 0 ≤ x) (h7 : x < 7) (hG : G < w.heap.size)
    (hg : (w.alloc (.cells #[.string ⟨#[97]⟩, .string ⟨#[98]⟩, .string ⟨#[99]⟩, .string ⟨#[100]⟩, .string ⟨#[120, 49]⟩, .string ⟨#[95, 121]⟩, .string ⟨#[97, 46, 98, 45, 99]⟩] 9)).grownBy w1 (some G)) :
    ∃ s : ByteArray, w1.cell? ⟨w.heap.size, x.toNat, none⟩ = some (.string s) ∧ 1 ≤ s.size ∧ s.size ≤ 5 := by
  have hb := hg.block w.heap.size (by simp) (fun e => by cases e; omega)
  rw [World.cell?_of_block (a := ⟨w.heap.size, x.toNat, none⟩) hb, cell_of_row _ w.heap.size x.toNat _ 9 (0, 0) (heap_alloc_new w _)]
  have hx : x.toNat = 0 ∨ x.toNat = 1 ∨ x.toNat = 2 ∨ x.toNat = 3 ∨ x.toNat = 4 ∨ x.toNat = 5 ∨ x.toNat = 6 := by omega
  rcases hx with e | e | e | e | e | e | e <;> rw [e] <;> exact ⟨_, rfl, by decide, by decide⟩

set_option maxHeartbeats 1000000 in
theorem d_name (G : Nat) (a : Option Addr) (n cap : Nat) (zs : List Int) (w : World) (h : RdAt w G a n cap zs) :
    Calls Tryz.prog 38 #[.pointer (some ⟨G, 0, none⟩)] w fun e w' => ∃ s : ByteArray, 1 ≤ s.size ∧ s.size ≤ 5 ∧ e = .returned (.string s) ∧ Drew G a n cap zs w w' := by
  have HH := hide h
  have hG := rd_lt h
  clear h
  go_enter Tryz.func38, Tryz.ntmps38
  go_wp2_with fail
  refine (d_below G a n cap zs 7 _ (by omega) (by omega) (rd_alloc HH.out _)).mono ?_
  rintro e w1 ⟨x, hx0, hx1, rfl, hd⟩
  obtain ⟨s, hs, hs1, hs2⟩ := name_cell w w1 G x hx0 hx1 hG hd.2
  have HD := hide (drew_alloc _ hd)
  clear hd
  go_wp2
  go_ret
  exact ⟨s, hs1, hs2, rfl, HD.out⟩
end Go.Proofs.YthcggdjkfebemaaGreatDoor

/-
  Contracts of the drawing reader: a number in a range, or just outside of it, and a text: what it leaves.
-/
namespace Go.Proofs.YthcggdjkfebemaaGreatDoor
open Go.RowKit
set_option linter.unusedVariables false
set_option linter.unusedSimpArgs false
theorem below_drew {G : Nat} {a : Option Addr} {n cap : Nat} {zs : List Int} {w w1 w2 : World} (h : Below G w w1) (hd : Drew G a n cap zs w1 w2) (hG : G ≤ w1.heap.size) : Below G w w2 :=
  h.grown hd.2 hG (fun k hk => by cases hk; exact Nat.le_refl _)
theorem drew_refl {G : Nat} {a : Option Addr} {n cap : Nat} {zs : List Int} {w : World} (h : RdAt w G a n cap zs) : Drew G a n cap zs w w := ⟨h, grown_refl w _⟩
theorem off_cell (w w1 : World) (G : Nat) (x : Int) (h0 : 0 ≤ x) (h7 : x < 4) (hG : G < w.heap.size) {p q r s : Int} {T : TypeId}
    (hg : (w.alloc (.cells #[.int .i64 p, .int .i64 q, .int .i64 r, .int .i64 s] T)).grownBy w1 (some G)) :
    ∃ y : Int, w1.cell? ⟨w.heap.size, x.toNat, none⟩ = some (.int .i64 y) := by
  have hb := hg.block w.heap.size (by simp) (fun e => by cases e; omega)
  rw [World.cell?_of_block (a := ⟨w.heap.size, x.toNat, none⟩) hb, cell_of_row _ w.heap.size x.toNat _ T (0, 0) (heap_alloc_new w _)]
  have hx : x.toNat = 0 ∨ x.toNat = 1 ∨ x.toNat = 2 ∨ x.toNat = 3 := by omega
  rcases hx with e | e | e | e <;> rw [e] <;> exact ⟨_, rfl⟩
set_option maxHeartbeats 1000000 in
theorem d_word (G : Nat) (a : Option Addr) (n cap : Nat) (zs : List Int) (w : World) (h : RdAt w G a n cap zs) :
    Calls Tryz.prog 92 #[.pointer (some ⟨G, 0, none⟩)] w fun e w' => ∃ x : Int, e = .returned (.int .u64 x) ∧ Drew G a n cap zs w w' := by
  have HH := hide h
  clear h
  go_enter Tryz.func92, Tryz.ntmps92
  go_wp2
  go_loopw [3, 4] (fun vx vi wr => ∃ (x : Int) (k : Nat), vx = .int .u64 x ∧ vi = .int .i64 k ∧ k ≤ 8 ∧ Hid (Drew G a n cap zs w wr)) (fun _ vi _ => 8 - (intOf vi).toNat)
  case atStart => exact ⟨0, 0, rfl, rfl, by omega, hide (drew_refl HH.out)⟩
  case round =>
    obtain ⟨x, k, rfl, rfl, hk, HD⟩ := hrel
    by_cases hlt : k < 8
    · go_wp2_with fail
      refine (d_next G a n cap zs _ HD.out.1).mono ?_
      rintro e w2 ⟨y, hy0, hy1, rfl, hd⟩
      have HD2 := hide (drew_trans HD.out hd)
      clear hd
      go_wp2
      go_roundw
      case rel => exact ⟨_, k + 1, rfl, by go_num, by omega, HD2⟩
      case measure => simp [intOf]; omega
    · go_wp2
      go_ret
      exact ⟨x, rfl, HD.out⟩
set_option maxHeartbeats 1000000 in
theorem d_nearG (G : Nat) (a : Option Addr) (n cap : Nat) (zs : List Int) (lo hi : Int) (w : World) (h0 : -2 ≤ lo) (h1 : lo ≤ hi) (h2 : hi ≤ 1048576) (h : RdAt w G a n cap zs) :
    Calls Tryz.prog 70 #[.pointer (some ⟨G, 0, none⟩), .int .i64 lo, .int .i64 hi] w fun e w' => ∃ x : Int, e = .returned (.int .i64 x) ∧ Drew G a n cap zs w w' := by
  have HH := hide h
  have hlt : ¬ hi < lo := by omega
  have k1 : IntKind.i64.wrap (hi - lo) = hi - lo := by rw [IntKind.wrap_i64]; omega
  have k2 : IntKind.i64.wrap (hi - lo + 1) = hi - lo + 1 := by rw [IntKind.wrap_i64]; omega
  have k3 : IntKind.u64.wrap (hi - lo + 1) = hi - lo + 1 := by unfold IntKind.wrap; simp [IntKind.signed, IntKind.bits]; omega
  have k4 : ¬ (hi - lo + 1 = 0) := by omega
  have k5 : (hi - lo + 1 == 0) = false := by simp; omega
  clear h
  go_enter Tryz.func70, Tryz.ntmps70
  go_wp2_with fail
  refine (d_below G a n cap zs 8 _ (by omega) (by omega) HH.out).mono ?_
  rintro e w1 ⟨x, hx0, hx1, rfl, hd⟩
  have HD := hide hd
  clear hd
  rcases (show x = 0 ∨ x = 1 ∨ 2 ≤ x by omega) with hx | hx | hx
  · subst hx
    go_wp2
    go_ret
    exact ⟨_, rfl, HD.out⟩
  · subst hx
    go_wp2
    go_ret
    exact ⟨_, rfl, HD.out⟩
  · go_wp2_with fail
    refine (d_word G a n cap zs _ HD.out.1).mono ?_
    rintro e w2 ⟨y, rfl, hd⟩
    have HD2 := hide (drew_trans HD.out hd)
    clear hd
    go_wp2
    go_ret
    exact ⟨_, rfl, HD2.out⟩
set_option maxHeartbeats 1000000 in
theorem d_offG (G : Nat) (a : Option Addr) (n cap : Nat) (zs : List Int) (lo hi : Int) (w : World) (h0 : -2 ≤ lo) (h1 : lo ≤ hi) (h2 : hi ≤ 1048576) (h : RdAt w G a n cap zs) :
    Calls Tryz.prog 40 #[.pointer (some ⟨G, 0, none⟩), .int .i64 lo, .int .i64 hi] w fun e w' => ∃ x : Int, e = .returned (.int .i64 x) ∧ Drew G a n cap zs w w' := by
  have HH := hide h
  clear h
  go_enter Tryz.func40, Tryz.ntmps40
  go_wp2_with fail
  refine (d_once G a n cap zs 24 _ (by omega) (by omega) HH.out).mono ?_
  rintro e w1 ⟨b, rfl, hd⟩
  have HD := hide hd
  have hG := rd_lt hd.1
  clear hd
  cases b
  · go_wp2_with fail
    refine (d_nearG G a n cap zs lo hi _ h0 h1 h2 HD.out.1).mono ?_
    rintro e w2 ⟨y, rfl, hd⟩
    have HD2 := hide (drew_trans HD.out hd)
    clear hd
    go_wp2
    go_ret
    exact ⟨_, rfl, HD2.out⟩
  · go_wp2_with fail
    refine (d_below G a n cap zs 4 _ (by omega) (by omega) (rd_alloc HD.out.1 _)).mono ?_
    rintro e w2 ⟨x, hx0, hx1, rfl, hd⟩
    obtain ⟨y, hy⟩ := off_cell w1 w2 G x hx0 hx1 hG hd.2
    have HD2 := hide (drew_trans HD.out (drew_alloc _ hd))
    clear hd
    go_wp2
    go_ret
    exact ⟨y, rfl, HD2.out⟩
theorem str_cell {w w1 : World} {G : Nat} (K : Nat) {cs : Array Value} {T : TypeId} {x : Int} {N : Nat} (hg : (w.alloc (.cells cs T)).grownBy w1 (some G)) (h0 : 0 ≤ x) (hx : x < N) (hN : cs.size = N) (hG : G < w.heap.size) (hK : ∀ k, k < N → ∃ s : ByteArray, cs[k]? = some (.string s) ∧ s.size ≤ K) : ∃ s : ByteArray, w1.cell? ⟨w.heap.size, x.toNat, none⟩ = some (.string s) ∧ s.size ≤ K := by
  have hb := hg.block w.heap.size (by simp) (fun e => by cases e; omega)
  rw [World.cell?_of_block (a := ⟨w.heap.size, x.toNat, none⟩) hb, cell_of_row _ w.heap.size x.toNat _ T (0, 0) (heap_alloc_new w _)]
  exact hK x.toNat (by omega)
set_option maxHeartbeats 1000000 in
theorem d_text (G : Nat) (a : Option Addr) (n cap : Nat) (zs : List Int) (w : World) (h : RdAt w G a n cap zs) :
    Calls Tryz.prog 41 #[.pointer (some ⟨G, 0, none⟩)] w fun e w' => ∃ s : ByteArray, s.size ≤ 4 ∧ e = .returned (.string s) ∧ Drew G a n cap zs w w' := by
  have HH := hide h
  have hG := rd_lt h
  clear h
  go_enter Tryz.func41, Tryz.ntmps41
  go_wp2_with fail
  refine (d_below G a n cap zs 14 _ (by omega) (by omega) (rd_alloc HH.out _)).mono ?_
  rintro e w1 ⟨x, hx0, hx1, rfl, hd⟩
  obtain ⟨s, hs, hs1⟩ := str_cell 4 hd.2 hx0 hx1 rfl hG (fun k hk => by
    have hk' : k < 14 := hk
    have hx : k = 0 ∨ k = 1 ∨ k = 2 ∨ k = 3 ∨ k = 4 ∨ k = 5 ∨ k = 6 ∨ k = 7 ∨ k = 8 ∨ k = 9 ∨ k = 10 ∨ k = 11 ∨ k = 12 ∨ k = 13 := by omega
    rcases hx with e | e | e | e | e | e | e | e | e | e | e | e | e | e <;> subst e <;> exact ⟨_, rfl, by decide⟩)
  have HD := hide (drew_alloc _ hd)
  clear hd
  go_wp2
  go_ret
  exact ⟨s, hs1, rfl, HD.out⟩

end Go.Proofs.YthcggdjkfebemaaGreatDoor

/-
  Plain facts on a document that is drawn, of no program's run: a row of items of the draw's own, their attributes in blocks that stay.
-/
namespace Go.Proofs.YthcggdjkfebemaaGreatDoor
open Go.RowKit Go.Joins
set_option linter.unusedVariables false
set_option linter.unusedSimpArgs false
abbrev IT : TypeId := 41
abbrev AT : TypeId := 58
/-- Blocks of attributes stay. -/
def KeepA (w w' : World) : Prop := w.heap.size ≤ w'.heap.size ∧ ∀ (b : Nat) (cs : Array Value) (fr : Nat × Nat), w.heap[b]? = some (.cells cs AT fr) → w'.heap[b]? = some (.cells cs AT fr)
theorem keepA_refl (w : World) : KeepA w w := ⟨Nat.le_refl _, fun _ _ _ h => h⟩
theorem keepA_step {w0 w w' : World} {row : Option Nat} (h : KeepA w0 w) (hg : w.grownBy w' row) (hr : ∀ k, row = some k → w0.heap.size ≤ k ∨ ∃ cs T fr, w.heap[k]? = some (.cells cs T fr) ∧ T ≠ AT) : KeepA w0 w' := by
  refine ⟨Nat.le_trans h.1 hg.size, fun b cs fr hb => ?_⟩
  have h1 := h.2 b cs fr hb
  have hlt := (Array.getElem?_eq_some_iff.1 h1).1
  have hlt0 := (Array.getElem?_eq_some_iff.1 hb).1
  refine (hg.block b hlt fun e => ?_).trans h1
  rcases hr b e.symm with h2 | ⟨cs', T, fr', h2, h3⟩
  · omega
  · rw [h1] at h2
    simp only [Option.some.injEq, Obj.cells.injEq] at h2
    exact h3 h2.2.1.symm
theorem keepA_below {w0 w w' : World} (h : KeepA w0 w) (hb : Below w.heap.size w w') : KeepA w0 w' :=
  ⟨Nat.le_trans h.1 hb.size, fun b cs fr hb0 => (hb.block b (Array.getElem?_eq_some_iff.1 (h.2 b cs fr hb0)).1).trans (h.2 b cs fr hb0)⟩
theorem keepA_trans {w0 w w' : World} (h : KeepA w0 w) (k : KeepA w w') : KeepA w0 w' := ⟨Nat.le_trans h.1 k.1, fun b cs fr hb => k.2 b cs fr (h.2 b cs fr hb)⟩
theorem grown_set (w : World) (p : Addr) (v : Value) : w.grownBy (w.setCell p v) (some p.block) := ⟨rfl, rfl, rfl, by simp [World.setCell], fun k hk hne => heap_setCell_far w p v k (fun e => hne (by rw [e]))⟩
theorem keepA_drew {w0 w w' : World} {G : Nat} {a : Option Addr} {n cap : Nat} {zs : List Int} (h : KeepA w0 w) (hr : RdAt w G a n cap zs) (hd : Drew G a n cap zs w w') : KeepA w0 w' := by
  refine keepA_step h hd.2 fun k hk => ?_
  cases hk
  obtain ⟨⟨p, -, hG⟩, -⟩ := hr
  exact .inr ⟨_, _, _, hG, by decide⟩
theorem keepA_own {w0 w w' : World} {B : Nat} {v : Value} {m : Nat} {xs : List Value} (h : KeepA w0 w) (ho : w.ownsRow B IT 4 v m xs) (hg : w.grownBy w' v.ownBlock) : KeepA w0 w' := by
  refine keepA_step h hg fun k hk => ?_
  rcases ho.2 with ⟨hv, -⟩ | ⟨g, cp, cur, hv, -, hh, -⟩
  · rw [hv] at hk; cases hk
  · rw [hv] at hk
    cases hk
    exact .inr ⟨_, _, _, hh, by decide⟩
/-- A row of attributes in a block that stays. -/
def AtD (w : World) (ad : Option Addr) (n : Nat) (N V : Nat → ByteArray) : Prop := 0 < n → ∃ b off cs fr, ad = some ⟨b, off, none⟩ ∧ w.heap[b]? = some (.cells cs AT fr) ∧ ∀ k, k < n → cs[off + k * 2]? = some (.string (N k)) ∧ cs[off + k * 2 + 1]? = some (.string (V k))
theorem atD_keep {w w' : World} {ad : Option Addr} {n : Nat} {N V : Nat → ByteArray} (h : AtD w ad n N V) (k : KeepA w w') : AtD w' ad n N V := fun h0 => by
  obtain ⟨b, off, cs, fr, e, hb, hc⟩ := h h0
  exact ⟨b, off, cs, fr, e, k.2 b cs fr hb, hc⟩
theorem atD_at {w : World} {ad : Option Addr} {n : Nat} {N V : Nat → ByteArray} (h : AtD w ad n N V) : AtAt w ad n N V w.heap.size := fun h0 => by
  obtain ⟨b, off, cs, fr, e, hb, hc⟩ := h h0
  refine ⟨b, off, e, (Array.getElem?_eq_some_iff.1 hb).1, fun k hk => ⟨?_, ?_⟩⟩
  · rw [cell_of_row w b _ cs AT fr hb]; exact (hc k hk).1
  · rw [cell_of_row w b _ cs AT fr hb]; exact (hc k hk).2
theorem atD_own {w : World} {B : Nat} {ad : Option Addr} {m c : Nat} {ys : List Value} {N V : Nat → ByteArray} (h : w.ownsRow B AT 2 (.slice ad m c) m ys) (hp : PairsS ys m N V) : AtD w ad m N V := fun h0 => by
  rcases h.2 with ⟨hv, h9⟩ | ⟨g, cp, cur, hv, -, hh, -, -, hs, ht⟩
  · omega
  · simp only [Value.slice.injEq] at hv
    obtain ⟨rfl, -, -⟩ := hv
    refine ⟨g, 0, cur, _, rfl, hh, fun k hk => ?_⟩
    have e : ∀ i, i < m * 2 → cur[i]? = ys[i]? := fun i hi => by
      rw [← ht, List.getElem?_take_of_lt hi, Array.getElem?_toList]
    rw [Nat.zero_add, e _ (by omega), e _ (by omega)]
    exact hp k hk
theorem atD_less {w : World} {ad : Option Addr} {n m : Nat} {N V : Nat → ByteArray} (h : AtD w ad n N V) (hm : m ≤ n) : AtD w ad m N V := fun h0 => by
  obtain ⟨b, off, cs, fr, e, hb, hc⟩ := h (by omega)
  exact ⟨b, off, cs, fr, e, hb, fun k hk => hc k (by omega)⟩
def Small (D : Dc) (j : Nat) : Prop := (D.NM j).size ≤ 8 ∧ (D.TX j).size ≤ 8 ∧ D.AC j ≤ 8 ∧ ∀ k, k < D.AC j → (D.AN j k).size ≤ 8 ∧ (D.AV j k).size ≤ 8
/-- The cells of a row are those of the items of D. -/
def Its (w : World) (xs : List Value) (m : Nat) (D : Dc) : Prop := D.n = m ∧ ∀ j, j < m → ∃ ad cp, (xs[j * 4]? = some (.int .i64 (D.U j)) ∧ xs[j * 4 + 1]? = some (.string (D.NM j)) ∧ xs[j * 4 + 2]? = some (.string (D.TX j)) ∧ xs[j * 4 + 3]? = some (.slice ad (D.AC j) cp)) ∧ AtD w ad (D.AC j) (D.AN j) (D.AV j) ∧ D.AC j ≤ cp ∧ Small D j
theorem its_keep {w w' : World} {xs : List Value} {m : Nat} {D : Dc} (h : Its w xs m D) (k : KeepA w w') : Its w' xs m D := ⟨h.1, fun j hj => by
  obtain ⟨ad, cp, h1, h2, h3⟩ := h.2 j hj
  exact ⟨ad, cp, h1, atD_keep h2 k, h3⟩⟩
def Dc.put (D : Dc) (u : Int) (nm tx : ByteArray) (ac : Nat) (an av : Nat → ByteArray) : Dc :=
  ⟨D.n + 1, fun j => if j = D.n then u else D.U j, fun j => if j = D.n then nm else D.NM j, fun j => if j = D.n then tx else D.TX j, fun j => if j = D.n then ac else D.AC j, fun j => if j = D.n then an else D.AN j, fun j => if j = D.n then av else D.AV j⟩
theorem its_put {w : World} {xs : List Value} {m : Nat} {D : Dc} (h : Its w xs m D) (hl : xs.length = m * 4) (u : Int) (nm tx : ByteArray) (ad : Option Addr) (ac cp : Nat) (an av : Nat → ByteArray) (ha : AtD w ad ac an av) (hc : ac ≤ cp) (h1 : nm.size ≤ 8) (h2 : tx.size ≤ 8) (h3 : ac ≤ 8) (h4 : ∀ k, k < ac → (an k).size ≤ 8 ∧ (av k).size ≤ 8) :
    Its w (xs ++ [.int .i64 u, .string nm, .string tx, .slice ad ac cp]) (m + 1) (D.put u nm tx ac an av) := by
  obtain ⟨hn, hi⟩ := h
  refine ⟨by show D.n + 1 = _; omega, fun j hj => ?_⟩
  by_cases e : j = m
  · subst e
    have e1 : j = D.n := hn.symm
    refine ⟨ad, cp, ?_, ?_, ?_, ?_⟩
    · simp only [Dc.put, if_pos e1]
      rw [List.getElem?_append_right (by omega), List.getElem?_append_right (by omega), List.getElem?_append_right (by omega), List.getElem?_append_right (by omega), hl, show j * 4 - j * 4 = 0 by omega, show j * 4 + 1 - j * 4 = 1 by omega, show j * 4 + 2 - j * 4 = 2 by omega, show j * 4 + 3 - j * 4 = 3 by omega]
      exact ⟨rfl, rfl, rfl, rfl⟩
    · simp only [Dc.put, if_pos e1]; exact ha
    · simp only [Dc.put, if_pos e1]; exact hc
    · simp only [Small, Dc.put, if_pos e1]; exact ⟨h1, h2, h3, h4⟩
  · obtain ⟨ad', cp', c, h5, h6, h7⟩ := hi j (by omega)
    have e1 : ¬ j = D.n := by omega
    refine ⟨ad', cp', ?_, ?_, ?_, ?_⟩
    · simp only [Dc.put, if_neg e1]
      rw [List.getElem?_append_left (by omega), List.getElem?_append_left (by omega), List.getElem?_append_left (by omega), List.getElem?_append_left (by omega)]
      exact c
    · simp only [Dc.put, if_neg e1]; exact h5
    · simp only [Dc.put, if_neg e1]; exact h6
    · simp only [Small, Dc.put, if_neg e1]; exact h7
/-- A drawn row of items. -/
def DrIt (B : Nat) (w : World) (ad : Option Addr) (m c : Nat) (D : Dc) : Prop := ∃ xs, w.ownsRow B IT 4 (.slice ad m c) m xs ∧ Its w xs m D
theorem drIt_kept {B m c : Nat} {w w' : World} {ad : Option Addr} {D : Dc} {row : Option Nat} (h : DrIt B w ad m c D) (hg : w.grownBy w' row) (hne : ∀ k, row = some k → (Value.slice ad m c).ownBlock ≠ some k) (hk : KeepA w w') : DrIt B w' ad m c D := by
  obtain ⟨xs, h1, h2⟩ := h
  refine ⟨xs, h1.kept hg ?_, its_keep h2 hk⟩
  cases hv : (Value.slice ad m c).ownBlock with
  | none => exact .inl rfl
  | some k => exact .inr fun e => hne k e.symm (by rw [hv])
theorem drIt_below {B m c : Nat} {w w' : World} {ad : Option Addr} {D : Dc} (h : DrIt B w ad m c D) (hb : Below w.heap.size w w') : DrIt B w' ad m c D := by
  obtain ⟨xs, h1, h2⟩ := h
  exact ⟨xs, gOwn_after h1 hb, its_keep h2 (keepA_below (keepA_refl w) hb)⟩
theorem drIt_lt {B m c : Nat} {w : World} {ad : Option Addr} {D : Dc} (h : DrIt B w ad m c D) : ∀ k, (Value.slice ad m c).ownBlock = some k → B ≤ k ∧ k < w.heap.size := by
  obtain ⟨xs, h1, h2⟩ := h
  exact h1.lt
theorem drIt_cells {B m c : Nat} {w : World} {ad : Option Addr} {D : Dc} (h : DrIt B w ad m c D) (h0 : 0 < m) : ∃ g, ad = some ⟨g, 0, none⟩ ∧ B ≤ g ∧ g < w.heap.size ∧ DcRow w g 0 D w.heap.size := by
  obtain ⟨xs, h1, hn, hi⟩ := h
  rcases h1.2 with ⟨hv, h9⟩ | ⟨g, cp, cur, hv, hB, hh, rest⟩
  · omega
  · simp only [Value.slice.injEq] at hv
    obtain ⟨rfl, _, rfl⟩ := hv
    refine ⟨g, rfl, hB, (h1.lt g rfl).2, fun j hj => ?_⟩
    obtain ⟨ad', cp', ⟨c0, c1, c2, c3⟩, ha, hc, -⟩ := hi j (by omega)
    refine ⟨ad', cp', ⟨?_, ?_, ?_, ?_⟩, atD_at ha, hc⟩
    · rw [Nat.zero_add, h1.cellAt (j * 4) (by omega)]; exact c0
    · rw [Nat.zero_add, h1.cellAt (j * 4 + 1) (by omega)]; exact c1
    · rw [Nat.zero_add, h1.cellAt (j * 4 + 2) (by omega)]; exact c2
    · rw [Nat.zero_add, h1.cellAt (j * 4 + 3) (by omega)]; exact c3
theorem drIt_dc {B m c : Nat} {w : World} {ad : Option Addr} {D : Dc} (h : DrIt B w ad m c D) : D.n = m ∧ DcAt w ad D w.heap.size := by
  have hn : D.n = m := by obtain ⟨xs, h1, hn, hi⟩ := h; exact hn
  refine ⟨hn, fun h0 => ?_⟩
  obtain ⟨g, e, -, hg, hr⟩ := drIt_cells h (by omega)
  exact ⟨g, 0, e, hg, hr⟩
theorem sumN_small (f : Nat → Nat) (K : Nat) : ∀ m, (∀ j, j < m → f j ≤ K) → sumN f m ≤ m * K
  | 0, h => by simp [sumN]
  | m + 1, h => by
    have h1 := sumN_small f K m (fun j hj => h j (by omega))
    have h2 := h m (by omega)
    show sumN f m + f m ≤ _
    rw [Nat.add_mul]
    omega
theorem drIt_tot {B m c : Nat} {w : World} {ad : Option Addr} {D : Dc} (h : DrIt B w ad m c D) (hm : m ≤ 1000) : dcTot D ≤ 1048576 := by
  obtain ⟨xs, h1, hn, hi⟩ := h
  have h2 : ∀ j, j < D.n → itSz D j ≤ 1000 := fun j hj => by
    obtain ⟨ad', cp', -, -, -, s1, s2, s3, s4⟩ := hi j (by omega)
    have h3 := sumN_small (atSz (D.AN j) (D.AV j)) 16 (D.AC j) (fun k hk => by have := s4 k hk; unfold atSz; omega)
    unfold itSz atTot
    have : D.AC j * 16 ≤ 8 * 16 := Nat.mul_le_mul_right _ s3
    omega
  have h4 := sumN_small (itSz D) 1000 D.n h2
  have : D.n * 1000 ≤ 1000 * 1000 := Nat.mul_le_mul_right _ (by omega)
  unfold dcTot
  omega
end Go.Proofs.YthcggdjkfebemaaGreatDoor
