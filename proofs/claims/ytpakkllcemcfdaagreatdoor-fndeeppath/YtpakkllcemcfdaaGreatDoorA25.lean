/-
  Texts put together: Draw, DrOff.
-/
import Derived.Test.YtpakkllcemcfdaaGreatDoorA1
import Derived.Test.YtpakkllcemcfdaaGreatDoorChecked
import Derived.WalkKit
import Derived.WalkLawsBesides
import Derived.Below
import Derived.OwnWalk
import Derived.Laws.OwnMore
import Derived.RegionTactic
import Derived.Deep.QuietTactic
import Derived.BigQuiet
import Derived.Deep.Draws
import Derived.KernelRfl
/-
  Contracts of the drawing reader: whatever the code is, each draw answers a number in its range and writes the reader's own place alone.
-/
namespace Go.Proofs.YtpakkllcemcfdaaGreatDoor
open Go.RowKit
set_option linter.unusedVariables false
set_option linter.unusedSimpArgs false

/-- A row's first cells hold 'zs', in a block below 'B'. -/
def SrcAt (w : World) (a : Option Addr) (zs : List Int) (B : Nat) : Prop :=
  zs ≠ [] → ∃ b off, a = some ⟨b, off, none⟩ ∧ b < B ∧ ∀ j, j < zs.length → w.cell? ⟨b, off + j, none⟩ = some (.int .u8 (zs[j]?.getD 0))
/-- The reader lies in block 'G', over the code 'zs', somewhere in it. -/
def RdAt (w : World) (G : Nat) (a : Option Addr) (n cap : Nat) (zs : List Int) : Prop :=
  (∃ p : Nat, p ≤ n ∧ w.heap[G]? = some (.cells #[.slice a n cap, .int .i64 p] 76 (0, 0))) ∧ SrcAt w a zs G ∧ zs.length = n ∧ (∀ x ∈ zs, 0 ≤ x ∧ x ≤ 255) ∧ n ≤ 1048576
theorem grown_trans {w w1 w2 : World} {row : Option Nat} (h1 : w.grownBy w1 row) (h2 : w1.grownBy w2 row) : w.grownBy w2 row :=
  ⟨h2.os.trans h1.os, h2.tape.trans h1.tape, h2.output.trans h1.output, Nat.le_trans h1.size h2.size, fun k hk hne => (h2.block k (Nat.lt_of_lt_of_le hk h1.size) hne).trans (h1.block k hk hne)⟩
theorem grown_refl (w : World) (row : Option Nat) : w.grownBy w row := ⟨rfl, rfl, rfl, Nat.le_refl _, fun _ _ _ => rfl⟩
theorem src_grown {w w' : World} {a : Option Addr} {zs : List Int} {B : Nat} {row : Option Nat} (h : SrcAt w a zs B) (hB : B ≤ w.heap.size) (hg : w.grownBy w' row) (hr : ∀ k, row = some k → B ≤ k) : SrcAt w' a zs B := by
  intro hne
  obtain ⟨b, off, rfl, hb, hc⟩ := h hne
  refine ⟨b, off, rfl, hb, fun j hj => ?_⟩
  exact (World.cell?_of_block (hg.block b (by omega) (fun e => by have := hr b e.symm; omega))).trans (hc j hj)
theorem rd_lt {w : World} {G : Nat} {a : Option Addr} {n cap : Nat} {zs : List Int} (h : RdAt w G a n cap zs) : G < w.heap.size := by
  obtain ⟨⟨p, _, hg⟩, _⟩ := h
  exact (Array.getElem?_eq_some_iff.1 hg).1
/-- What is written behind the reader leaves it as it was. -/
theorem rd_grown {w w' : World} {G : Nat} {a : Option Addr} {n cap : Nat} {zs : List Int} {row : Option Nat} (h : RdAt w G a n cap zs) (hg : w.grownBy w' row) (hr : ∀ k, row = some k → G < k) : RdAt w' G a n cap zs := by
  have hlt := rd_lt h
  obtain ⟨⟨p, hp, hG⟩, hs, hl, hz, hn⟩ := h
  refine ⟨⟨p, hp, ?_⟩, src_grown hs (by omega) hg (fun k hk => by have := hr k hk; omega), hl, hz, hn⟩
  rw [hg.block G hlt (fun e => by have := hr G e.symm; omega)]; exact hG
theorem rd_alloc {w : World} {G : Nat} {a : Option Addr} {n cap : Nat} {zs : List Int} (h : RdAt w G a n cap zs) (o : Obj) : RdAt (w.alloc o) G a n cap zs :=
  rd_grown h (World.grownBy_alloc w o none) (fun k hk => by cases hk)
theorem rd_drewN {w : World} {G : Nat} {a : Option Addr} {n cap : Nat} {zs : List Int} (h : RdAt w G a n cap zs) (q : Nat) : RdAt (w.drewN q) G a n cap zs := h
/-- What one draw leaves. -/
def Drew (G : Nat) (a : Option Addr) (n cap : Nat) (zs : List Int) (w w' : World) : Prop := RdAt w' G a n cap zs ∧ w.grownBy w' (some G)
theorem drew_trans {G : Nat} {a : Option Addr} {n cap : Nat} {zs : List Int} {w w1 w2 : World} (h1 : Drew G a n cap zs w w1) (h2 : Drew G a n cap zs w1 w2) : Drew G a n cap zs w w2 := ⟨h2.1, grown_trans h1.2 h2.2⟩

theorem drew_step {w : World} {G : Nat} {a : Option Addr} {n cap : Nat} {zs : List Int} (h : RdAt w G a n cap zs) {p : Nat} (hp : p < n) (hG : w.heap[G]? = some (.cells #[.slice a n cap, .int .i64 p] 76 (0, 0))) (q1 q2 : Nat) :
    Drew G a n cap zs w (((w.drewN q1).setCell ⟨G, 1, none⟩ (.int .i64 ((p : Int) + 1))).drewN q2) := by
  have hlt := rd_lt h
  have hset := heap_setCell_same (w.drewN q1) G 1 _ 76 (.int .i64 ((p : Int) + 1)) hG
  have hgr : w.grownBy (((w.drewN q1).setCell ⟨G, 1, none⟩ (.int .i64 ((p : Int) + 1))).drewN q2) (some G) := by
    refine ⟨rfl, rfl, rfl, ?_, fun k hk hne => ?_⟩
    · simp
    · exact Below.heap_setCell (w.drewN q1) ⟨G, 1, none⟩ _ k (fun e => hne (by rw [e]))
  obtain ⟨_, hs, hl, hz, hn⟩ := h
  refine ⟨⟨⟨p + 1, by omega, ?_⟩, src_grown hs (by omega) hgr (fun k hk => by cases hk; exact Nat.le_refl _), hl, hz, hn⟩, hgr⟩
  exact hset

set_option maxHeartbeats 1000000 in
theorem d_next (G : Nat) (a : Option Addr) (n cap : Nat) (zs : List Int) (w : World) (h : RdAt w G a n cap zs) :
    Calls Tryz.prog 81 #[.pointer (some ⟨G, 0, none⟩)] w fun e w' => ∃ x : Int, 0 ≤ x ∧ x ≤ 255 ∧ e = .returned (.int .i64 x) ∧ Drew G a n cap zs w w' := by
  have HH := hide h
  obtain ⟨⟨p, hp, hG⟩, hs, hl, hz, hn⟩ := h
  have c0 : w.cell? ⟨G, 0, none⟩ = some (.slice a n cap) := by rw [cell_of_row w G 0 _ 76 (0, 0) hG]; rfl
  have c1 : w.cell? ⟨G, 1, none⟩ = some (.int .i64 p) := by rw [cell_of_row w G 1 _ 76 (0, 0) hG]; rfl
  have hf : w.frozen? ⟨G, 1, none⟩ = false := frozen_of_row w G 1 _ 76 hG
  have HG := hide hG
  have HS := hide hs
  have HL := hide hl
  have HZ := hide hz
  clear hG hs hl hz
  by_cases hlt : p < n
  · have hlt' : ¬ (n : Int) ≤ (p : Int) := by omega
    obtain ⟨b, off, rfl, hbG, hc⟩ := HS.out (fun e => by have := HL.out; rw [e] at this; simp at this; omega)
    have hcb := hc p (by rw [HL.out]; exact hlt)
    have hmem : 0 ≤ zs[p]?.getD 0 ∧ zs[p]?.getD 0 ≤ 255 := by
      have hpl : p < zs.length := by rw [HL.out]; exact hlt
      rw [List.getElem?_eq_getElem hpl]
      exact HZ.out _ (List.getElem_mem hpl)
    obtain ⟨x, hx⟩ : ∃ x, zs[p]?.getD 0 = x := ⟨_, rfl⟩
    rw [hx] at hcb hmem
    obtain ⟨hx0, hx1⟩ := hmem
    have hset := heap_setCell_same w G 1 _ 76 (.int .i64 ((p : Int) + 1)) HG.out
    have s2 : ∀ q, ((w.drewN q).setCell ⟨G, 1, none⟩ (.int .i64 ((p : Int) + 1))).cell? ⟨b, off + p, none⟩ = some (.int .u8 x) := fun q =>
      (World.cell?_of_block (Below.heap_setCell w ⟨G, 1, none⟩ _ b (by show b ≠ G; omega))).trans hcb
    have hwr : IntKind.i64.wrap (p : Int) = (p : Int) := by rw [IntKind.wrap_i64]; omega
    have hi0 : (0 : Int) ≤ (p : Int) := by omega
    have hi1 : (p : Int) < (n : Int) := by omega
    have HSET := hide hset
    clear hset hx hc
    go_enter Tryz.func81, Tryz.ntmps81
    go_wp2
    go_quiet (fail)
    go_wp2
    go_quiet (fail)
    go_wp2
    go_ret
    exact ⟨x, hx0, hx1, rfl, drew_step HH.out hlt HG.out _ _⟩
  · have hlt' : (n : Int) ≤ (p : Int) := by omega
    go_enter Tryz.func81, Tryz.ntmps81
    go_wp2
    go_quiet (fail)
    go_wp2
    go_ret
    exact ⟨0, by omega, by omega, rfl, HH.out, ⟨rfl, rfl, rfl, Nat.le_refl _, fun _ _ _ => rfl⟩⟩

set_option maxHeartbeats 1000000 in
theorem d_below (G : Nat) (a : Option Addr) (n cap : Nat) (zs : List Int) (m : Int) (w : World) (hm : 2 ≤ m) (hm' : m ≤ 256) (h : RdAt w G a n cap zs) :
    Calls Tryz.prog 49 #[.pointer (some ⟨G, 0, none⟩), .int .i64 m] w fun e w' => ∃ x : Int, 0 ≤ x ∧ x < m ∧ e = .returned (.int .i64 x) ∧ Drew G a n cap zs w w' := by
  have HH := hide h
  clear h
  have hm1 : ¬ m ≤ 1 := by omega
  go_enter Tryz.func49, Tryz.ntmps49
  go_wp2_with fail
  refine (d_next G a n cap zs _ HH.out).mono ?_
  rintro e w1 ⟨x, hx0, hx1, rfl, hd⟩
  have HD := hide hd
  clear hd
  go_wp2
  go_ret
  exact ⟨x % m, Int.emod_nonneg _ (by omega), Int.emod_lt_of_pos _ (by omega), rfl, HD.out⟩

set_option maxHeartbeats 1000000 in
theorem d_once (G : Nat) (a : Option Addr) (n cap : Nat) (zs : List Int) (m : Int) (w : World) (hm : 2 ≤ m) (hm' : m ≤ 256) (h : RdAt w G a n cap zs) :
    Calls Tryz.prog 23 #[.pointer (some ⟨G, 0, none⟩), .int .i64 m] w fun e w' => ∃ x : Bool, e = .returned (.bool x) ∧ Drew G a n cap zs w w' := by
  have HH := hide h
  clear h
  go_enter Tryz.func23, Tryz.ntmps23
  go_wp2_with fail
  refine (d_below G a n cap zs m _ hm hm' HH.out).mono ?_
  rintro e w1 ⟨x, hx0, hx1, rfl, hd⟩
  have HD := hide hd
  clear hd
  go_wp2
  go_ret
  exact ⟨_, rfl, HD.out⟩

set_option maxHeartbeats 1000000 in
theorem d_open (a : Option Addr) (n cap : Nat) (zs : List Int) (w : World) (hl : zs.length = n) (hz : ∀ x ∈ zs, 0 ≤ x ∧ x ≤ 255) (hn : n ≤ 1048576) (hs : SrcAt w a zs w.heap.size) :
    Calls Tryz.prog 21 #[.slice a n cap] w fun e w' => e = .returned (.pointer (some ⟨w.heap.size, 0, none⟩)) ∧ RdAt w' w.heap.size a n cap zs ∧ Below w.heap.size w w' := by
  have HS := hide hs
  have HL := hide hl
  have HZ := hide hz
  clear hs hl hz
  go_enter Tryz.func21, Tryz.ntmps21
  go_wp2
  go_ret
  exact ⟨rfl, ⟨⟨0, Nat.zero_le _, heap_alloc_new w _⟩, src_grown HS.out (Nat.le_refl _) (World.grownBy_alloc w _ none) (fun k hk => by cases hk), HL.out, HZ.out, hn⟩, (Below.refl _ _).alloc (Nat.le_refl _) _⟩

/-- What a draw leaves that also laid new blocks. -/
def Drawn (G : Nat) (a : Option Addr) (n cap : Nat) (zs : List Int) (w w' : World) : Prop := Drew G a n cap zs w w'
theorem drew_alloc {G : Nat} {a : Option Addr} {n cap : Nat} {zs : List Int} {w w1 : World} (o : Obj) (h : Drew G a n cap zs (w.alloc o) w1) : Drew G a n cap zs w w1 :=
  ⟨h.1, grown_trans (World.grownBy_alloc w o (some G)) h.2⟩
theorem name_cell (w w1 : World) (G : Nat) (x : Int) (h0 : 0 ≤ x) (h7 : x < 7) (hG : G < w.heap.size)
    (hg : (w.alloc (.cells #[.string ⟨#[97]⟩, .string ⟨#[98]⟩, .string ⟨#[99]⟩, .string ⟨#[100]⟩, .string ⟨#[120, 49]⟩, .string ⟨#[95, 121]⟩, .string ⟨#[97, 46, 98, 45, 99]⟩] 9)).grownBy w1 (some G)) :
    ∃ s : ByteArray, w1.cell? ⟨w.heap.size, x.toNat, none⟩ = some (.string s) ∧ 1 ≤ s.size ∧ s.size ≤ 5 := by
  have hb := hg.block w.heap.size (by simp) (fun e => by cases e; omega)
  rw [World.cell?_of_block (a := ⟨w.heap.size, x.toNat, none⟩) hb, cell_of_row _ w.heap.size x.toNat _ 9 (0, 0) (heap_alloc_new w _)]
  have hx : x.toNat = 0 ∨ x.toNat = 1 ∨ x.toNat = 2 ∨ x.toNat = 3 ∨ x.toNat = 4 ∨ x.toNat = 5 ∨ x.toNat = 6 := by omega
  rcases hx with e | e | e | e | e | e | e <;> rw [e] <;> exact ⟨_, rfl, by decide, by decide⟩

set_option maxHeartbeats 1000000 in
theorem d_name (G : Nat) (a : Option Addr) (n cap : Nat) (zs : List Int) (w : World) (h : RdAt w G a n cap zs) :
    Calls Tryz.prog 51 #[.pointer (some ⟨G, 0, none⟩)] w fun e w' => ∃ s : ByteArray, 1 ≤ s.size ∧ s.size ≤ 5 ∧ e = .returned (.string s) ∧ Drew G a n cap zs w w' := by
  have HH := hide h
  have hG := rd_lt h
  clear h
  go_enter Tryz.func51, Tryz.ntmps51
  go_wp2_with fail
  refine (d_below G a n cap zs 7 _ (by omega) (by omega) (rd_alloc HH.out _)).mono ?_
  rintro e w1 ⟨x, hx0, hx1, rfl, hd⟩
  obtain ⟨s, hs, hs1, hs2⟩ := name_cell w w1 G x hx0 hx1 hG hd.2
  have HD := hide (drew_alloc _ hd)
  clear hd
  go_wp2
  go_ret
  exact ⟨s, hs1, hs2, rfl, HD.out⟩
end Go.Proofs.YtpakkllcemcfdaaGreatDoor

/-
  Contracts of the drawing reader: a number in a range, or just outside of it, and a text: what it leaves.
-/
namespace Go.Proofs.YtpakkllcemcfdaaGreatDoor
open Go.RowKit
set_option linter.unusedVariables false
set_option linter.unusedSimpArgs false
theorem below_drew {G : Nat} {a : Option Addr} {n cap : Nat} {zs : List Int} {w w1 w2 : World} (h : Below G w w1) (hd : Drew G a n cap zs w1 w2) (hG : G ≤ w1.heap.size) : Below G w w2 :=
  h.grown hd.2 hG (fun k hk => by cases hk; exact Nat.le_refl _)
theorem drew_refl {G : Nat} {a : Option Addr} {n cap : Nat} {zs : List Int} {w : World} (h : RdAt w G a n cap zs) : Drew G a n cap zs w w := ⟨h, grown_refl w _⟩
theorem off_cell (w w1 : World) (G : Nat) (x : Int) (h0 : 0 ≤ x) (h7 : x < 4) (hG : G < w.heap.size) {p q r s : Int} {T : TypeId}
    (hg : (w.alloc (.cells #[.int .i64 p, .int .i64 q, .int .i64 r, .int .i64 s] T)).grownBy w1 (some G)) :
    ∃ y : Int, w1.cell? ⟨w.heap.size, x.toNat, none⟩ = some (.int .i64 y) := by
  have hb := hg.block w.heap.size (by simp) (fun e => by cases e; omega)
  rw [World.cell?_of_block (a := ⟨w.heap.size, x.toNat, none⟩) hb, cell_of_row _ w.heap.size x.toNat _ T (0, 0) (heap_alloc_new w _)]
  have hx : x.toNat = 0 ∨ x.toNat = 1 ∨ x.toNat = 2 ∨ x.toNat = 3 := by omega
  rcases hx with e | e | e | e <;> rw [e] <;> exact ⟨_, rfl⟩
set_option maxHeartbeats 1000000 in
theorem d_word (G : Nat) (a : Option Addr) (n cap : Nat) (zs : List Int) (w : World) (h : RdAt w G a n cap zs) :
    Calls Tryz.prog 82 #[.pointer (some ⟨G, 0, none⟩)] w fun e w' => ∃ x : Int, e = .returned (.int .u64 x) ∧ Drew G a n cap zs w w' := by
  have HH := hide h
  clear h
  go_enter Tryz.func82, Tryz.ntmps82
  go_wp2
  go_loopw [3, 4] (fun vx vi wr => ∃ (x : Int) (k : Nat), vx = .int .u64 x ∧ vi = .int .i64 k ∧ k ≤ 8 ∧ Hid (Drew G a n cap zs w wr)) (fun _ vi _ => 8 - (intOf vi).toNat)
  case atStart => exact ⟨0, 0, rfl, rfl, by omega, hide (drew_refl HH.out)⟩
  case round =>
    obtain ⟨x, k, rfl, rfl, hk, HD⟩ := hrel
    by_cases hlt : k < 8
    · go_wp2_with fail
      refine (d_next G a n cap zs _ HD.out.1).mono ?_
      rintro e w2 ⟨y, hy0, hy1, rfl, hd⟩
      have HD2 := hide (drew_trans HD.out hd)
      clear hd
      go_wp2
      go_roundw
      case rel => exact ⟨_, k + 1, rfl, by go_num, by omega, HD2⟩
      case measure => simp [intOf]; omega
    · go_wp2
      go_ret
      exact ⟨x, rfl, HD.out⟩
set_option maxHeartbeats 1000000 in
theorem d_nearG (G : Nat) (a : Option Addr) (n cap : Nat) (zs : List Int) (lo hi : Int) (w : World) (h0 : -2 ≤ lo) (h1 : lo ≤ hi) (h2 : hi ≤ 1048576) (h : RdAt w G a n cap zs) :
    Calls Tryz.prog 53 #[.pointer (some ⟨G, 0, none⟩), .int .i64 lo, .int .i64 hi] w fun e w' => ∃ x : Int, e = .returned (.int .i64 x) ∧ Drew G a n cap zs w w' := by
  have HH := hide h
  have hlt : ¬ hi < lo := by omega
  have k1 : IntKind.i64.wrap (hi - lo) = hi - lo := by rw [IntKind.wrap_i64]; omega
  have k2 : IntKind.i64.wrap (hi - lo + 1) = hi - lo + 1 := by rw [IntKind.wrap_i64]; omega
  have k3 : IntKind.u64.wrap (hi - lo + 1) = hi - lo + 1 := by unfold IntKind.wrap; simp [IntKind.signed, IntKind.bits]; omega
  have k4 : ¬ (hi - lo + 1 = 0) := by omega
  have k5 : (hi - lo + 1 == 0) = false := by simp; omega
  clear h
  go_enter Tryz.func53, Tryz.ntmps53
  go_wp2_with fail
  refine (d_below G a n cap zs 8 _ (by omega) (by omega) HH.out).mono ?_
  rintro e w1 ⟨x, hx0, hx1, rfl, hd⟩
  have HD := hide hd
  clear hd
  rcases (show x = 0 ∨ x = 1 ∨ 2 ≤ x by omega) with hx | hx | hx
  · subst hx
    go_wp2
    go_ret
    exact ⟨_, rfl, HD.out⟩
  · subst hx
    go_wp2
    go_ret
    exact ⟨_, rfl, HD.out⟩
  · go_wp2_with fail
    refine (d_word G a n cap zs _ HD.out.1).mono ?_
    rintro e w2 ⟨y, rfl, hd⟩
    have HD2 := hide (drew_trans HD.out hd)
    clear hd
    go_wp2
    go_ret
    exact ⟨_, rfl, HD2.out⟩
set_option maxHeartbeats 1000000 in
theorem d_offG (G : Nat) (a : Option Addr) (n cap : Nat) (zs : List Int) (lo hi : Int) (w : World) (h0 : -2 ≤ lo) (h1 : lo ≤ hi) (h2 : hi ≤ 1048576) (h : RdAt w G a n cap zs) :
    Calls Tryz.prog 25 #[.pointer (some ⟨G, 0, none⟩), .int .i64 lo, .int .i64 hi] w fun e w' => ∃ x : Int, e = .returned (.int .i64 x) ∧ Drew G a n cap zs w w' := by
  have HH := hide h
  clear h
  go_enter Tryz.func25, Tryz.ntmps25
  go_wp2_with fail
  refine (d_once G a n cap zs 24 _ (by omega) (by omega) HH.out).mono ?_
  rintro e w1 ⟨b, rfl, hd⟩
  have HD := hide hd
  have hG := rd_lt hd.1
  clear hd
  cases b
  · go_wp2_with fail
    refine (d_nearG G a n cap zs lo hi _ h0 h1 h2 HD.out.1).mono ?_
    rintro e w2 ⟨y, rfl, hd⟩
    have HD2 := hide (drew_trans HD.out hd)
    clear hd
    go_wp2
    go_ret
    exact ⟨_, rfl, HD2.out⟩
  · go_wp2_with fail
    refine (d_below G a n cap zs 4 _ (by omega) (by omega) (rd_alloc HD.out.1 _)).mono ?_
    rintro e w2 ⟨x, hx0, hx1, rfl, hd⟩
    obtain ⟨y, hy⟩ := off_cell w1 w2 G x hx0 hx1 hG hd.2
    have HD2 := hide (drew_trans HD.out (drew_alloc _ hd))
    clear hd
    go_wp2
    go_ret
    exact ⟨y, rfl, HD2.out⟩
theorem str_cell {w w1 : World} {G : Nat} (K : Nat) {cs : Array Value} {T : TypeId} {x : Int} {N : Nat} (hg : (w.alloc (.cells cs T)).grownBy w1 (some G)) (h0 : 0 ≤ x) (hx : x < N) (hN : cs.size = N) (hG : G < w.heap.size) (hK : ∀ k, k < N → ∃ s : ByteArray, cs[k]? = some (.string s) ∧ s.size ≤ K) : ∃ s : ByteArray, w1.cell? ⟨w.heap.size, x.toNat, none⟩ = some (.string s) ∧ s.size ≤ K := by
  have hb := hg.block w.heap.size (by simp) (fun e => by cases e; omega)
  rw [World.cell?_of_block (a := ⟨w.heap.size, x.toNat, none⟩) hb, cell_of_row _ w.heap.size x.toNat _ T (0, 0) (heap_alloc_new w _)]
  exact hK x.toNat (by omega)
set_option maxHeartbeats 1000000 in
theorem d_text (G : Nat) (a : Option Addr) (n cap : Nat) (zs : List Int) (w : World) (h : RdAt w G a n cap zs) :
    Calls Tryz.prog 52 #[.pointer (some ⟨G, 0, none⟩)] w fun e w' => ∃ s : ByteArray, s.size ≤ 4 ∧ e = .returned (.string s) ∧ Drew G a n cap zs w w' := by
  have HH := hide h
  have hG := rd_lt h
  clear h
  go_enter Tryz.func52, Tryz.ntmps52
  go_wp2_with fail
  refine (d_below G a n cap zs 14 _ (by omega) (by omega) (rd_alloc HH.out _)).mono ?_
  rintro e w1 ⟨x, hx0, hx1, rfl, hd⟩
  obtain ⟨s, hs, hs1⟩ := str_cell 4 hd.2 hx0 hx1 rfl hG (fun k hk => by
    have hk' : k < 14 := hk
    have hx : k = 0 ∨ k = 1 ∨ k = 2 ∨ k = 3 ∨ k = 4 ∨ k = 5 ∨ k = 6 ∨ k = 7 ∨ k = 8 ∨ k = 9 ∨ k = 10 ∨ k = 11 ∨ k = 12 ∨ k = 13 := by omega
    rcases hx with e | e | e | e | e | e | e | e | e | e | e | e | e | e <;> subst e <;> exact ⟨_, rfl, by decide⟩)
  have HD := hide (drew_alloc _ hd)
  clear hd
  go_wp2
  go_ret
  exact ⟨s, hs1, rfl, HD.out⟩

end Go.Proofs.YtpakkllcemcfdaaGreatDoor
