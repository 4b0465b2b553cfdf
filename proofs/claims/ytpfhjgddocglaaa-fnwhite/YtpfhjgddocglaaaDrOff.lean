/-
  Contracts of the drawing reader: a number in a range, or just outside of it, and a text: what it leaves.
-/
import Derived.Test.YtpfhjgddocglaaaDraw
namespace Go.Proofs.Ytpfhjgddocglaaa
open Go.RowKit
set_option linter.unusedVariables false
set_option linter.unusedSimpArgs false
theorem below_drew {G : Nat} {a : Option Addr} {n cap : Nat} {zs : List Int} {w w1 w2 : World} (h : Below G w w1) (hd : Drew G a n cap zs w1 w2) (hG : G ≤ w1.heap.size) : Below G w w2 :=
  h.grown hd.2 hG (fun k hk => by cases hk; exact Nat.le_refl _)
theorem drew_refl {G : Nat} {a : Option Addr} {n cap : Nat} {zs : List Int} {w : World} (h : RdAt w G a n cap zs) : Drew G a n cap zs w w := ⟨h, grown_refl w _⟩
theorem off_cell (w w1 : World) (G : Nat) (x : Int) (h0 : 0 ≤ x) (h7 : x < 4) (hG : G < w.heap.size) {p q r s : Int} {T : TypeId}
    (hg : (w.alloc (.cells #[.int .i64 p, .int .i64 q, .int .i64 r, .int .i64 s] T)).grownBy w1 (some G)) :
    ∃ y : Int, w1.cell? ⟨w.heap.size, x.toNat, none⟩ = some (.int .i64 y) := by
  have hb := hg.block w.heap.size (by simp) (fun e => by cases e; omega)
  rw [World.cell?_of_block (a := ⟨w.heap.size, x.toNat, none⟩) hb, cell_of_row _ w.heap.size x.toNat _ T (0, 0) (heap_alloc_new w _)]
  have hx : x.toNat = 0 ∨ x.toNat = 1 ∨ x.toNat = 2 ∨ x.toNat = 3 := by omega
  rcases hx with e | e | e | e <;> rw [e] <;> exact ⟨_, rfl⟩
set_option maxHeartbeats 1000000 in
theorem d_word (G : Nat) (a : Option Addr) (n cap : Nat) (zs : List Int) (w : World) (h : RdAt w G a n cap zs) :
    Calls Try.prog 31 #[.pointer (some ⟨G, 0, none⟩)] w fun e w' => ∃ x : Int, e = .returned (.int .u64 x) ∧ Drew G a n cap zs w w' := by
  have HH := hide h
  clear h
  go_enter Try.func31, Try.ntmps31
  go_wp2
  go_loopw [3, 4] (fun vx vi wr => ∃ (x : Int) (k : Nat), vx = .int .u64 x ∧ vi = .int .i64 k ∧ k ≤ 8 ∧ Hid (Drew G a n cap zs w wr)) (fun _ vi _ => 8 - (intOf vi).toNat)
  case atStart => exact ⟨0, 0, rfl, rfl, by omega, hide (drew_refl HH.out)⟩
  case round =>
    obtain ⟨x, k, rfl, rfl, hk, HD⟩ := hrel
    by_cases hlt : k < 8
    · go_wp2_with fail
      refine (d_next G a n cap zs _ HD.out.1).mono ?_
      rintro e w2 ⟨y, hy0, hy1, rfl, hd⟩
      have HD2 := hide (drew_trans HD.out hd)
      clear hd
      go_wp2
      go_roundw
      case rel => exact ⟨_, k + 1, rfl, by go_num, by omega, HD2⟩
      case measure => simp [intOf]; omega
    · go_wp2
      go_ret
      exact ⟨x, rfl, HD.out⟩
set_option maxHeartbeats 1000000 in
theorem d_nearG (G : Nat) (a : Option Addr) (n cap : Nat) (zs : List Int) (lo hi : Int) (w : World) (h0 : -2 ≤ lo) (h1 : lo ≤ hi) (h2 : hi ≤ 1048576) (h : RdAt w G a n cap zs) :
    Calls Try.prog 21 #[.pointer (some ⟨G, 0, none⟩), .int .i64 lo, .int .i64 hi] w fun e w' => ∃ x : Int, e = .returned (.int .i64 x) ∧ Drew G a n cap zs w w' := by
  have HH := hide h
  have hlt : ¬ hi < lo := by omega
  have k1 : IntKind.i64.wrap (hi - lo) = hi - lo := by rw [IntKind.wrap_i64]; omega
  have k2 : IntKind.i64.wrap (hi - lo + 1) = hi - lo + 1 := by rw [IntKind.wrap_i64]; omega
  have k3 : IntKind.u64.wrap (hi - lo + 1) = hi - lo + 1 := by unfold IntKind.wrap; simp [IntKind.signed, IntKind.bits]; omega
  have k4 : ¬ (hi - lo + 1 = 0) := by omega
  have k5 : (hi - lo + 1 == 0) = false := by simp; omega
  clear h
  go_enter Try.func21, Try.ntmps21
  go_wp2_with fail
  refine (d_below G a n cap zs 8 _ (by omega) (by omega) HH.out).mono ?_
  rintro e w1 ⟨x, hx0, hx1, rfl, hd⟩
  have HD := hide hd
  clear hd
  rcases (show x = 0 ∨ x = 1 ∨ 2 ≤ x by omega) with hx | hx | hx
  · subst hx
    go_wp2
    go_ret
    exact ⟨_, rfl, HD.out⟩
  · subst hx
    go_wp2
    go_ret
    exact ⟨_, rfl, HD.out⟩
  · go_wp2_with fail
    refine (d_word G a n cap zs _ HD.out.1).mono ?_
    rintro e w2 ⟨y, rfl, hd⟩
    have HD2 := hide (drew_trans HD.out hd)
    clear hd
    go_wp2
    go_ret
    exact ⟨_, rfl, HD2.out⟩
set_option maxHeartbeats 1000000 in
theorem d_offG (G : Nat) (a : Option Addr) (n cap : Nat) (zs : List Int) (lo hi : Int) (w : World) (h0 : -2 ≤ lo) (h1 : lo ≤ hi) (h2 : hi ≤ 1048576) (h : RdAt w G a n cap zs) :
    Calls Try.prog 11 #[.pointer (some ⟨G, 0, none⟩), .int .i64 lo, .int .i64 hi] w fun e w' => ∃ x : Int, e = .returned (.int .i64 x) ∧ Drew G a n cap zs w w' := by
  have HH := hide h
  clear h
  go_enter Try.func11, Try.ntmps11
  go_wp2_with fail
  refine (d_once G a n cap zs 24 _ (by omega) (by omega) HH.out).mono ?_
  rintro e w1 ⟨b, rfl, hd⟩
  have HD := hide hd
  have hG := rd_lt hd.1
  clear hd
  cases b
  · go_wp2_with fail
    refine (d_nearG G a n cap zs lo hi _ h0 h1 h2 HD.out.1).mono ?_
    rintro e w2 ⟨y, rfl, hd⟩
    have HD2 := hide (drew_trans HD.out hd)
    clear hd
    go_wp2
    go_ret
    exact ⟨_, rfl, HD2.out⟩
  · go_wp2_with fail
    refine (d_below G a n cap zs 4 _ (by omega) (by omega) (rd_alloc HD.out.1 _)).mono ?_
    rintro e w2 ⟨x, hx0, hx1, rfl, hd⟩
    obtain ⟨y, hy⟩ := off_cell w1 w2 G x hx0 hx1 hG hd.2
    have HD2 := hide (drew_trans HD.out (drew_alloc _ hd))
    clear hd
    go_wp2
    go_ret
    exact ⟨y, rfl, HD2.out⟩
theorem str_cell {w w1 : World} {G : Nat} (K : Nat) {cs : Array Value} {T : TypeId} {x : Int} {N : Nat} (hg : (w.alloc (.cells cs T)).grownBy w1 (some G)) (h0 : 0 ≤ x) (hx : x < N) (hN : cs.size = N) (hG : G < w.heap.size) (hK : ∀ k, k < N → ∃ s : ByteArray, cs[k]? = some (.string s) ∧ s.size ≤ K) : ∃ s : ByteArray, w1.cell? ⟨w.heap.size, x.toNat, none⟩ = some (.string s) ∧ s.size ≤ K := by
  have hb := hg.block w.heap.size (by simp) (fun e => by cases e; omega)
  rw [World.cell?_of_block (a := ⟨w.heap.size, x.toNat, none⟩) hb, cell_of_row _ w.heap.size x.toNat _ T (0, 0) (heap_alloc_new w _)]
  exact hK x.toNat (by omega)
set_option maxHeartbeats 1000000 in
theorem d_text (G : Nat) (a : Option Addr) (n cap : Nat) (zs : List Int) (w : World) (h : RdAt w G a n cap zs) :
    Calls Try.prog 10 #[.pointer (some ⟨G, 0, none⟩)] w fun e w' => ∃ s : ByteArray, s.size ≤ 4 ∧ e = .returned (.string s) ∧ Drew G a n cap zs w w' := by
  have HH := hide h
  have hG := rd_lt h
  clear h
  go_enter Try.func10, Try.ntmps10
  go_wp2_with fail
  refine (d_below G a n cap zs 14 _ (by omega) (by omega) (rd_alloc HH.out _)).mono ?_
  rintro e w1 ⟨x, hx0, hx1, rfl, hd⟩
  obtain ⟨s, hs, hs1⟩ := str_cell 4 hd.2 hx0 hx1 rfl hG (fun k hk => by
    have hk' : k < 14 := hk
    have hx : k = 0 ∨ k = 1 ∨ k = 2 ∨ k = 3 ∨ k = 4 ∨ k = 5 ∨ k = 6 ∨ k = 7 ∨ k = 8 ∨ k = 9 ∨ k = 10 ∨ k = 11 ∨ k = 12 ∨ k = 13 := by omega
    rcases hx with e | e | e | e | e | e | e | e | e | e | e | e | e | e <;> subst e <;> exact ⟨_, rfl, by decide⟩)
  have HD := hide (drew_alloc _ hd)
  clear hd
  go_wp2
  go_ret
  exact ⟨s, hs1, rfl, HD.out⟩

end Go.Proofs.Ytpfhjgddocglaaa
