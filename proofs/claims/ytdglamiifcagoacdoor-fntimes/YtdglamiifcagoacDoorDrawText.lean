/-
  Contracts of the draws of numbers: some number, some text of at most 100 bytes; nothing that was there is written but the reader's own place.
-/
import Derived.Test.YtdglamiifcagoacDoorDraw

import Derived.Deep.RegionWith
import Derived.Deep.DeepCutAuto
namespace Go.Proofs.YtdglamiifcagoacDoor
open Go.RowKit
set_option linter.unusedVariables false
set_option linter.unusedSimpArgs false
theorem below_drew {G : Nat} {a : Option Addr} {n cap : Nat} {zs : List Int} {w w1 w2 : World} (h : Below G w w1) (hd : Drew G a n cap zs w1 w2) (hG : G ≤ w1.heap.size) : Below G w w2 :=
  h.grown hd.2 hG (fun k hk => by cases hk; exact Nat.le_refl _)
theorem tab1 (w w1 : World) (G : Nat) (x : Int) (h0 : 0 ≤ x) (h7 : x < 6) (hG : G < w.heap.size)
    (hg : (w.alloc (.cells #[.string ⟨#[48]⟩, .string ⟨#[49]⟩, .string ⟨#[53]⟩, .string ⟨#[57]⟩, .string ⟨#[48, 48]⟩, .string ⟨#[49, 50]⟩] 9)).grownBy w1 (some G)) :
    ∃ s : ByteArray, w1.cell? ⟨w.heap.size, x.toNat, none⟩ = some (.string s) ∧ s.size ≤ 2 := by
  have hb := hg.block w.heap.size (by simp) (fun e => by cases e; omega)
  rw [World.cell?_of_block (a := ⟨w.heap.size, x.toNat, none⟩) hb, cell_of_row _ w.heap.size x.toNat _ 9 (0, 0) (heap_alloc_new w _)]
  have hx : x.toNat = 0 ∨ x.toNat = 1 ∨ x.toNat = 2 ∨ x.toNat = 3 ∨ x.toNat = 4 ∨ x.toNat = 5 := by omega
  rcases hx with e | e | e | e | e | e <;> rw [e] <;> exact ⟨_, rfl, by decide⟩
theorem tab2 (w w1 : World) (G : Nat) (x : Int) (h0 : 0 ≤ x) (h7 : x < 6) (hG : G < w.heap.size)
    (hg : (w.alloc (.cells #[.string ⟨#[]⟩, .string ⟨#[48]⟩, .string ⟨#[53]⟩, .string ⟨#[50, 53]⟩, .string ⟨#[48, 53, 48]⟩, .string ⟨#[57, 57, 57]⟩] 9)).grownBy w1 (some G)) :
    ∃ s : ByteArray, w1.cell? ⟨w.heap.size, x.toNat, none⟩ = some (.string s) ∧ s.size ≤ 3 := by
  have hb := hg.block w.heap.size (by simp) (fun e => by cases e; omega)
  rw [World.cell?_of_block (a := ⟨w.heap.size, x.toNat, none⟩) hb, cell_of_row _ w.heap.size x.toNat _ 9 (0, 0) (heap_alloc_new w _)]
  have hx : x.toNat = 0 ∨ x.toNat = 1 ∨ x.toNat = 2 ∨ x.toNat = 3 ∨ x.toNat = 4 ∨ x.toNat = 5 := by omega
  rcases hx with e | e | e | e | e | e <;> rw [e] <;> exact ⟨_, rfl, by decide⟩
theorem tab3 (w w1 : World) (G : Nat) (x : Int) (h0 : 0 ≤ x) (h7 : x < 10) (hG : G < w.heap.size)
    (hg : (w.alloc (.cells #[.string ⟨#[]⟩, .string ⟨#[43]⟩, .string ⟨#[45]⟩, .string ⟨#[46]⟩, .string ⟨#[49, 46]⟩, .string ⟨#[46, 53]⟩, .string ⟨#[49, 101, 53]⟩, .string ⟨#[49, 46, 50, 46, 51]⟩, .string ⟨#[32, 49]⟩, .string ⟨#[45, 45, 49]⟩] 9)).grownBy w1 (some G)) :
    ∃ s : ByteArray, w1.cell? ⟨w.heap.size, x.toNat, none⟩ = some (.string s) ∧ s.size ≤ 5 := by
  have hb := hg.block w.heap.size (by simp) (fun e => by cases e; omega)
  rw [World.cell?_of_block (a := ⟨w.heap.size, x.toNat, none⟩) hb, cell_of_row _ w.heap.size x.toNat _ 9 (0, 0) (heap_alloc_new w _)]
  have hx : x.toNat = 0 ∨ x.toNat = 1 ∨ x.toNat = 2 ∨ x.toNat = 3 ∨ x.toNat = 4 ∨ x.toNat = 5 ∨ x.toNat = 6 ∨ x.toNat = 7 ∨ x.toNat = 8 ∨ x.toNat = 9 := by omega
  rcases hx with e | e | e | e | e | e | e | e | e | e <;> rw [e] <;> exact ⟨_, rfl, by decide⟩

theorem drew_refl {G : Nat} {a : Option Addr} {n cap : Nat} {zs : List Int} {w : World} (h : RdAt w G a n cap zs) : Drew G a n cap zs w w := ⟨h, grown_refl w _⟩
theorem off_cell (w w1 : World) (G : Nat) (x : Int) (h0 : 0 ≤ x) (h7 : x < 4) (hG : G < w.heap.size) {p q r s : Int} {T : TypeId}
    (hg : (w.alloc (.cells #[.int .i64 p, .int .i64 q, .int .i64 r, .int .i64 s] T)).grownBy w1 (some G)) :
    ∃ y : Int, w1.cell? ⟨w.heap.size, x.toNat, none⟩ = some (.int .i64 y) := by
  have hb := hg.block w.heap.size (by simp) (fun e => by cases e; omega)
  rw [World.cell?_of_block (a := ⟨w.heap.size, x.toNat, none⟩) hb, cell_of_row _ w.heap.size x.toNat _ T (0, 0) (heap_alloc_new w _)]
  have hx : x.toNat = 0 ∨ x.toNat = 1 ∨ x.toNat = 2 ∨ x.toNat = 3 := by omega
  rcases hx with e | e | e | e <;> rw [e] <;> exact ⟨_, rfl⟩
set_option maxHeartbeats 1000000 in
theorem d_word (G : Nat) (a : Option Addr) (n cap : Nat) (zs : List Int) (w : World) (h : RdAt w G a n cap zs) :
    Calls Tryd.prog 48 #[.pointer (some ⟨G, 0, none⟩)] w fun e w' => ∃ x : Int, e = .returned (.int .u64 x) ∧ Drew G a n cap zs w w' := by
  have HH := hide h
  clear h
  go_enter Tryd.func48, Tryd.ntmps48
  go_wp2
  go_loopw [3, 4] (fun vx vi wr => ∃ (x : Int) (k : Nat), vx = .int .u64 x ∧ vi = .int .i64 k ∧ k ≤ 8 ∧ Hid (Drew G a n cap zs w wr)) (fun _ vi _ => 8 - (intOf vi).toNat)
  case atStart => exact ⟨0, 0, rfl, rfl, by omega, hide (drew_refl HH.out)⟩
  case round =>
    obtain ⟨x, k, rfl, rfl, hk, HD⟩ := hrel
    by_cases hlt : k < 8
    · go_wp2_with fail
      refine (d_next G a n cap zs _ HD.out.1).mono ?_
      rintro e w2 ⟨y, hy0, hy1, rfl, hd⟩
      have HD2 := hide (drew_trans HD.out hd)
      clear hd
      go_wp2
      go_roundw
      case rel => exact ⟨_, k + 1, rfl, by go_num, by omega, HD2⟩
      case measure => simp [intOf]; omega
    · go_wp2
      go_ret
      exact ⟨x, rfl, HD.out⟩
set_option maxHeartbeats 1000000 in
theorem d_near (G : Nat) (a : Option Addr) (n cap : Nat) (zs : List Int) (w : World) (h : RdAt w G a n cap zs) :
    Calls Tryd.prog 44 #[.pointer (some ⟨G, 0, none⟩), .int .i64 0, .int .i64 60] w fun e w' => ∃ x : Int, e = .returned (.int .i64 x) ∧ Drew G a n cap zs w w' := by
  have HH := hide h
  clear h
  go_enter Tryd.func44, Tryd.ntmps44
  go_wp2_with fail
  refine (d_below G a n cap zs 8 _ (by omega) (by omega) HH.out).mono ?_
  rintro e w1 ⟨x, hx0, hx1, rfl, hd⟩
  have HD := hide hd
  clear hd
  rcases (show x = 0 ∨ x = 1 ∨ 2 ≤ x by omega) with hx | hx | hx
  · subst hx
    go_wp2
    go_ret
    exact ⟨_, rfl, HD.out⟩
  · subst hx
    go_wp2
    go_ret
    exact ⟨_, rfl, HD.out⟩
  · go_wp2_with fail
    refine (d_word G a n cap zs _ HD.out.1).mono ?_
    rintro e w2 ⟨y, rfl, hd⟩
    have HD2 := hide (drew_trans HD.out hd)
    clear hd
    go_wp2
    go_ret
    exact ⟨_, rfl, HD2.out⟩
set_option maxHeartbeats 1000000 in
theorem d_off (G : Nat) (a : Option Addr) (n cap : Nat) (zs : List Int) (w : World) (h : RdAt w G a n cap zs) :
    Calls Tryd.prog 35 #[.pointer (some ⟨G, 0, none⟩), .int .i64 0, .int .i64 60] w fun e w' => ∃ x : Int, e = .returned (.int .i64 x) ∧ Drew G a n cap zs w w' := by
  have HH := hide h
  clear h
  go_enter Tryd.func35, Tryd.ntmps35
  go_wp2_with fail
  refine (d_once G a n cap zs 24 _ (by omega) (by omega) HH.out).mono ?_
  rintro e w1 ⟨b, rfl, hd⟩
  have HD := hide hd
  have hG := rd_lt hd.1
  clear hd
  cases b
  · go_wp2_with fail
    refine (d_near G a n cap zs _ HD.out.1).mono ?_
    rintro e w2 ⟨y, rfl, hd⟩
    have HD2 := hide (drew_trans HD.out hd)
    clear hd
    go_wp2
    go_ret
    exact ⟨_, rfl, HD2.out⟩
  · go_wp2_with fail
    refine (d_below G a n cap zs 4 _ (by omega) (by omega) (rd_alloc HD.out.1 _)).mono ?_
    rintro e w2 ⟨x, hx0, hx1, rfl, hd⟩
    obtain ⟨y, hy⟩ := off_cell w1 w2 G x hx0 hx1 hG hd.2
    have HD2 := hide (drew_trans HD.out (drew_alloc _ hd))
    clear hd
    go_wp2
    go_ret
    exact ⟨y, rfl, HD2.out⟩
theorem sz1 (b : UInt8) : (⟨#[b]⟩ : ByteArray).size = 1 := rfl
set_option maxHeartbeats 4000000 in
theorem d_decText (G : Nat) (a : Option Addr) (n cap : Nat) (zs : List Int) (w : World) (h : RdAt w G a n cap zs) :
    Calls Tryd.prog 33 #[.pointer (some ⟨G, 0, none⟩)] w fun e w' => ∃ s : ByteArray, s.size ≤ 100 ∧ e = .returned (.string s) ∧ Drew G a n cap zs w w' := by
  have HH := hide h
  clear h
  go_enter Tryd.func33, Tryd.ntmps33
  go_wp2_with fail
  refine (d_below G a n cap zs 5 _ (by omega) (by omega) HH.out).mono ?_
  rintro e w1 ⟨x, hx0, hx1, rfl, hd⟩
  have HD := hide hd
  clear hd
  go_wp2
  go_loopw [3, 4] (fun vs vi wr => ∃ (s : ByteArray) (k : Nat), vs = .string s ∧ vi = .int .i64 k ∧ s.size + 2 * k ≤ 8 ∧ Hid (Drew G a n cap zs w wr)) (fun _ vi _ => (intOf vi).toNat)
  case atStart => exact ⟨⟨#[]⟩, x.toNat, rfl, by rw [show ((x.toNat : Nat) : Int) = x by omega], by simp [ByteArray.size]; omega, HD⟩
  case round =>
    clear HD hx0 hx1
    obtain ⟨s, k, rfl, rfl, hk, HD⟩ := hrel
    have hG := rd_lt HD.out.1
    by_cases hlt : 0 < k
    · go_wp2_with fail
      refine (d_below G a n cap zs 6 _ (by omega) (by omega) (rd_alloc HD.out.1 _)).mono ?_
      rintro e w2 ⟨y, hy0, hy1, rfl, hd⟩
      obtain ⟨t, ht, hts⟩ := tab1 wr w2 G y hy0 hy1 hG hd.2
      have HD2 := hide (drew_trans HD.out (drew_alloc _ hd))
      clear hd
      go_wp2
      go_roundw
      case rel => exact ⟨_, k - 1, rfl, by go_num, by rw [ByteArray.size_append]; omega, HD2⟩
      case measure => simp [intOf]; omega
    · have hs8 : s.size ≤ 8 := by omega
      clear hk
      go_wp2_with fail
      refine (d_once G a n cap zs 2 _ (by omega) (by omega) HD.out.1).mono ?_
      rintro e w2 ⟨b, rfl, hd⟩
      have HD2 := hide (drew_trans HD.out hd)
      have hG2 := rd_lt hd.1
      clear hd
      cases b
      · go_wp2_with fail
        refine (d_below G a n cap zs 6 _ (by omega) (by omega) HD2.out.1).mono ?_
        rintro e w8 ⟨y8, hy0, hy1, rfl, hd⟩
        have HD8 := hide (drew_trans HD2.out hd)
        clear hd
        rcases (show y8 = 0 ∨ y8 = 1 ∨ y8 = 2 ∨ 3 ≤ y8 by omega) with hy | hy | hy | hy
        · subst hy
          obtain ⟨u, hu⟩ : ∃ u, (⟨#[45]⟩ : ByteArray) ++ s = u := ⟨_, rfl⟩
          have hus : u.size ≤ 30 := by rw [← hu, ByteArray.size_append, sz1]; omega
          go_wp2_with fail
          refine (d_once G a n cap zs 40 _ (by omega) (by omega) HD8.out.1).mono ?_
          rintro e w9 ⟨b9, rfl, hd⟩
          have HD9 := hide (drew_trans HD8.out hd)
          clear hd
          cases b9
          · go_wp2
            go_ret
            exact ⟨_, by omega, rfl, HD9.out⟩
          · go_wp2
            go_loopw [3, 5] (fun vs vi wr => ∃ (q : ByteArray) (j : Nat), vs = .string q ∧ vi = .int .i64 j ∧ q.size ≤ 30 + j ∧ j ≤ 60 ∧ Hid (Drew G a n cap zs w wr)) (fun _ vi _ => 60 - (intOf vi).toNat)
            case atStart => exact ⟨_, 0, rfl, rfl, by omega, by omega, HD9⟩
            case round =>
              obtain ⟨q, j, rfl, rfl, hq, hj, HQ⟩ := hrel
              by_cases hj6 : j < 60
              · go_wp2
                go_roundw
                case rel => exact ⟨_, j + 1, rfl, by go_num, by rw [ByteArray.size_append, sz1]; omega, by omega, HQ⟩
                case measure => simp [intOf]; omega
              · go_wp2
                go_ret
                exact ⟨q, by omega, rfl, HQ.out⟩
        · subst hy
          obtain ⟨u, hu⟩ : ∃ u, (⟨#[45]⟩ : ByteArray) ++ s = u := ⟨_, rfl⟩
          have hus : u.size ≤ 30 := by rw [← hu, ByteArray.size_append, sz1]; omega
          go_wp2_with fail
          refine (d_once G a n cap zs 40 _ (by omega) (by omega) HD8.out.1).mono ?_
          rintro e w9 ⟨b9, rfl, hd⟩
          have HD9 := hide (drew_trans HD8.out hd)
          clear hd
          cases b9
          · go_wp2
            go_ret
            exact ⟨_, by omega, rfl, HD9.out⟩
          · go_wp2
            go_loopw [3, 5] (fun vs vi wr => ∃ (q : ByteArray) (j : Nat), vs = .string q ∧ vi = .int .i64 j ∧ q.size ≤ 30 + j ∧ j ≤ 60 ∧ Hid (Drew G a n cap zs w wr)) (fun _ vi _ => 60 - (intOf vi).toNat)
            case atStart => exact ⟨_, 0, rfl, rfl, by omega, by omega, HD9⟩
            case round =>
              obtain ⟨q, j, rfl, rfl, hq, hj, HQ⟩ := hrel
              by_cases hj6 : j < 60
              · go_wp2
                go_roundw
                case rel => exact ⟨_, j + 1, rfl, by go_num, by rw [ByteArray.size_append, sz1]; omega, by omega, HQ⟩
                case measure => simp [intOf]; omega
              · go_wp2
                go_ret
                exact ⟨q, by omega, rfl, HQ.out⟩
        · subst hy
          obtain ⟨u, hu⟩ : ∃ u, (⟨#[43]⟩ : ByteArray) ++ s = u := ⟨_, rfl⟩
          have hus : u.size ≤ 30 := by rw [← hu, ByteArray.size_append, sz1]; omega
          go_wp2_with fail
          refine (d_once G a n cap zs 40 _ (by omega) (by omega) HD8.out.1).mono ?_
          rintro e w9 ⟨b9, rfl, hd⟩
          have HD9 := hide (drew_trans HD8.out hd)
          clear hd
          cases b9
          · go_wp2
            go_ret
            exact ⟨_, by omega, rfl, HD9.out⟩
          · go_wp2
            go_loopw [3, 5] (fun vs vi wr => ∃ (q : ByteArray) (j : Nat), vs = .string q ∧ vi = .int .i64 j ∧ q.size ≤ 30 + j ∧ j ≤ 60 ∧ Hid (Drew G a n cap zs w wr)) (fun _ vi _ => 60 - (intOf vi).toNat)
            case atStart => exact ⟨_, 0, rfl, rfl, by omega, by omega, HD9⟩
            case round =>
              obtain ⟨q, j, rfl, rfl, hq, hj, HQ⟩ := hrel
              by_cases hj6 : j < 60
              · go_wp2
                go_roundw
                case rel => exact ⟨_, j + 1, rfl, by go_num, by rw [ByteArray.size_append, sz1]; omega, by omega, HQ⟩
                case measure => simp [intOf]; omega
              · go_wp2
                go_ret
                exact ⟨q, by omega, rfl, HQ.out⟩
        · go_wp2_with fail
          refine (d_once G a n cap zs 40 _ (by omega) (by omega) HD8.out.1).mono ?_
          rintro e w9 ⟨b9, rfl, hd⟩
          have HD9 := hide (drew_trans HD8.out hd)
          clear hd
          cases b9
          · go_wp2
            go_ret
            exact ⟨_, by omega, rfl, HD9.out⟩
          · go_wp2
            go_loopw [3, 5] (fun vs vi wr => ∃ (q : ByteArray) (j : Nat), vs = .string q ∧ vi = .int .i64 j ∧ q.size ≤ 30 + j ∧ j ≤ 60 ∧ Hid (Drew G a n cap zs w wr)) (fun _ vi _ => 60 - (intOf vi).toNat)
            case atStart => exact ⟨_, 0, rfl, rfl, by omega, by omega, HD9⟩
            case round =>
              obtain ⟨q, j, rfl, rfl, hq, hj, HQ⟩ := hrel
              by_cases hj6 : j < 60
              · go_wp2
                go_roundw
                case rel => exact ⟨_, j + 1, rfl, by go_num, by rw [ByteArray.size_append, sz1]; omega, by omega, HQ⟩
                case measure => simp [intOf]; omega
              · go_wp2
                go_ret
                exact ⟨q, by omega, rfl, HQ.out⟩
      · go_wp2_with fail
        refine (d_below G a n cap zs 6 _ (by omega) (by omega) (rd_alloc HD2.out.1 _)).mono ?_
        rintro e w3 ⟨y, hy0, hy1, rfl, hd⟩
        obtain ⟨t, ht, hts⟩ := tab2 w2 w3 G y hy0 hy1 hG2 hd.2
        have HD3 := hide (drew_trans HD2.out (drew_alloc _ hd))
        obtain ⟨z, hz⟩ : ∃ z, s ++ ⟨#[46]⟩ ++ t = z := ⟨_, rfl⟩
        have hzs : z.size ≤ 20 := by rw [← hz, ByteArray.size_append, ByteArray.size_append, sz1]; omega
        clear hd
        go_wp2_with fail
        refine (d_below G a n cap zs 6 _ (by omega) (by omega) HD3.out.1).mono ?_
        rintro e w8 ⟨y8, hy0, hy1, rfl, hd⟩
        have HD8 := hide (drew_trans HD3.out hd)
        clear hd
        rcases (show y8 = 0 ∨ y8 = 1 ∨ y8 = 2 ∨ 3 ≤ y8 by omega) with hy | hy | hy | hy
        · subst hy
          obtain ⟨u, hu⟩ : ∃ u, (⟨#[45]⟩ : ByteArray) ++ z = u := ⟨_, rfl⟩
          have hus : u.size ≤ 30 := by rw [← hu, ByteArray.size_append, sz1]; omega
          go_wp2_with fail
          refine (d_once G a n cap zs 40 _ (by omega) (by omega) HD8.out.1).mono ?_
          rintro e w9 ⟨b9, rfl, hd⟩
          have HD9 := hide (drew_trans HD8.out hd)
          clear hd
          cases b9
          · go_wp2
            go_ret
            exact ⟨_, by omega, rfl, HD9.out⟩
          · go_wp2
            go_loopw [3, 5] (fun vs vi wr => ∃ (q : ByteArray) (j : Nat), vs = .string q ∧ vi = .int .i64 j ∧ q.size ≤ 30 + j ∧ j ≤ 60 ∧ Hid (Drew G a n cap zs w wr)) (fun _ vi _ => 60 - (intOf vi).toNat)
            case atStart => exact ⟨_, 0, rfl, rfl, by omega, by omega, HD9⟩
            case round =>
              obtain ⟨q, j, rfl, rfl, hq, hj, HQ⟩ := hrel
              by_cases hj6 : j < 60
              · go_wp2
                go_roundw
                case rel => exact ⟨_, j + 1, rfl, by go_num, by rw [ByteArray.size_append, sz1]; omega, by omega, HQ⟩
                case measure => simp [intOf]; omega
              · go_wp2
                go_ret
                exact ⟨q, by omega, rfl, HQ.out⟩
        · subst hy
          obtain ⟨u, hu⟩ : ∃ u, (⟨#[45]⟩ : ByteArray) ++ z = u := ⟨_, rfl⟩
          have hus : u.size ≤ 30 := by rw [← hu, ByteArray.size_append, sz1]; omega
          go_wp2_with fail
          refine (d_once G a n cap zs 40 _ (by omega) (by omega) HD8.out.1).mono ?_
          rintro e w9 ⟨b9, rfl, hd⟩
          have HD9 := hide (drew_trans HD8.out hd)
          clear hd
          cases b9
          · go_wp2
            go_ret
            exact ⟨_, by omega, rfl, HD9.out⟩
          · go_wp2
            go_loopw [3, 5] (fun vs vi wr => ∃ (q : ByteArray) (j : Nat), vs = .string q ∧ vi = .int .i64 j ∧ q.size ≤ 30 + j ∧ j ≤ 60 ∧ Hid (Drew G a n cap zs w wr)) (fun _ vi _ => 60 - (intOf vi).toNat)
            case atStart => exact ⟨_, 0, rfl, rfl, by omega, by omega, HD9⟩
            case round =>
              obtain ⟨q, j, rfl, rfl, hq, hj, HQ⟩ := hrel
              by_cases hj6 : j < 60
              · go_wp2
                go_roundw
                case rel => exact ⟨_, j + 1, rfl, by go_num, by rw [ByteArray.size_append, sz1]; omega, by omega, HQ⟩
                case measure => simp [intOf]; omega
              · go_wp2
                go_ret
                exact ⟨q, by omega, rfl, HQ.out⟩
        · subst hy
          obtain ⟨u, hu⟩ : ∃ u, (⟨#[43]⟩ : ByteArray) ++ z = u := ⟨_, rfl⟩
          have hus : u.size ≤ 30 := by rw [← hu, ByteArray.size_append, sz1]; omega
          go_wp2_with fail
          refine (d_once G a n cap zs 40 _ (by omega) (by omega) HD8.out.1).mono ?_
          rintro e w9 ⟨b9, rfl, hd⟩
          have HD9 := hide (drew_trans HD8.out hd)
          clear hd
          cases b9
          · go_wp2
            go_ret
            exact ⟨_, by omega, rfl, HD9.out⟩
          · go_wp2
            go_loopw [3, 5] (fun vs vi wr => ∃ (q : ByteArray) (j : Nat), vs = .string q ∧ vi = .int .i64 j ∧ q.size ≤ 30 + j ∧ j ≤ 60 ∧ Hid (Drew G a n cap zs w wr)) (fun _ vi _ => 60 - (intOf vi).toNat)
            case atStart => exact ⟨_, 0, rfl, rfl, by omega, by omega, HD9⟩
            case round =>
              obtain ⟨q, j, rfl, rfl, hq, hj, HQ⟩ := hrel
              by_cases hj6 : j < 60
              · go_wp2
                go_roundw
                case rel => exact ⟨_, j + 1, rfl, by go_num, by rw [ByteArray.size_append, sz1]; omega, by omega, HQ⟩
                case measure => simp [intOf]; omega
              · go_wp2
                go_ret
                exact ⟨q, by omega, rfl, HQ.out⟩
        · go_wp2_with fail
          refine (d_once G a n cap zs 40 _ (by omega) (by omega) HD8.out.1).mono ?_
          rintro e w9 ⟨b9, rfl, hd⟩
          have HD9 := hide (drew_trans HD8.out hd)
          clear hd
          cases b9
          · go_wp2
            go_ret
            exact ⟨_, by omega, rfl, HD9.out⟩
          · go_wp2
            go_loopw [3, 5] (fun vs vi wr => ∃ (q : ByteArray) (j : Nat), vs = .string q ∧ vi = .int .i64 j ∧ q.size ≤ 30 + j ∧ j ≤ 60 ∧ Hid (Drew G a n cap zs w wr)) (fun _ vi _ => 60 - (intOf vi).toNat)
            case atStart => exact ⟨_, 0, rfl, rfl, by omega, by omega, HD9⟩
            case round =>
              obtain ⟨q, j, rfl, rfl, hq, hj, HQ⟩ := hrel
              by_cases hj6 : j < 60
              · go_wp2
                go_roundw
                case rel => exact ⟨_, j + 1, rfl, by go_num, by rw [ByteArray.size_append, sz1]; omega, by omega, HQ⟩
                case measure => simp [intOf]; omega
              · go_wp2
                go_ret
                exact ⟨q, by omega, rfl, HQ.out⟩
end Go.Proofs.YtdglamiifcagoacDoor
