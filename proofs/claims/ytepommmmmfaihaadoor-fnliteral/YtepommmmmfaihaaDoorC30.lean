/-
  Texts put together: DrOff, RgY.
-/
import Derived.Test.YtepommmmmfaihaaDoorC29
import Derived.Test.YtepommmmmfaihaaDoorC5
import Derived.Deep.QuietTactic
/-
  Contracts of the drawing reader: a number in a range, or just outside of it, and a text: what it leaves.
-/
namespace Go.Proofs.YtepommmmmfaihaaDoor
open Go.RowKit
set_option linter.unusedVariables false
set_option linter.unusedSimpArgs false
theorem below_drew {G : Nat} {a : Option Addr} {n cap : Nat} {zs : List Int} {w w1 w2 : World} (h : Below G w w1) (hd : Drew G a n cap zs w1 w2) (hG : G ≤ w1.heap.size) : Below G w w2 :=
  h.grown hd.2 hG (fun k hk => by cases hk; exact Nat.le_refl _)
theorem drew_refl {G : Nat} {a : Option Addr} {n cap : Nat} {zs : List Int} {w : World} (h : RdAt w G a n cap zs) : Drew G a n cap zs w w := ⟨h, grown_refl w _⟩
theorem off_cell (w w1 : World) (G : Nat) (x : Int) (h0 : 0 ≤ x) (h7 : x < 4) (hG : G < w.heap.size) {p q r s : Int} {T : TypeId}
    (hg : (w.alloc (.cells #[.int .i64 p, .int .i64 q, .int .i64 r, .int .i64 s] T)).grownBy w1 (some G)) :
    ∃ y : Int, w1.cell? ⟨w.heap.size, x.toNat, none⟩ = some (.int .i64 y) := by
  have hb := hg.block w.heap.size (by simp) (fun e => by cases e; omega)
  rw [World.cell?_of_block (a := ⟨w.heap.size, x.toNat, none⟩) hb, cell_of_row _ w.heap.size x.toNat _ T (0, 0) (heap_alloc_new w _)]
  have hx : x.toNat = 0 ∨ x.toNat = 1 ∨ x.toNat = 2 ∨ x.toNat = 3 := by omega
  rcases hx with e | e | e | e <;> rw [e] <;> exact ⟨_, rfl⟩
set_option maxHeartbeats 1000000 in
theorem d_word (G : Nat) (a : Option Addr) (n cap : Nat) (zs : List Int) (w : World) (h : RdAt w G a n cap zs) :
    Calls Tryd.prog 60 #[.pointer (some ⟨G, 0, none⟩)] w fun e w' => ∃ x : Int, e = .returned (.int .u64 x) ∧ Drew G a n cap zs w w' := by
  have HH := hide h
  clear h
  go_enter Tryd.func60, Tryd.ntmps60
  go_wp2
  go_loopw [3, 4] (fun vx vi wr => ∃ (x : Int) (k : Nat), vx = .int .u64 x ∧ vi = .int .i64 k ∧ k ≤ 8 ∧ Hid (Drew G a n cap zs w wr)) (fun _ vi _ => 8 - (intOf vi).toNat)
  case atStart => exact ⟨0, 0, rfl, rfl, by omega, hide (drew_refl HH.out)⟩
  case round =>
    obtain ⟨x, k, rfl, rfl, hk, HD⟩ := hrel
    by_cases hlt : k < 8
    · go_wp2_with fail
      refine (d_next G a n cap zs _ HD.out.1).mono ?_
      rintro e w2 ⟨y, hy0, hy1, rfl, hd⟩
      have HD2 := hide (drew_trans HD.out hd)
      clear hd
      go_wp2
      go_roundw
      case rel => exact ⟨_, k + 1, rfl, by go_num, by omega, HD2⟩
      case measure => simp [intOf]; omega
    · go_wp2
      go_ret
      exact ⟨x, rfl, HD.out⟩
set_option maxHeartbeats 1000000 in
theorem d_nearG (G : Nat) (a : Option Addr) (n cap : Nat) (zs : List Int) (lo hi : Int) (w : World) (h0 : -2 ≤ lo) (h1 : lo ≤ hi) (h2 : hi ≤ 1048576) (h : RdAt w G a n cap zs) :
    Calls Tryd.prog 44 #[.pointer (some ⟨G, 0, none⟩), .int .i64 lo, .int .i64 hi] w fun e w' => ∃ x : Int, e = .returned (.int .i64 x) ∧ Drew G a n cap zs w w' := by
  have HH := hide h
  have hlt : ¬ hi < lo := by omega
  have k1 : IntKind.i64.wrap (hi - lo) = hi - lo := by rw [IntKind.wrap_i64]; omega
  have k2 : IntKind.i64.wrap (hi - lo + 1) = hi - lo + 1 := by rw [IntKind.wrap_i64]; omega
  have k3 : IntKind.u64.wrap (hi - lo + 1) = hi - lo + 1 := by unfold IntKind.wrap; simp [IntKind.signed, IntKind.bits]; omega
  have k4 : ¬ (hi - lo + 1 = 0) := by omega
  have k5 : (hi - lo + 1 == 0) = false := by simp; omega
  clear h
  go_enter Tryd.func44, Tryd.ntmps44
  go_wp2_with fail
  refine (d_below G a n cap zs 8 _ (by omega) (by omega) HH.out).mono ?_
  rintro e w1 ⟨x, hx0, hx1, rfl, hd⟩
  have HD := hide hd
  clear hd
  rcases (show x = 0 ∨ x = 1 ∨ 2 ≤ x by omega) with hx | hx | hx
  · subst hx
    go_wp2
    go_ret
    exact ⟨_, rfl, HD.out⟩
  · subst hx
    go_wp2
    go_ret
    exact ⟨_, rfl, HD.out⟩
  · go_wp2_with fail
    refine (d_word G a n cap zs _ HD.out.1).mono ?_
    rintro e w2 ⟨y, rfl, hd⟩
    have HD2 := hide (drew_trans HD.out hd)
    clear hd
    go_wp2
    go_ret
    exact ⟨_, rfl, HD2.out⟩
set_option maxHeartbeats 1000000 in
theorem d_offG (G : Nat) (a : Option Addr) (n cap : Nat) (zs : List Int) (lo hi : Int) (w : World) (h0 : -2 ≤ lo) (h1 : lo ≤ hi) (h2 : hi ≤ 1048576) (h : RdAt w G a n cap zs) :
    Calls Tryd.prog 30 #[.pointer (some ⟨G, 0, none⟩), .int .i64 lo, .int .i64 hi] w fun e w' => ∃ x : Int, e = .returned (.int .i64 x) ∧ Drew G a n cap zs w w' := by
  have HH := hide h
  clear h
  go_enter Tryd.func30, Tryd.ntmps30
  go_wp2_with fail
  refine (d_once G a n cap zs 24 _ (by omega) (by omega) HH.out).mono ?_
  rintro e w1 ⟨b, rfl, hd⟩
  have HD := hide hd
  have hG := rd_lt hd.1
  clear hd
  cases b
  · go_wp2_with fail
    refine (d_nearG G a n cap zs lo hi _ h0 h1 h2 HD.out.1).mono ?_
    rintro e w2 ⟨y, rfl, hd⟩
    have HD2 := hide (drew_trans HD.out hd)
    clear hd
    go_wp2
    go_ret
    exact ⟨_, rfl, HD2.out⟩
  · go_wp2_with fail
    refine (d_below G a n cap zs 4 _ (by omega) (by omega) (rd_alloc HD.out.1 _)).mono ?_
    rintro e w2 ⟨x, hx0, hx1, rfl, hd⟩
    obtain ⟨y, hy⟩ := off_cell w1 w2 G x hx0 hx1 hG hd.2
    have HD2 := hide (drew_trans HD.out (drew_alloc _ hd))
    clear hd
    go_wp2
    go_ret
    exact ⟨y, rfl, HD2.out⟩
theorem str_cell {w w1 : World} {G : Nat} (K : Nat) {cs : Array Value} {T : TypeId} {x : Int} {N : Nat} (hg : (w.alloc (.cells cs T)).grownBy w1 (some G)) (h0 : 0 ≤ x) (hx : x < N) (hN : cs.size = N) (hG : G < w.heap.size) (hK : ∀ k, k < N → ∃ s : ByteArray, cs[k]? = some (.string s) ∧ s.size ≤ K) : ∃ s : ByteArray, w1.cell? ⟨w.heap.size, x.toNat, none⟩ = some (.string s) ∧ s.size ≤ K := by
  have hb := hg.block w.heap.size (by simp) (fun e => by cases e; omega)
  rw [World.cell?_of_block (a := ⟨w.heap.size, x.toNat, none⟩) hb, cell_of_row _ w.heap.size x.toNat _ T (0, 0) (heap_alloc_new w _)]
  exact hK x.toNat (by omega)
set_option maxHeartbeats 1000000 in
theorem d_text (G : Nat) (a : Option Addr) (n cap : Nat) (zs : List Int) (w : World) (h : RdAt w G a n cap zs) :
    Calls Tryd.prog 13 #[.pointer (some ⟨G, 0, none⟩)] w fun e w' => ∃ s : ByteArray, s.size ≤ 4 ∧ e = .returned (.string s) ∧ Drew G a n cap zs w w' := by
  have HH := hide h
  have hG := rd_lt h
  clear h
  go_enter Tryd.func13, Tryd.ntmps13
  go_wp2_with fail
  refine (d_below G a n cap zs 14 _ (by omega) (by omega) (rd_alloc HH.out _)).mono ?_
  rintro e w1 ⟨x, hx0, hx1, rfl, hd⟩
  obtain ⟨s, hs, hs1⟩ := str_cell 4 hd.2 hx0 hx1 rfl hG (fun k hk => by
    have hk' : k < 14 := hk
    have hx : k = 0 ∨ k = 1 ∨ k = 2 ∨ k = 3 ∨ k = 4 ∨ k = 5 ∨ k = 6 ∨ k = 7 ∨ k = 8 ∨ k = 9 ∨ k = 10 ∨ k = 11 ∨ k = 12 ∨ k = 13 := by omega
    rcases hx with e | e | e | e | e | e | e | e | e | e | e | e | e | e <;> subst e <;> exact ⟨_, rfl, by decide⟩)
  have HD := hide (drew_alloc _ hd)
  clear hd
  go_wp2
  go_ret
  exact ⟨s, hs1, rfl, HD.out⟩

end Go.Proofs.YtepommmmmfaihaaDoor

/-
  Contract of the draw of an expression: whatever the code is, some row of nodes of the call's own, at most 120 long. What the reading of a text leaves is given (RgS).
-/
namespace Go.Proofs.YtepommmmmfaihaaDoor
open Go.RowKit Go.Joins
set_option linter.unusedVariables false
set_option linter.unusedSimpArgs false
def RgS : Prop := ∀ (s : ByteArray) (w : World), s.size ≤ 200 → Calls Tryd.prog 28 #[.string s] w fun e w' => ∃ (V : List Nd) (ok : Bool) (ad : Option Addr) (c : Nat), V.length ≤ 120 ∧ e = .returned (.tuple #[.slice ad V.length c, .bool ok]) ∧ XO w.heap.size (fun j => w.heap.size ≤ j) w' ad c V ∧ Below w.heap.size w w'
section
variable {G n cap : Nat} {a : Option Addr} {zs : List Int} {w w' : World}
theorem rd_belowY (h : RdAt w G a n cap zs) (hb : Below w.heap.size w w') : Drew G a n cap zs w w' :=
  ⟨rd_grown (row := none) h ⟨hb.os, hb.tape, hb.output, hb.size, fun k hk _ => hb.block k hk⟩ (fun k hk => by cases hk), ⟨hb.os, hb.tape, hb.output, hb.size, fun k hk _ => hb.block k hk⟩⟩
theorem xo_drew {Z B : Nat} {S : Nat → Prop} {ad : Option Addr} {c : Nat} {X : List Nd} (h : XOZ Z B S w ad c X) (hd : Drew G a n cap zs w w') (hB : G < B) (hS : ∀ j, S j → G < j) : XOZ Z B S w' ad c X := by
  refine xo_kp (T := fun j => j = G) h (kp_grown (S := fun j => j = G) hd.2 (fun k hk => by cases hk; rfl)) (fun j hj e => ?_) (fun B' z n' v ys j hv hj hs e => by have := hS j hs; omega)
  obtain ⟨xs, h1, -⟩ := h
  have := (h1.lt j hj).1
  omega
theorem grown_setY (w : World) (g o : Nat) (v : Value) : w.grownBy (w.setCell ⟨g, o, none⟩ v) (some g) :=
  ⟨rfl, rfl, rfl, by simp, fun k hk hne => Below.heap_setCell w ⟨g, o, none⟩ v k (fun e => hne (by rw [e]))⟩
theorem drew_setY {w9 : World} (h : Drew G a n cap zs w w9) (hG : G < w.heap.size) {g : Nat} (hg : w.heap.size ≤ g) (o : Nat) (v : Value) : Drew G a n cap zs w (w9.setCell ⟨g, o, none⟩ v) := by
  have hs := grown_setY w9 g o v
  refine ⟨rd_grown h.1 hs (fun k hk => by cases hk; omega), hs.os.trans h.2.os, hs.tape.trans h.2.tape, hs.output.trans h.2.output, Nat.le_trans h.2.size hs.size, fun k hk hne => ?_⟩
  exact (hs.block k (Nat.lt_of_lt_of_le hk h.2.size) (fun e => by cases e; omega)).trans (h.2.block k hk hne)
end
set_option maxHeartbeats 1000000 in
theorem d_belowY (G : Nat) (a : Option Addr) (n cap : Nat) (zs : List Int) (m : Int) (w : World) (hm : 1 ≤ m) (hm' : m ≤ 256) (h : RdAt w G a n cap zs) :
    Calls Tryd.prog 14 #[.pointer (some ⟨G, 0, none⟩), .int .i64 m] w fun e w' => ∃ x : Int, 0 ≤ x ∧ x < m ∧ e = .returned (.int .i64 x) ∧ Drew G a n cap zs w w' := by
  by_cases h2 : 2 ≤ m
  · exact d_below G a n cap zs m w h2 hm' h
  · have h1 : m ≤ 1 := by omega
    have HH := hide h
    clear h
    go_enter Tryd.func14, Tryd.ntmps14
    go_wp2
    go_ret
    exact ⟨0, by omega, by omega, rfl, drew_refl HH.out⟩
set_option maxRecDepth 100000 in
set_option maxHeartbeats 8000000 in
theorem d_regex (G : Nat) (a : Option Addr) (n cap : Nat) (zs : List Int) (w : World) (HS : RgS) (h : RdAt w G a n cap zs) :
    Calls Tryd.prog 18 #[.pointer (some ⟨G, 0, none⟩)] w fun e w' => ∃ (V : List Nd) (B : Nat) (ad : Option Addr) (c : Nat), V.length ≤ 120 ∧ G < B ∧ e = .returned (.slice ad V.length c) ∧ XO B (fun j => B ≤ j) w' ad c V ∧ Drew G a n cap zs w w' := by
  have HH := hide h
  have HSS := hide HS
  have hG := rd_lt h
  clear h HS
  go_enter Tryd.func18, Tryd.ntmps18
  go_wp2_with fail
  refine (d_rx G a n cap zs 3 (by omega) _ HH.out).mono ?_
  rintro e w1 ⟨s, hs, rfl, hd⟩
  have R1 := hide hd.1
  have D1 := hide hd
  have hs3 := bsR_3 3 (by omega)
  have hsz := hd.2.size
  clear hd
  go_wp2_with fail
  refine (HSS.out s _ (by omega)).mono ?_
  rintro e w2 ⟨V, ok, ad, c, hv, rfl, hx, hb⟩
  obtain ⟨B, hB⟩ : ∃ B, w1.heap.size = B := ⟨_, rfl⟩
  have hGB : G < B := by rw [← hB]; exact rd_lt R1.out
  have hdb := rd_belowY R1.out hb
  rw [hB] at hx hsz
  have X2 := hide hx
  have D2 := hide (drew_trans D1.out hdb)
  have R2 := hide hdb.1
  have HWB := hide hsz
  obtain ⟨m, hm⟩ : ∃ m, V.length = m := ⟨_, rfl⟩
  rw [hm] at hv ⊢
  have HM := hide hm
  clear hx hdb hb hB hsz R1 D1 hm HSS HH
  go_wp2_with fail
  refine (d_once G a n cap zs 24 _ (by omega) (by omega) R2.out).mono ?_
  rintro e w3 ⟨b, rfl, hd⟩
  have X3 := hide (xo_drew X2.out hd hGB (fun j hj => Nat.lt_of_lt_of_le hGB hj))
  have D3 := hide (drew_trans D2.out hd)
  have R3 := hide hd.1
  clear hd X2 D2 R2
  cases b
  · go_wp2
    go_ret
    exact ⟨V, B, ad, c, by rw [HM.out]; exact hv, hGB, by rw [HM.out] <;> rfl, X3.out, D3.out⟩
  · by_cases h0 : 0 < m
    · have h0' : (0 : Int) < (m : Int) := by omega
      go_wp2_with fail
      refine (d_belowY G a n cap zs m _ (by omega) (by omega) R3.out).mono ?_
      rintro e w4 ⟨x, hx0, hx1, rfl, hd⟩
      obtain ⟨i, rfl⟩ : ∃ i : Nat, x = (i : Int) := ⟨x.toNat, by omega⟩
      have X4 := hide (xo_drew X3.out hd hGB (fun j hj => Nat.lt_of_lt_of_le hGB hj))
      have D4 := hide (drew_trans D3.out hd)
      have R4 := hide hd.1
      clear hd X3 D3 R3
      have him : i < m := by omega
      go_wp2_with fail
      refine (d_below G a n cap zs 3 _ (by omega) (by omega) R4.out).mono ?_
      rintro e w5 ⟨y, hy0, hy1, rfl, hd⟩
      have X5 := hide (xo_drew X4.out hd hGB (fun j hj => Nat.lt_of_lt_of_le hGB hj))
      have D5 := hide (drew_trans D4.out hd)
      have R5 := hide hd.1
      clear hd X4 D4 R4
      obtain ⟨g, rfl, hBg, hgl⟩ := xo_form X5.out (by rw [HM.out]; exact h0)
      obtain ⟨nd, hnd⟩ : ∃ nd, V[i]? = some nd := ⟨_, List.getElem?_eq_getElem (by rw [HM.out]; exact him)⟩
      have HND := hide hnd
      have hwg : Hid (w.heap.size ≤ g) := hide (Nat.le_trans HWB.out hBg)
      clear hnd
      rcases (show y = 0 ∨ y = 1 ∨ y = 2 by omega) with rfl | rfl | rfl
      · go_wp2_with fail
        refine (d_offG G a n cap zs 0 20 _ (by omega) (by omega) (by omega) R5.out).mono ?_
        rintro e w6 ⟨z, rfl, hd⟩
        have X6 := hide (xo_drew X5.out hd hGB (fun j hj => Nat.lt_of_lt_of_le hGB hj))
        have D6 := hide (drew_trans D5.out hd)
        clear hd X5 D5 R5
        obtain ⟨kad, kc, b1, -⟩ := xo_at7 X6.out HND.out
        have c5 : w6.cell? ⟨g, i * 7 + 5, none⟩ = some (.int .i64 nd.mn) := b1 5 (by omega)
        have f5 := (xo_cell X6.out (i * 7 + 5) (by rw [HM.out]; omega)).2
        have O := hide (xo_set (nd' := { nd with mn := z }) (o := 5) (v := .int .i64 z) X6.out HND.out (by omega) (by omega) rfl (fun _ _ => rfl))
        have DS := hide (drew_setY D6.out hG hwg.out (i * 7 + 5) (.int .i64 z))
        clear b1 X6 D6
        go_wp2
        go_ret
        exact ⟨V.set i { nd with mn := z }, B, _, c, by rw [List.length_set, HM.out]; exact hv, hGB, by rw [List.length_set, HM.out] <;> rfl, O.out, DS.out⟩
      · go_wp2_with fail
        refine (d_offG G a n cap zs 0 i _ (by omega) (by omega) (by omega) R5.out).mono ?_
        rintro e w6 ⟨z, rfl, hd⟩
        have X6 := hide (xo_drew X5.out hd hGB (fun j hj => Nat.lt_of_lt_of_le hGB hj))
        have D6 := hide (drew_trans D5.out hd)
        clear hd X5 D5 R5
        obtain ⟨kad, kc, b1, -⟩ := xo_at7 X6.out HND.out
        have c3 : w6.cell? ⟨g, i * 7 + 3, none⟩ = some (.int .i64 nd.a) := b1 3 (by omega)
        have f3 := (xo_cell X6.out (i * 7 + 3) (by rw [HM.out]; omega)).2
        have O := hide (xo_set (nd' := { nd with a := z }) (o := 3) (v := .int .i64 z) X6.out HND.out (by omega) (by omega) rfl (fun _ _ => rfl))
        have DS := hide (drew_setY D6.out hG hwg.out (i * 7 + 3) (.int .i64 z))
        clear b1 X6 D6
        go_wp2
        go_ret
        exact ⟨V.set i { nd with a := z }, B, _, c, by rw [List.length_set, HM.out]; exact hv, hGB, by rw [List.length_set, HM.out] <;> rfl, O.out, DS.out⟩
      · obtain ⟨kad, kc, b1, -⟩ := xo_at7 X5.out HND.out
        have c1 : w5.cell? ⟨g, i * 7 + 1, none⟩ = some (.bool nd.nt) := b1 1 (by omega)
        have f1 := (xo_cell X5.out (i * 7 + 1) (by rw [HM.out]; omega)).2
        have O := hide (xo_set (nd' := { nd with nt := !nd.nt }) (o := 1) (v := .bool (!nd.nt)) X5.out HND.out (by omega) (by omega) rfl (fun _ _ => rfl))
        have DS := hide (drew_setY D5.out hG hwg.out (i * 7 + 1) (.bool (!nd.nt)))
        clear b1 X5 D5 R5
        go_wp2
        go_ret
        exact ⟨V.set i { nd with nt := !nd.nt }, B, _, c, by rw [List.length_set, HM.out]; exact hv, hGB, by rw [List.length_set, HM.out] <;> rfl, O.out, DS.out⟩
    · have h0' : ¬ (0 : Int) < (m : Int) := by omega
      go_wp2
      go_ret
      exact ⟨V, B, ad, c, by rw [HM.out]; exact hv, hGB, by rw [HM.out] <;> rfl, X3.out, D3.out⟩
end Go.Proofs.YtepommmmmfaihaaDoor
