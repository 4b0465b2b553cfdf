/-
  Contracts of the draws for characters: whatever the code is, some text of at most 12 bytes, and some row of at most six numbers in memory of its own.
-/
import Derived.Test.YtoibjjlicakfjaaDoorDrawOffRn
import Derived.Test.YtoibjjlicakfjaaDoorOfRn
namespace Go.Proofs.YtoibjjlicakfjaaDoor
open Go.RowKit
set_option linter.unusedVariables false
set_option linter.unusedSimpArgs false
theorem own_draw {w w1 : World} {B G : Nat} {e : TypeId} {v : Value} {n : Nat} {xs : List Value} (h : w.ownsRow B e 1 v n xs) (hg : w.grownBy w1 (some G)) (hB : G < B) : w1.ownsRow B e 1 v n xs := by
  refine h.kept hg ?_
  cases hv : v.ownBlock with
  | none => exact .inl rfl
  | some k => exact .inr (fun e => by cases e; have := (h.lt G hv).1; omega)
theorem str_cell {w w1 : World} {G : Nat} (K : Nat) {cs : Array Value} {T : TypeId} {x : Int} {N : Nat} (hg : (w.alloc (.cells cs T)).grownBy w1 (some G)) (h0 : 0 ≤ x) (hx : x < N) (hN : cs.size = N) (hG : G < w.heap.size) (hK : ∀ k, k < N → ∃ s : ByteArray, cs[k]? = some (.string s) ∧ s.size ≤ K) : ∃ s : ByteArray, w1.cell? ⟨w.heap.size, x.toNat, none⟩ = some (.string s) ∧ s.size ≤ K := by
  have hb := hg.block w.heap.size (by simp) (fun e => by cases e; omega)
  rw [World.cell?_of_block (a := ⟨w.heap.size, x.toNat, none⟩) hb, cell_of_row _ w.heap.size x.toNat _ T (0, 0) (heap_alloc_new w _)]
  exact hK x.toNat (by omega)
theorem int_cell {w w1 : World} {G : Nat} {cs : Array Value} {T : TypeId} {x : Int} {N : Nat} (hg : (w.alloc (.cells cs T)).grownBy w1 (some G)) (h0 : 0 ≤ x) (hx : x < N) (hN : cs.size = N) (hG : G < w.heap.size) (hK : ∀ k, k < N → ∃ y : Int, cs[k]? = some (.int .i64 y)) : ∃ y : Int, w1.cell? ⟨w.heap.size, x.toNat, none⟩ = some (.int .i64 y) := by
  have hb := hg.block w.heap.size (by simp) (fun e => by cases e; omega)
  rw [World.cell?_of_block (a := ⟨w.heap.size, x.toNat, none⟩) hb, cell_of_row _ w.heap.size x.toNat _ T (0, 0) (heap_alloc_new w _)]
  exact hK x.toNat (by omega)
set_option maxHeartbeats 1000000 in
theorem d_text (G : Nat) (a : Option Addr) (n cap : Nat) (zs : List Int) (w : World) (h : RdAt w G a n cap zs) :
    Calls Tryd.prog 13 #[.pointer (some ⟨G, 0, none⟩)] w fun e w' => ∃ s : ByteArray, s.size ≤ 4 ∧ e = .returned (.string s) ∧ Drew G a n cap zs w w' := by
  have HH := hide h
  have hG := rd_lt h
  clear h
  go_enter Tryd.func13, Tryd.ntmps13
  go_wp2_with fail
  refine (d_below G a n cap zs 14 _ (by omega) (by omega) (rd_alloc HH.out _)).mono ?_
  rintro e w1 ⟨x, hx0, hx1, rfl, hd⟩
  obtain ⟨s, hs, hs1⟩ := str_cell 4 hd.2 hx0 hx1 rfl hG (fun k hk => by
    have hk' : k < 14 := hk
    have hx : k = 0 ∨ k = 1 ∨ k = 2 ∨ k = 3 ∨ k = 4 ∨ k = 5 ∨ k = 6 ∨ k = 7 ∨ k = 8 ∨ k = 9 ∨ k = 10 ∨ k = 11 ∨ k = 12 ∨ k = 13 := by omega
    rcases hx with e | e | e | e | e | e | e | e | e | e | e | e | e | e <;> subst e <;> exact ⟨_, rfl, by decide⟩)
  have HD := hide (drew_alloc _ hd)
  clear hd
  go_wp2
  go_ret
  exact ⟨s, hs1, rfl, HD.out⟩
set_option maxHeartbeats 2000000 in
theorem d_runes (a : Option Addr) (n cap : Nat) (zs : List Int) (w : World) (hl : zs.length = n) (hz : ∀ x ∈ zs, 0 ≤ x ∧ x ≤ 255) (hn : n ≤ 1048576) (hs : SrcAt w a zs w.heap.size) :
    Calls Tryd.prog 5 #[.slice a n cap] w fun e w' => ∃ s : ByteArray, s.size ≤ 12 ∧ e = .returned (.string s) ∧ Below w.heap.size w w' := by
  obtain ⟨G, hG⟩ : ∃ G, w.heap.size = G := ⟨_, rfl⟩
  have HS := hide hs
  have HL := hide hl
  have HZ := hide hz
  have HG := hide hG
  clear hs hl hz hG
  go_enter Tryd.func5, Tryd.ntmps5
  go_wp2_with fail
  refine (d_open a n cap zs _ HL.out HZ.out hn HS.out).mono ?_
  rintro e w1 ⟨rfl, hr1, hb1⟩
  rw [HG.out] at hr1 hb1 ⊢
  have R1 := hide hr1
  have B1 := hide hb1
  clear hr1 hb1
  go_wp2_with fail
  refine (d_text G a n cap zs _ R1.out).mono ?_
  rintro e w2 ⟨s1, hs1, rfl, hd⟩
  have B2 := hide (below_drew B1.out hd (Nat.le_of_lt (rd_lt R1.out)))
  have R2 := hide hd.1
  clear hd
  go_wp2_with fail
  refine (d_text G a n cap zs _ R2.out).mono ?_
  rintro e w3 ⟨s2, hs2, rfl, hd⟩
  have B3 := hide (below_drew B2.out hd (Nat.le_of_lt (rd_lt R2.out)))
  have R3 := hide hd.1
  clear hd
  go_wp2_with fail
  refine (d_once G a n cap zs 3 _ (by omega) (by omega) R3.out).mono ?_
  rintro e w4 ⟨b, rfl, hd⟩
  have B4 := hide (below_drew B3.out hd (Nat.le_of_lt (rd_lt R3.out)))
  have R4 := hide hd.1
  have hG4 := rd_lt hd.1
  clear hd
  cases b
  · go_wp2
    go_ret
    exact ⟨s1 ++ s2, by rw [ByteArray.size_append]; omega, rfl, by rw [HG.out]; exact B4.out⟩
  · go_wp2_with fail
    refine (d_below G a n cap zs 6 _ (by omega) (by omega) (rd_alloc R4.out _)).mono ?_
    rintro e w5 ⟨x, hx0, hx1, rfl, hd⟩
    obtain ⟨s3, hs3, hs3l⟩ := str_cell 4 hd.2 hx0 hx1 rfl hG4 (fun k hk => by
      have hk' : k < 6 := hk
      have hx : k = 0 ∨ k = 1 ∨ k = 2 ∨ k = 3 ∨ k = 4 ∨ k = 5 := by omega
      rcases hx with e | e | e | e | e | e <;> subst e <;> exact ⟨_, rfl, by decide⟩)
    have B5 := hide (below_drew B4.out (drew_alloc _ hd) (Nat.le_of_lt hG4))
    clear hd
    go_wp2
    go_ret
    exact ⟨s1 ++ s2 ++ s3, by rw [ByteArray.size_append, ByteArray.size_append]; omega, rfl, by rw [HG.out]; exact B5.out⟩
/-- While numbers are drawn: those so far in memory of the call's own, the reader behind its draws. -/
def IRel (G : Nat) (a : Option Addr) (n cap : Nat) (zs : List Int) (w wr : World) (acc : List Int) (ad : Option Addr) (c : Nat) : Prop :=
  wr.ownsRow (G + 1) 2 1 (.slice ad acc.length c) acc.length (acc.map (Value.int .i64)) ∧ RdAt wr G a n cap zs ∧ Below G w wr
theorem i_drew {G : Nat} {a : Option Addr} {n cap : Nat} {zs : List Int} {w wr w1 : World} {acc : List Int} {ad : Option Addr} {c : Nat} (h : IRel G a n cap zs w wr acc ad c) (hd : Drew G a n cap zs wr w1) : IRel G a n cap zs w w1 acc ad c :=
  ⟨own_draw h.1 hd.2 (Nat.lt_succ_self _), hd.1, below_drew h.2.2 hd (Nat.le_of_lt (rd_lt h.2.1))⟩
theorem i_put {G : Nat} {a : Option Addr} {n cap : Nat} {zs : List Int} {w wr w2 : World} {acc : List Int} {ad ad2 : Option Addr} {c c2 : Nat} {o : Obj} {x : Int} (h : IRel G a n cap zs w wr acc ad c)
    (hown : w2.ownsRow (G + 1) 2 1 (.slice ad2 (acc.length + 1) c2) (acc.length + 1) (acc.map (Value.int .i64) ++ [.int .i64 x])) (hgr : (wr.alloc o).grownBy w2 (Value.slice ad acc.length c).ownBlock) :
    IRel G a n cap zs w w2 (acc ++ [x]) ad2 c2 := by
  obtain ⟨h1, h2, h3⟩ := h
  have hb : ∀ k, (Value.slice ad acc.length c).ownBlock = some k → G + 1 ≤ k := fun k hk => (h1.lt k hk).1
  have hlt := rd_lt h2
  refine ⟨?_, ?_, ?_⟩
  · rw [show (acc ++ [x]).length = acc.length + 1 by simp, show (acc ++ [x]).map (Value.int .i64) = acc.map (Value.int .i64) ++ [.int .i64 x] by simp]
    exact hown
  · exact rd_grown (rd_alloc h2 o) hgr (fun k hk => by have := hb k hk; omega)
  · have h4 : Below G w (wr.alloc o) := h3.alloc (Nat.le_of_lt hlt) o
    exact h4.grown hgr (by simp; omega) (fun k hk => by have := hb k hk; omega)
set_option maxHeartbeats 2000000 in
theorem d_ofrunes (a : Option Addr) (n cap : Nat) (zs : List Int) (w : World) (hl : zs.length = n) (hz : ∀ x ∈ zs, 0 ≤ x ∧ x ≤ 255) (hn : n ≤ 1048576) (hs : SrcAt w a zs w.heap.size) :
    Calls Tryd.prog 10 #[.slice a n cap] w fun e w' => ∃ (xs : List Int) (ad : Option Addr) (c : Nat), xs.length ≤ 6 ∧ e = .returned (.slice ad xs.length c) ∧ w'.ownsRow (w.heap.size + 1) 2 1 (.slice ad xs.length c) xs.length (xs.map (Value.int .i64)) ∧ Below w.heap.size w w' := by
  obtain ⟨i0, hi, hz0, hz1, hz2⟩ := info_parts info64
  obtain ⟨G, hG⟩ : ∃ G, w.heap.size = G := ⟨_, rfl⟩
  have HS := hide hs
  have HL := hide hl
  have HZ := hide hz
  have HG := hide hG
  clear hs hl hz hG
  go_enter Tryd.func10, Tryd.ntmps10
  go_wp2_with fail
  refine (d_open a n cap zs _ HL.out HZ.out hn HS.out).mono ?_
  rintro e w1 ⟨rfl, hr1, hb1⟩
  rw [HG.out] at hr1 hb1 ⊢
  have hG1 := rd_lt hr1
  have I1 : Hid (IRel G a n cap zs w (w1.alloc (.cells #[] 2)) [] (some ⟨w1.heap.size, 0, none⟩) 0) := hide ⟨World.ownsRow_made (base := G + 1) (e := 2) (size := 1) w1 #[] 0 (by omega) (Nat.zero_le _) rfl, rd_alloc hr1 _, hb1.alloc (Nat.le_of_lt hG1) _⟩
  clear hr1 hb1
  go_wp2_with fail
  refine (d_below G a n cap zs 6 _ (by omega) (by omega) I1.out.2.1).mono ?_
  rintro e w2 ⟨y, hy0, hy1, rfl, hd⟩
  have I2 := hide (i_drew I1.out hd)
  clear hd
  obtain ⟨k0, rfl⟩ : ∃ k0 : Nat, y = k0 := ⟨y.toNat, by omega⟩
  go_wp2
  go_loopw [4, 5] (fun v i wr => ∃ (k : Nat) (acc : List Int) (ad : Option Addr) (c : Nat), i = .int .i64 k ∧ acc.length + k ≤ 5 ∧ v = .slice ad acc.length c ∧ Hid (IRel G a n cap zs w wr acc ad c)) (fun _ i _ => (intOf i).toNat)
  case atStart => exact ⟨k0, [], _, _, rfl, by simp; omega, rfl, I2⟩
  case round =>
    obtain ⟨k, acc, ad, c, rfl, hk, rfl, IR⟩ := hrel
    have hGr := rd_lt IR.out.2.1
    by_cases hpos : 0 < k
    · have hp' : (0 : Int) < (k : Int) := by omega
      go_wp2_with fail
      refine (d_below G a n cap zs 9 _ (by omega) (by omega) (rd_alloc IR.out.2.1 _)).mono ?_
      rintro e w3 ⟨x, hx0, hx1, rfl, hd⟩
      obtain ⟨z, hz⟩ := int_cell hd.2 hx0 hx1 rfl hGr (fun k hk => by
        have hk' : k < 9 := hk
        have hx : k = 0 ∨ k = 1 ∨ k = 2 ∨ k = 3 ∨ k = 4 ∨ k = 5 ∨ k = 6 ∨ k = 7 ∨ k = 8 := by omega
        rcases hx with e | e | e | e | e | e | e | e | e <;> subst e <;> exact ⟨_, rfl⟩)
      have I3 := hide (i_drew IR.out (drew_alloc _ hd))
      have hG3 := rd_lt hd.1
      clear hd
      go_wp2_with (at_builtin; refine wpList_append_own _ rfl (.tmp 15) (.tmp 21) 25 rfl (G + 1) 2 i0 (.int .i64 0) 1 8 Tryd.underlying25 hi hz0 hz1 hz2 rfl (by decide) _ _ _ rfl (I3.out.1.alloc _) ⟨w3.heap.size, 0, none⟩ 1 1 [.int .i64 z] rfl rfl (fun j u hj => one_new w3 _ _ j u hj) (one_list _ _) (by unfold maxLen; omega) (by omega) (by simp; omega) ?_; intro v3 w4 hown3 hgrow3 _; obtain ⟨ad3, c3, hv3⟩ := own_shape hown3; rw [hv3] at hown3 ⊢; clear hv3; have P3 := hide (i_put I3.out hown3 hgrow3); clear hown3 hgrow3)
      go_roundw
      case rel => exact ⟨k - 1, acc ++ [z], ad3, c3, congrArg (Value.int .i64) (by omega), by simp; omega, by simp, P3⟩
      case measure => simp [intOf]; omega
    · have hz : k = 0 := by omega
      subst hz
      go_wp2_with fail
      refine (d_once G a n cap zs 12 _ (by omega) (by omega) IR.out.2.1).mono ?_
      rintro e w3 ⟨b, rfl, hd⟩
      have I3 := hide (i_drew IR.out hd)
      clear hd
      cases b
      · go_wp2
        go_ret
        exact ⟨acc, ad, c, by omega, rfl, by rw [HG.out]; exact I3.out.1, by rw [HG.out]; exact I3.out.2.2⟩
      · go_wp2_with fail
        refine (d_off_55296_57343 G a n cap zs _ I3.out.2.1).mono ?_
        rintro e w4 ⟨z, rfl, hd⟩
        have I4 := hide (i_drew I3.out hd)
        have hG4 := rd_lt hd.1
        clear hd
        go_wp2_with (at_builtin; refine wpList_append_own _ rfl (.tmp 25) (.tmp 28) 25 rfl (G + 1) 2 i0 (.int .i64 0) 1 8 Tryd.underlying25 hi hz0 hz1 hz2 rfl (by decide) _ _ _ rfl (I4.out.1.alloc _) ⟨w4.heap.size, 0, none⟩ 1 1 [.int .i64 z] rfl rfl (fun j u hj => one_new w4 _ _ j u hj) (one_list _ _) (by unfold maxLen; omega) (by omega) (by simp; omega) ?_; intro v3 w5 hown3 hgrow3 _; obtain ⟨ad3, c3, hv3⟩ := own_shape hown3; rw [hv3] at hown3 ⊢; clear hv3; have P3 := hide (i_put I4.out hown3 hgrow3); clear hown3 hgrow3)
        go_ret
        exact ⟨acc ++ [z], ad3, c3, by simp; omega, by simp, by rw [HG.out]; exact P3.out.1, by rw [HG.out]; exact P3.out.2.2⟩
end Go.Proofs.YtoibjjlicakfjaaDoor
