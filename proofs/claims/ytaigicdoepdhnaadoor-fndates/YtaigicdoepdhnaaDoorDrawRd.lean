/-
  Contracts: a drawn date, and a drawn text for a date, whatever the code is.
-/
import Derived.Test.YtaigicdoepdhnaaDoorDrawDate
import Derived.Test.YtaigicdoepdhnaaDoorDrawHurt
import Derived.Test.YtaigicdoepdhnaaDoorDt3
import Derived.Laws.ResultCell
namespace Go.Proofs.YtaigicdoepdhnaaDoor
open Go.RowKit Go.Joins
set_option linter.unusedVariables false
set_option linter.unusedSimpArgs false
theorem src_upD {w : World} {a : Option Addr} {zs : List Int} {B B' : Nat} (h : SrcAt w a zs B) (hB : B ≤ B') : SrcAt w a zs B' := by
  intro hne
  obtain ⟨b, off, e, hb, hc⟩ := h hne
  exact ⟨b, off, e, by omega, hc⟩
set_option maxRecDepth 100000 in
set_option maxHeartbeats 4000000 in
theorem d_one (a : Option Addr) (n cap : Nat) (zs : List Int) (w : World) (hl : zs.length = n) (hz : ∀ x ∈ zs, 0 ≤ x ∧ x ≤ 255) (hn : n ≤ 1048576) (hs : SrcAt w a zs w.heap.size) :
    Calls Tryd.prog 5 #[.slice a n cap] w fun e w' => ∃ (x0 x1 x2 x3 x4 x5 : Int) (x6 : Bool) (x7 : Int), e = .returned (.agg #[.int .i64 x0, .int .i64 x1, .int .i64 x2, .int .i64 x3, .int .i64 x4, .int .i64 x5, .bool x6, .int .i64 x7]) ∧ Below w.heap.size w w' := by
  have HS := hide hs
  have HL := hide hl
  have HZ := hide hz
  clear hs hl hz
  go_enter Tryd.func5, Tryd.ntmps5
  go_wp2_with fail
  have hW : (w.alloc (.cells #[.int .i64 0, .int .i64 0, .int .i64 0, .int .i64 0, .int .i64 0, .int .i64 0, .bool false, .int .i64 0] 25)).heap.size = w.heap.size + 1 := by simp
  refine (d_open a n cap zs _ HL.out HZ.out hn (src_upD (src_grown HS.out (Nat.le_refl _) (World.grownBy_alloc w _ none) (fun k hk => by cases hk)) (by simp))).mono ?_
  rintro e w1 ⟨rfl, hrd, hb1⟩
  rw [hW] at hrd
  have hA1 : DSh (w.alloc (.cells #[.int .i64 0, .int .i64 0, .int .i64 0, .int .i64 0, .int .i64 0, .int .i64 0, .bool false, .int .i64 0] 25)) w.heap.size := ⟨_, _, _, _, _, _, _, _, heap_alloc_new w _⟩
  have gb : (w.alloc (.cells #[.int .i64 0, .int .i64 0, .int .i64 0, .int .i64 0, .int .i64 0, .int .i64 0, .bool false, .int .i64 0] 25)).grownBy w1 none := ⟨hb1.os, hb1.tape, hb1.output, hb1.size, fun k hk _ => hb1.block k hk⟩
  have C0 : Hid (RdAt w1 (w.heap.size + 1) a n cap zs ∧ Below w.heap.size w w1 ∧ DSh w1 w.heap.size) := hide ⟨hrd, ((Below.refl w.heap.size w).alloc (Nat.le_refl _) _).trans (hb1.mono (by rw [hW]; omega)), dsh_grown hA1 gb (by simp)⟩
  clear hrd hb1 hW hA1 gb
  go_wp2_with fail
  refine (d_date (w.heap.size + 1) a n cap zs _ C0.out.1).mono ?_
  rintro e w2 ⟨x0, x1, x2, x3, x4, x5, x6, x7, rfl, hd⟩
  have hlt := rd_lt hd.1
  have B2 := hide (C0.out.2.1.grown hd.2 C0.out.2.1.size (fun x hx => by cases hx; omega))
  have hR := dsh_grown C0.out.2.2 hd.2 (by intro e; injection e with e; omega)
  obtain ⟨z0, z1, z2, z3, z4, z5, z6, z7, hR⟩ := hR
  have HC := hide (dsh_cells (set8_row hR x0 x1 x2 x3 x4 x5 x6 x7)).1
  obtain ⟨⟨c0, c1, c2, c3, c4, c5, c6, c7⟩, f0, f1, f2, f3, f4, f5, f6, f7⟩ := dsh_cells hR
  clear hR hd
  go_wp2
  obtain ⟨t0, t1, t2, t3, t4, t5, t6, t7⟩ := HC.out
  refine bodyPost_ret (v := .agg #[.int .i64 x0, .int .i64 x1, .int .i64 x2, .int .i64 x3, .int .i64 x4, .int .i64 x5, .bool x6, .int .i64 x7]) (by simp [results, Tryd.results5, go_sem, t0, t1, t2, t3, t4, t5, t6, t7]) rfl ⟨_, _, _, _, _, _, _, _, rfl, ?_⟩
  iterate 8 (refine Below.setCell ?_ (by simp) _)
  exact B2.out
theorem below_drewD {G : Nat} {a : Option Addr} {n cap : Nat} {zs : List Int} {w w1 w2 : World} (h : Below G w w1) (hd : Drew G a n cap zs w1 w2) (hG : G ≤ w1.heap.size) : Below G w w2 :=
  h.grown hd.2 hG (fun k hk => by cases hk; exact Nat.le_refl _)
theorem dtB_size (y mo d h mi s : Int) (g : Bool) (z : Int) : (dtB y mo d h mi s g z).size ≤ 25 := by
  unfold dtB
  split
  · have hz : (zoneB g z).size ≤ 6 := by
      unfold zoneB
      split
      · decide
      · split
        · decide
        · split <;> (unfold clockB; simp only [ByteArray.size_append]; exact (show 1 + (2 + (1 + 2)) ≤ 6 by decide))
    unfold dayB yearB clockB
    simp only [ByteArray.size_append]
    show 2 + 2 + (1 + (2 + (1 + 2))) + (1 + (2 + (1 + 2) + (1 + (2 + (zoneB g z).size)))) ≤ 25
    omega
  · decide
theorem lit_cell {w w1 : World} {G : Nat} (K : Nat) {cs : Array Value} {T : TypeId} {x : Int} {N : Nat} (hg : (w.alloc (.cells cs T)).grownBy w1 (some G)) (h0 : 0 ≤ x) (hx : x < N) (hN : cs.size = N) (hG : G < w.heap.size) (hK : ∀ k, k < N → ∃ s : ByteArray, cs[k]? = some (.string s) ∧ s.size ≤ K) : ∃ s : ByteArray, w1.cell? ⟨w.heap.size, x.toNat, none⟩ = some (.string s) ∧ s.size ≤ K := by
  have hb := hg.block w.heap.size (by simp) (fun e => by cases e; omega)
  rw [World.cell?_of_block (a := ⟨w.heap.size, x.toNat, none⟩) hb, cell_of_row _ w.heap.size x.toNat _ T (0, 0) (heap_alloc_new w _)]
  exact hK x.toNat (by omega)
set_option maxHeartbeats 2000000 in
theorem d_rdtext (a : Option Addr) (n cap : Nat) (zs : List Int) (w : World) (hl : zs.length = n) (hz : ∀ x ∈ zs, 0 ≤ x ∧ x ≤ 255) (hn : n ≤ 1048576) (hs : SrcAt w a zs w.heap.size) :
    Calls Tryd.prog 10 #[.slice a n cap] w fun e w' => ∃ t : ByteArray, t.size ≤ 200 ∧ e = .returned (.string t) ∧ Below w.heap.size w w' := by
  obtain ⟨G, hG⟩ : ∃ G, w.heap.size = G := ⟨_, rfl⟩
  have HS := hide hs
  have HL := hide hl
  have HZ := hide hz
  have HG := hide hG
  clear hs hl hz hG
  go_enter Tryd.func10, Tryd.ntmps10
  go_wp2_with fail
  refine (d_open a n cap zs _ HL.out HZ.out hn HS.out).mono ?_
  rintro e w1 ⟨rfl, hr1, hb1⟩
  rw [HG.out] at hr1 hb1 ⊢
  have R1 := hide hr1
  have B1 := hide hb1
  clear hr1 hb1
  go_wp2_with fail
  refine (d_date G a n cap zs _ R1.out).mono ?_
  rintro e w2 ⟨y, mo, d, h, mi, s, g, z, rfl, hd⟩
  have B2 := hide (below_drewD B1.out hd (Nat.le_of_lt (rd_lt R1.out)))
  have R2 := hide hd.1
  clear hd
  go_wp2_with fail
  refine (s_dtext y mo d h mi s g z _).mono ?_
  rintro e w3 ⟨rfl, hb3⟩
  have hsz := dtB_size y mo d h mi s g z
  obtain ⟨t, ht⟩ : ∃ t, dtB y mo d h mi s g z = t := ⟨_, rfl⟩
  rw [ht] at hsz ⊢
  have B3 := hide (B2.out.trans (hb3.mono (Nat.le_of_lt (rd_lt R2.out))))
  have R3 := hide (rd_grown R2.out (row := none) ⟨hb3.os, hb3.tape, hb3.output, hb3.size, fun i hi _ => hb3.block i hi⟩ (fun i hi => by cases hi))
  clear hb3 ht
  go_wp2_with fail
  refine (d_below G a n cap zs 6 _ (by omega) (by omega) R3.out).mono ?_
  rintro e w4 ⟨x, hx0, hx1, rfl, hd⟩
  have B4 := hide (below_drewD B3.out hd (Nat.le_of_lt (rd_lt R3.out)))
  have R4 := hide hd.1
  have hG4 := rd_lt hd.1
  clear hd
  rcases (show x = 0 ∨ x = 1 ∨ 2 ≤ x by omega) with hx | hx | hx
  · subst hx
    go_wp2_with fail
    refine (d_hurt G a n cap zs t _ (by omega) R4.out).mono ?_
    rintro e w5 ⟨t2, ht2, rfl, hd⟩
    have B5 := hide (below_drewD B4.out hd (Nat.le_of_lt hG4))
    clear hd
    go_wp2
    go_ret
    exact ⟨t2, by omega, rfl, by rw [HG.out]; exact B5.out⟩
  · subst hx
    go_wp2_with fail
    refine (d_below G a n cap zs 6 _ (by omega) (by omega) (rd_alloc R4.out _)).mono ?_
    rintro e w5 ⟨x, hx0, hx1, rfl, hd⟩
    obtain ⟨t2, ht2, hz2⟩ := lit_cell 6 hd.2 hx0 hx1 rfl hG4 (fun k hk => by
      have hk2 : k < 6 := hk
      rcases (show k = 0 ∨ k = 1 ∨ k = 2 ∨ k = 3 ∨ k = 4 ∨ k = 5 by omega) with e | e | e | e | e | e <;> subst e <;> exact ⟨_, rfl, by decide⟩)
    have B5 := hide (below_drewD B4.out (drew_alloc _ hd) (Nat.le_of_lt hG4))
    clear hd
    go_wp2
    go_ret
    exact ⟨t ++ t2, by rw [ByteArray.size_append]; omega, rfl, by rw [HG.out]; exact B5.out⟩
  · have n0 : (x == 0) = false := by simp; omega
    have n1 : (x == 1) = false := by simp; omega
    go_wp2
    go_ret
    exact ⟨t, by omega, rfl, by rw [HG.out]; exact B4.out⟩
end Go.Proofs.YtaigicdoepdhnaaDoor
