/-
  Contract: a drawn date, whatever the code is.
-/
import Derived.Test.YtaigicdoepdhnabDoorDrawDate
import Derived.Laws.ResultCell
namespace Go.Proofs.YtaigicdoepdhnabDoor
open Go.RowKit Go.Joins
set_option linter.unusedVariables false
set_option linter.unusedSimpArgs false
theorem src_upD {w : World} {a : Option Addr} {zs : List Int} {B B' : Nat} (h : SrcAt w a zs B) (hB : B ≤ B') : SrcAt w a zs B' := by
  intro hne
  obtain ⟨b, off, e, hb, hc⟩ := h hne
  exact ⟨b, off, e, by omega, hc⟩
set_option maxRecDepth 100000 in
set_option maxHeartbeats 4000000 in
theorem d_one (a : Option Addr) (n cap : Nat) (zs : List Int) (w : World) (hl : zs.length = n) (hz : ∀ x ∈ zs, 0 ≤ x ∧ x ≤ 255) (hn : n ≤ 1048576) (hs : SrcAt w a zs w.heap.size) :
    Calls Tryd.prog 5 #[.slice a n cap] w fun e w' => ∃ (x0 x1 x2 x3 x4 x5 : Int) (x6 : Bool) (x7 : Int), e = .returned (.agg #[.int .i64 x0, .int .i64 x1, .int .i64 x2, .int .i64 x3, .int .i64 x4, .int .i64 x5, .bool x6, .int .i64 x7]) ∧ Below w.heap.size w w' := by
  have HS := hide hs
  have HL := hide hl
  have HZ := hide hz
  clear hs hl hz
  go_enter Tryd.func5, Tryd.ntmps5
  go_wp2_with fail
  have hW : (w.alloc (.cells #[.int .i64 0, .int .i64 0, .int .i64 0, .int .i64 0, .int .i64 0, .int .i64 0, .bool false, .int .i64 0] 25)).heap.size = w.heap.size + 1 := by simp
  refine (d_open a n cap zs _ HL.out HZ.out hn (src_upD (src_grown HS.out (Nat.le_refl _) (World.grownBy_alloc w _ none) (fun k hk => by cases hk)) (by simp))).mono ?_
  rintro e w1 ⟨rfl, hrd, hb1⟩
  rw [hW] at hrd
  have hA1 : DSh (w.alloc (.cells #[.int .i64 0, .int .i64 0, .int .i64 0, .int .i64 0, .int .i64 0, .int .i64 0, .bool false, .int .i64 0] 25)) w.heap.size := ⟨_, _, _, _, _, _, _, _, heap_alloc_new w _⟩
  have gb : (w.alloc (.cells #[.int .i64 0, .int .i64 0, .int .i64 0, .int .i64 0, .int .i64 0, .int .i64 0, .bool false, .int .i64 0] 25)).grownBy w1 none := ⟨hb1.os, hb1.tape, hb1.output, hb1.size, fun k hk _ => hb1.block k hk⟩
  have C0 : Hid (RdAt w1 (w.heap.size + 1) a n cap zs ∧ Below w.heap.size w w1 ∧ DSh w1 w.heap.size) := hide ⟨hrd, ((Below.refl w.heap.size w).alloc (Nat.le_refl _) _).trans (hb1.mono (by rw [hW]; omega)), dsh_grown hA1 gb (by simp)⟩
  clear hrd hb1 hW hA1 gb
  go_wp2_with fail
  refine (d_date (w.heap.size + 1) a n cap zs _ C0.out.1).mono ?_
  rintro e w2 ⟨x0, x1, x2, x3, x4, x5, x6, x7, rfl, hd⟩
  have hlt := rd_lt hd.1
  have B2 := hide (C0.out.2.1.grown hd.2 C0.out.2.1.size (fun x hx => by cases hx; omega))
  have hR := dsh_grown C0.out.2.2 hd.2 (by intro e; injection e with e; omega)
  obtain ⟨z0, z1, z2, z3, z4, z5, z6, z7, hR⟩ := hR
  have HC := hide (dsh_cells (set8_row hR x0 x1 x2 x3 x4 x5 x6 x7)).1
  obtain ⟨⟨c0, c1, c2, c3, c4, c5, c6, c7⟩, f0, f1, f2, f3, f4, f5, f6, f7⟩ := dsh_cells hR
  clear hR hd
  go_wp2
  obtain ⟨t0, t1, t2, t3, t4, t5, t6, t7⟩ := HC.out
  refine bodyPost_ret (v := .agg #[.int .i64 x0, .int .i64 x1, .int .i64 x2, .int .i64 x3, .int .i64 x4, .int .i64 x5, .bool x6, .int .i64 x7]) (by simp [results, Tryd.results5, go_sem, t0, t1, t2, t3, t4, t5, t6, t7]) rfl ⟨_, _, _, _, _, _, _, _, rfl, ?_⟩
  iterate 8 (refine Below.setCell ?_ (by simp) _)
  exact B2.out
end Go.Proofs.YtaigicdoepdhnabDoor
