/-
  Contracts of the draws for numbers and their texts: some number, some text; nothing that was there is written.
-/
import Derived.Test.YtdglamiifcagoacDoorDrawDec
namespace Go.Proofs.YtdglamiifcagoacDoor
open Go.RowKit
set_option linter.unusedVariables false
set_option linter.unusedSimpArgs false
theorem src_up {w : World} {a : Option Addr} {zs : List Int} {B B' : Nat} (h : SrcAt w a zs B) (hB : B ≤ B') : SrcAt w a zs B' := by
  intro hne
  obtain ⟨b, off, rfl, hb, hc⟩ := h hne
  exact ⟨b, off, rfl, by omega, hc⟩
theorem below_drewB {G B : Nat} {a : Option Addr} {n cap : Nat} {zs : List Int} {w w1 w2 : World} (h : Below B w w1) (hd : Drew G a n cap zs w1 w2) (hB : B ≤ w1.heap.size) (hG : B ≤ G) : Below B w w2 :=
  h.grown hd.2 hB (fun k hk => by cases hk; exact hG)
set_option maxHeartbeats 2000000 in
theorem d_drawDT (a : Option Addr) (n cap : Nat) (zs : List Int) (w : World) (hl : zs.length = n) (hz : ∀ x ∈ zs, 0 ≤ x ∧ x ≤ 255) (hn : n ≤ 1048576) (hs : SrcAt w a zs w.heap.size) :
    Calls Tryd.prog 8 #[.slice a n cap] w fun e w' => ∃ (m : Bool) (s : ByteArray) (c : Int), s.size ≤ 61 ∧ e = .returned (.agg #[.bool m, .string s, .int .i64 c]) ∧ Below w.heap.size w w' := by
  have HS := hide hs
  have HL := hide hl
  have HZ := hide hz
  clear hs hl hz
  go_enter Tryd.func8, Tryd.ntmps8
  go_wp2_with fail
  refine (d_open a n cap zs _ HL.out HZ.out hn (src_up (src_grown HS.out (Nat.le_refl _) (World.grownBy_alloc w _ none) (fun k hk => by cases hk)) (by simp))).mono ?_
  rintro e w1 ⟨rfl, hr1, hb1⟩
  have hW : (w.alloc (.cells #[.bool false, .string ⟨#[]⟩, .int .i64 0] 25)).heap.size = w.heap.size + 1 := by simp
  obtain ⟨G, hG⟩ : ∃ G, (w.alloc (.cells #[.bool false, .string ⟨#[]⟩, .int .i64 0] 25)).heap.size = G := ⟨_, rfl⟩
  have hG1 : G = w.heap.size + 1 := by rw [← hG, hW]
  rw [hG] at hr1 ⊢
  have HB1 := hide (held_below (held_new w false ⟨#[]⟩ 0 _) hb1)
  have R1 := hide hr1
  have B1 := hide (box_below hb1)
  have HG1 := hide hG1
  clear hr1 hb1 hW hG hG1
  go_wp2_with fail
  refine (d_dec G a n cap zs _ R1.out).mono ?_
  rintro e w2 ⟨m9, s9, c9, hs9, rfl, hd⟩
  have HB2 := hide (held_drew HB1.out hd (by have := HG1.out; omega))
  have B2 := hide (below_drewB B1.out hd B1.out.size (by have := HG1.out; omega))
  have HC := hide (held_three HB2.out (.bool m9) (.string s9) (.int .i64 c9))
  clear hd
  obtain ⟨⟨b1, b2, b3⟩, g1, g2, g3⟩ := held_cells HB2.out
  go_wp2
  obtain ⟨c0, c1, c2⟩ := HC.out
  exact bodyPost_ret (v := .agg #[.bool m9, .string s9, .int .i64 c9]) (by simp [results, Tryd.results8, go_sem, c0, c1, c2]) rfl ⟨_, _, _, hs9, rfl, below_three B2.out _ _ _⟩
end Go.Proofs.YtdglamiifcagoacDoor
