/-
  Contract of the program's reader of expressions: brackets.
-/
import Derived.Test.YtepommmmmfaihaaGreatDoorB39
namespace Go.Proofs.YtepommmmmfaihaaGreatDoor
open Go.RowKit Go.Joins
set_option linter.unusedVariables false
set_option linter.unusedSimpArgs false
theorem prV_app : ∀ (L : List (Int × Int)) (a b : Int), prV (L ++ [(a, b)]) = prV L ++ [.int .i64 a, .int .i64 b]
  | [], a, b => rfl
  | p :: L, a, b => by rw [List.cons_append, prV, prV_app L a b, prV]; rfl
/-- How much is left to read. -/
def rsN (R : Nat) (w : World) : Nat := match w.cell? ⟨R, 0, none⟩ with
  | some (.slice _ n _) => n
  | _ => 0
theorem rsN_of {S : Nat → Prop} {B R : Nat} {w : World} {u : List Int} {X : List Nd} (h : RD S B R w u X) : rsN R w = u.length := by
  obtain ⟨ta, tc, ad, cp, c0, -⟩ := rd_row h
  unfold rsN
  rw [c0]
def BkN (w : World) (N : Nat) (nt : Bool) (ra : Option Addr) (n rc : Nat) : Prop := w.heap[N]? = some (.cells #[.int .i64 2, .bool nt, .slice ra n rc, .int .i64 0, .int .i64 0, .int .i64 0, .int .i64 0] 69 (0, 0))
/-- While brackets are read: the reader, the node in block N, its ranges. -/
structure BK (B R N M : Nat) (w : World) (u : List Int) (X : List Nd) (nt : Bool) (ra : Option Addr) (L : List (Int × Int)) (rc : Nat) : Prop where
  rd : RD (fun j => B ≤ j ∧ j < M) B R w u X
  nd : BkN w N nt ra L.length rc
  ow : w.ownsRow 0 103 2 (.slice ra L.length rc) L.length (prV L)
  hi : ∀ k, (Value.slice ra L.length rc).ownBlock = some k → M ≤ k
  hN : M ≤ N
  hB : B ≤ M
section
variable {B R N M : Nat} {w w' : World} {u u' : List Int} {X : List Nd} {nt : Bool} {ra : Option Addr} {L : List (Int × Int)} {rc : Nat}
theorem bk_cells (h : BkN w N nt ra M rc) : (w.cell? ⟨N, 0, none⟩ = some (.int .i64 2) ∧ w.cell? ⟨N, 1, none⟩ = some (.bool nt) ∧ w.cell? ⟨N, 2, none⟩ = some (.slice ra M rc) ∧ w.cell? ⟨N, 3, none⟩ = some (.int .i64 0) ∧ w.cell? ⟨N, 4, none⟩ = some (.int .i64 0) ∧ w.cell? ⟨N, 5, none⟩ = some (.int .i64 0) ∧ w.cell? ⟨N, 6, none⟩ = some (.int .i64 0)) ∧ w.frozen? ⟨N, 2, none⟩ = false := by
  have e : ∀ i, w.cell? ⟨N, i, none⟩ = (#[.int .i64 2, .bool nt, .slice ra M rc, .int .i64 0, .int .i64 0, .int .i64 0, .int .i64 0] : Array Value)[i]? := fun i => by rw [cell_of_row w N i _ _ (0, 0) h]
  exact ⟨⟨e 0, e 1, e 2, e 3, e 4, e 5, e 6⟩, frozen_of_row w N 2 _ _ h⟩
theorem bk_neR (h : BkN w N nt ra M rc) {S : Nat → Prop} (hr : RD S B R w u X) : N ≠ R := by
  rintro rfl
  obtain ⟨_, _, _, _, _, hx, _⟩ := hr
  unfold XR at hx
  rw [h] at hx
  simp only [Option.some.injEq, Obj.cells.injEq] at hx
  exact absurd hx.2.1 (by decide)
theorem bk_lt (h : BkN w N nt ra M rc) : N < w.heap.size := (Array.getElem?_eq_some_iff.1 h).1
theorem bk_r (h : BK B R N M w u X nt ra L rc) (k : Kp (fun j => j = R) w w') (hr : RD (fun j => B ≤ j ∧ j < M) B R w' u' X) : BK B R N M w' u' X nt ra L rc := by
  refine ⟨hr, (k.block N (bk_lt h.nd) (bk_neR h.nd h.rd)).trans h.nd, own_kp h.ow k (fun j hj e => ?_), h.hi, h.hN, h.hB⟩
  obtain ⟨_, _, _, _, _, hx, _⟩ := h.rd
  exact type_ne h.ow hj hx (by decide) e
theorem bk_bl (h : BK B R N M w u X nt ra L rc) (k : Below w.heap.size w w') : BK B R N M w' u X nt ra L rc :=
  ⟨rd_blA h.rd k, (k.block N (bk_lt h.nd)).trans h.nd, own_kp h.ow ⟨k.os, k.tape, k.output, k.size, fun j hj _ => k.block j hj⟩ (S := fun _ => False) (fun _ _ x => x), h.hi, h.hN, h.hB⟩
/-- The reader stays where blocks from M on are written, it apart. -/
theorem rd_hi {T : Nat → Prop} (h : RD (fun j => B ≤ j ∧ j < M) B R w u X) (k : Kp T w w') (hT : ∀ j, T j → M ≤ j) (hTR : ¬ T R) (hB : B ≤ M) : RD (fun j => B ≤ j ∧ j < M) B R w' u X := by
  obtain ⟨h0, ta, tc, ad, c, h1, h2, h3, h4⟩ := h
  have hlt := xr_lt h1
  exact ⟨h0, ta, tc, ad, c, (k.block R hlt hTR).trans h1, tx_go h2 (kp_below k (by omega) (fun j hj => by have := hT j hj; omega)), xo_kp h3 k (fun j hj ht => by have := (h4 j hj).2; have := hT j ht; omega) (fun B' z n v ys j hv hj hs ht => by have := hs.2; have := hT j ht; omega), h4⟩
theorem bk_app {a b : Int} {gg cap' : Nat} {w9 : World} {o : Obj} (h : BK B R N M w u X nt ra L rc) (hown9 : w9.ownsRow 0 103 2 (.slice (some ⟨gg, 0, none⟩) (L.length + 1) cap') (L.length + 1) (prV L ++ [.int .i64 a, .int .i64 b])) (hg : (w.alloc o).grownBy w9 (Value.slice ra L.length rc).ownBlock) (hat : (Value.slice ra L.length rc).ownBlock = some gg ∨ gg = w.heap.size + 1) :
    w9.cell? ⟨N, 2, none⟩ = some (.slice ra L.length rc) ∧ w9.frozen? ⟨N, 2, none⟩ = false ∧ BK B R N M (w9.setCell ⟨N, 2, none⟩ (.slice (some ⟨gg, 0, none⟩) (L.length + 1) cap')) u X nt (some ⟨gg, 0, none⟩) (L ++ [(a, b)]) cap' ∧ Below B w (w9.setCell ⟨N, 2, none⟩ (.slice (some ⟨gg, 0, none⟩) (L.length + 1) cap')) := by
  have hk : Kp (fun j => (Value.slice ra L.length rc).ownBlock = some j) w w9 := (kp_alloc w o).trans (kp_grown (S := fun j => (Value.slice ra L.length rc).ownBlock = some j) hg (fun j hj => hj)) (fun j _ hj => hj)
  have hx : ∃ ta n tc ad m c, XR w R ta n tc ad m c := by obtain ⟨_, ta, tc, ad, c, hx, _⟩ := h.rd; exact ⟨_, _, _, _, _, _, hx⟩
  obtain ⟨_, _, _, _, _, _, hx⟩ := hx
  have n9 : BkN w9 N nt ra L.length rc := (hk.block N (bk_lt h.nd) (fun e => type_ne h.ow e h.nd (by decide) rfl)).trans h.nd
  have r9 := rd_hi h.rd hk h.hi (fun e => type_ne h.ow e hx (by decide) rfl) h.hB
  have ks : Kp (fun j => j = N) w9 (w9.setCell ⟨N, 2, none⟩ (.slice (some ⟨gg, 0, none⟩) (L.length + 1) cap')) := kp_set (S := fun j => j = N) _ _ _ rfl
  have r10 := rd_hi r9 ks (fun j hj => by have hj' : j = N := hj; have := h.hN; omega) (fun e => bk_neR n9 r9 e.symm) h.hB
  have hl : (L ++ [(a, b)]).length = L.length + 1 := by simp
  have hlt := bk_lt h.nd
  have hN := h.hN
  have hB := h.hB
  refine ⟨(bk_cells n9).1.2.2.1, (bk_cells n9).2, ⟨r10, ?_, ?_, ?_, h.hN, h.hB⟩, ?_⟩
  · rw [hl]; exact heap_setCell_same w9 N 2 _ _ _ n9
  · rw [hl, prV_app]; exact own_kp hown9 ks (fun j hj => type_ne hown9 hj n9 (by decide))
  · intro k hk9
    have e : gg = k := by simpa [Value.ownBlock] using hk9
    subst e
    rcases hat with e | e
    · exact h.hi gg e
    · omega
  · exact (kp_below hk (by omega) (fun j hj => by have := h.hi j hj; omega)).trans (kp_below ks (by have := hk.size; omega) (fun j hj => by have hj' : j = N := hj; omega))
end
/-- The loop over the ranges, and the node that is put behind the row. -/
def BrE (u : List Int) (X : List Nd) (nt : Bool) (f : Nat) (v : List Int) (L : List (Int × Int)) : Prop := v.length + 1 ≤ f ∧ brP u X = match brF f v L with
  | none => none
  | some (r, L') => some (r, X ++ [clN nt L'])
set_option maxRecDepth 100000 in
set_option maxHeartbeats 8000000 in
theorem i_brackets (B R : Nat) (u : List Int) (X : List Nd) (w : World) (hX : X.length ≤ 4000) (hu : u.length ≤ 400) (h : RD (fun j => B ≤ j) B R w u X) : Calls Tryz.prog 133 #[.pointer (some ⟨R, 0, none⟩)] w (RaI B R w (brP u X)) := by
  obtain ⟨i0, hi0, hz0, hz1, hz2⟩ := info_parts infoRG
  have hB := rdx_lt h
  have hs := rd_small h
  have E0 : ∃ (nt : Bool) (v : List Int), v.length ≤ u.length ∧ BrE u X nt (u.length + 1) v [] ∧ Calls Tryz.prog 93 #[.pointer (some ⟨R, 0, none⟩), .int .i64 94] w fun e w' => e = .returned (.bool nt) ∧ RD (fun j => B ≤ j ∧ j < w.heap.size) B R w' v X ∧ Kp (fun j => j = R) w w' := by
    by_cases e : u.head? = some 94
    · refine ⟨true, u.tail, tail_len u, ⟨by have := tail_len u; omega, ?_⟩, ?_⟩
      · unfold brP
        rw [if_pos e, decide_eq_true e]
        rfl
      · have hs' := hs
        rw [tail_cons e] at hs'
        exact i_takesY B R 94 u.tail X w hs'
    · refine ⟨false, u, Nat.le_refl _, ⟨Nat.le_refl _, ?_⟩, ?_⟩
      · unfold brP
        rw [if_neg e, decide_eq_false e]
        rfl
      · refine (i_takesN B R 94 u X w hs e).mono ?_
        rintro e9 w9 ⟨rfl, rfl⟩
        exact ⟨rfl, hs, Kp.refl _ _⟩
  obtain ⟨nt, v, hv, hE, hT⟩ := E0
  have HT := hide hT
  have HE := hide hE
  have HS := hide hs
  clear h hs hT hE
  go_enter Tryz.func133, Tryz.ntmps133
  go_wp2_with fail
  refine HT.out.mono ?_
  rintro e w1 ⟨rfl, h1, k1⟩
  have hsz1 := k1.size
  have bA := (Below.refl w1.heap.size w1).alloc (Nat.le_refl _) (.cells #[.int .i64 2, .bool nt, .slice none 0 0, .int .i64 0, .int .i64 0, .int .i64 0, .int .i64 0] 69)
  have HBK : Hid (BK B R w1.heap.size w.heap.size (w1.alloc (.cells #[.int .i64 2, .bool nt, .slice none 0 0, .int .i64 0, .int .i64 0, .int .i64 0, .int .i64 0] 69)) v X nt none [] 0) := hide ⟨rd_blA h1 bA, heap_alloc_new w1 _, World.ownsRow_nil _ _ _ _, fun k hk => (by cases hk), hsz1, hB⟩
  have HB1 : Hid (Below B w (w1.alloc (.cells #[.int .i64 2, .bool nt, .slice none 0 0, .int .i64 0, .int .i64 0, .int .i64 0, .int .i64 0] 69))) := hide ((rd_kpB HS.out k1).trans (bA.mono (by omega)))
  obtain ⟨N, hN⟩ : ∃ N, w1.heap.size = N := ⟨_, rfl⟩
  rw [hN] at HBK
  clear h1 k1 HT HS bA
  go_wp2_with fail
  clear hN hsz1
  go_loopw [] (fun wr => ∃ (ul : List Int) (ra : Option Addr) (L : List (Int × Int)) (rc f : Nat), ul.length + L.length ≤ 400 ∧ Hid (BK B R N w.heap.size wr ul X nt ra L rc) ∧ Hid (Below B w wr) ∧ Hid (BrE u X nt f ul L)) (fun wr => rsN R wr)
  case atStart => exact ⟨v, none, [], 0, _, by simp; omega, HBK, HB1, HE⟩
  case round =>
    clear HBK HB1 HE
    obtain ⟨ul, ra, L, rc, f, hul, HBK, HB, HE⟩ := hrel
    have hmeas := rsN_of HBK.out.rd
    obtain ⟨f, rfl⟩ : ∃ g, f = g + 1 := ⟨f - 1, by have := HE.out.1; omega⟩
    by_cases e1 : ul.head? = some 93
    · obtain ⟨q, rfl⟩ : ∃ q, ul = 93 :: q := ⟨_, tail_cons e1⟩
      have E : Hid (brP u X = some (q, X ++ [clN nt L])) := hide (by rw [HE.out.2, brF, if_pos e1]; rfl)
      have HT := hide (i_takesY B R 93 q X wr HBK.out.rd)
      clear HE e1
      go_wp2_with fail
      refine HT.out.mono ?_
      rintro e w2 ⟨rfl, h2, k2⟩
      have HBK2 := hide (bk_r HBK.out k2 h2)
      have HB2 := hide (HB.out.trans (rd_kpB HBK.out.rd k2))
      obtain ⟨⟨n0, n1, n2, n3, n4, n5, n6⟩, nf⟩ := bk_cells HBK2.out.nd
      have HA := hide (i_add B R q X (clN nt L) ra rc w2 (by omega) (by show L.length ≤ 500; simp at hul; omega) h2 (fun j hj => hj.1) HBK2.out.ow (fun k hk => by have h9 := HBK2.out.hi k hk; exact ⟨Nat.le_trans hB h9, fun h10 => by have := h10.2; omega⟩))
      clear h2 k2 HT HBK
      go_wp2_with fail
      refine HA.out.mono ?_
      rintro e w3 ⟨rfl, h3, k3⟩
      have H3 := hide h3
      have HB3 := hide (HB2.out.trans k3)
      clear h3 k3 HA
      go_wp2
      go_end0
      rw [E.out]
      exact ⟨rfl, H3.out, HB3.out⟩
    · have HT := hide (i_takesN B R 93 ul X wr HBK.out.rd e1)
      rcases hn : inP ul with _ | ⟨a, u1⟩
      · have E : Hid (brP u X = none) := hide (by rw [HE.out.2, brF, if_neg e1, hn])
        have HI := hide (i_inN hn HBK.out.rd)
        clear HE e1 hn
        go_wp2_with (first | (go_at_call 93; refine HT.out.mono ?_; rintro e w9 ⟨rfl, h9⟩; rw [h9]; clear h9 w9))
        refine HI.out.mono ?_
        rintro e w3 ⟨⟨tv, v, rfl⟩, k3⟩
        have K3 := hide (giv_bl HB.out ⟨⟨tv, v, rfl⟩, k3⟩)
        clear k3
        go_wp2
        rw [E.out]
        exact ⟨rfl, K3.out⟩
      · have hl1 := in_len hn
        have HI := hide (i_inY hn HBK.out.rd)
        have HE1 : Hid (brP u X = match (if u1.head? = some 45 then (match inP u1.tail with
        | none => none
        | some (b, u2) => brF f u2 (L ++ [(a, b)]))
      else brF f u1 (L ++ [(a, a)])) with
          | none => none
          | some (r, L') => some (r, X ++ [clN nt L'])) := hide (by rw [HE.out.2, brF, if_neg e1, hn]; rfl)
        have hf := HE.out.1
        clear HE e1 hn
        go_wp2_with (first | (go_at_call 93; refine HT.out.mono ?_; rintro e w9 ⟨rfl, h9⟩; rw [h9]; clear h9 w9))
        refine HI.out.mono ?_
        rintro e w2 ⟨rfl, h2, k2⟩
        have HBK2 := hide (bk_r HBK.out k2 h2)
        have HB2 := hide (HB.out.trans (rd_kpB HBK.out.rd k2))
        clear k2 HT HI HBK HB
        by_cases e2 : u1.head? = some 45
        · obtain ⟨q, rfl⟩ : ∃ q, u1 = 45 :: q := ⟨_, tail_cons e2⟩
          have HT := hide (i_takesY B R 45 q X w2 h2)
          have HE2 : Hid (brP u X = match (match inP q with
        | none => none
        | some (b, u2) => brF f u2 (L ++ [(a, b)])) with
          | none => none
          | some (r, L') => some (r, X ++ [clN nt L'])) := hide (by rw [HE1.out, if_pos e2]; rfl)
          clear h2 HE1 e2
          go_wp2_with fail
          refine HT.out.mono ?_
          rintro e w3 ⟨rfl, h3, k3⟩
          have HBK3 := hide (bk_r HBK2.out k3 h3)
          have HB3 := hide (HB2.out.trans (rd_kpB HBK2.out.rd k3))
          clear k3 HT HBK2 HB2
          rcases hn2 : inP q with _ | ⟨b, u2⟩
          · have E : Hid (brP u X = none) := hide (by rw [HE2.out, hn2])
            have HI := hide (i_inN hn2 h3)
            clear h3 HE2 hn2
            go_wp2_with fail
            refine HI.out.mono ?_
            rintro e w4 ⟨⟨tv, v, rfl⟩, k4⟩
            have K4 := hide (giv_bl HB3.out ⟨⟨tv, v, rfl⟩, k4⟩)
            clear k4
            go_wp2
            rw [E.out]
            exact ⟨rfl, K4.out⟩
          · have hl2 := in_len hn2
            have HE3 : Hid (brP u X = match brF f u2 (L ++ [(a, b)]) with
              | none => none
              | some (r, L') => some (r, X ++ [clN nt L'])) := hide (by rw [HE2.out, hn2])
            have HI := hide (i_inY hn2 h3)
            clear h3 HE2 hn2
            go_wp2_with fail
            refine HI.out.mono ?_
            rintro e w4 ⟨rfl, h4, k4⟩
            have HBK4 := hide (bk_r HBK3.out k4 h4)
            have HB4 := hide (HB3.out.trans (rd_kpB HBK3.out.rd k4))
            obtain ⟨⟨n0, n1, n2, n3, n4, n5, n6⟩, nf⟩ := bk_cells HBK4.out.nd
            have HOW := hide HBK4.out.ow
            have hl3 : (prV L).length = L.length * 2 := prV_len L
            obtain ⟨m, hm⟩ : ∃ m, L.length = m := ⟨_, rfl⟩
            have HM := hide hm
            have hm4 : m ≤ 400 := by omega
            rw [hm] at n2 HOW
            simp only [List.length_cons] at hl1 hl2 hul hmeas
            clear h4 k4 HI HBK3 HB3 n0 n1 n3 n4 n5 n6 hm hl3
            go_wp2_with (at_builtin; refine wpList_append_lies _ (by rfl) (.tmp 19) (.tmp 23) 67 (by rfl) 0 103 i0 _ 2 16 Tryz.underlying67 hi0 hz0 hz1 hz2 rfl (by omega) (.slice ra m rc) m (prV L) (by rfl) (HOW.out.alloc _) ⟨w4.heap.size, 0, none⟩ 1 1 [.int .i64 a, .int .i64 b] (by rfl) (by rfl) (World.news_of_block (cs := #[.int .i64 a, .int .i64 b]) (t := 103) (fr := (0, 0)) (heap_alloc_new w4 _)) (by simp [Value.oneCell']) (by omega) (by unfold maxLen; omega) (by omega) (by simp <;> omega) (w4.heap.size + 1) (by simp) ?_; intro gg cap' w9 hown9 hgrow9 hat9 hlt9; rw [← HM.out] at hown9 hgrow9 hat9 ⊢; obtain ⟨hc9, hf9, h9, hb9⟩ := bk_app HBK4.out hown9 hgrow9 hat9; have H9 := hide h9; have HB9 := hide (HB4.out.trans hb9); clear hown9 hgrow9 hat9 h9 hb9)
            go_roundw
            case rel => exact ⟨u2, some ⟨gg, 0, none⟩, L ++ [(a, b)], cap', f, by simp; omega, H9, HB9, hide ⟨by omega, HE3.out⟩⟩
            case measure => rw [rsN_of H9.out.rd, hmeas]; omega
        · have HT := hide (i_takesN B R 45 u1 X w2 h2 e2)
          have HE3 : Hid (brP u X = match brF f u1 (L ++ [(a, a)]) with
              | none => none
              | some (r, L') => some (r, X ++ [clN nt L'])) := hide (by rw [HE1.out, if_neg e2])
          obtain ⟨⟨n0, n1, n2, n3, n4, n5, n6⟩, nf⟩ := bk_cells HBK2.out.nd
          have HOW := hide HBK2.out.ow
          obtain ⟨m, hm⟩ : ∃ m, L.length = m := ⟨_, rfl⟩
          have HM := hide hm
          have hm4 : m ≤ 400 := by omega
          rw [hm] at n2 HOW
          clear h2 HE1 e2 n0 n1 n3 n4 n5 n6 hm
          go_wp2_with (first | (go_at_call 93; refine HT.out.mono ?_; rintro e w9 ⟨rfl, h9⟩; rw [h9]; clear h9 w9) | (at_builtin; refine wpList_append_lies _ (by rfl) (.tmp 19) (.tmp 23) 67 (by rfl) 0 103 i0 _ 2 16 Tryz.underlying67 hi0 hz0 hz1 hz2 rfl (by omega) (.slice ra m rc) m (prV L) (by rfl) (HOW.out.alloc _) ⟨w2.heap.size, 0, none⟩ 1 1 [.int .i64 a, .int .i64 a] (by rfl) (by rfl) (World.news_of_block (cs := #[.int .i64 a, .int .i64 a]) (t := 103) (fr := (0, 0)) (heap_alloc_new w2 _)) (by simp [Value.oneCell']) (by omega) (by unfold maxLen; omega) (by omega) (by simp <;> omega) (w2.heap.size + 1) (by simp) ?_; intro gg cap' w9 hown9 hgrow9 hat9 hlt9; rw [← HM.out] at hown9 hgrow9 hat9 ⊢; obtain ⟨hc9, hf9, h9, hb9⟩ := bk_app HBK2.out hown9 hgrow9 hat9; have H9 := hide h9; have HB9 := hide (HB2.out.trans hb9); clear hown9 hgrow9 hat9 h9 hb9))
          go_roundw
          case rel => exact ⟨u1, some ⟨gg, 0, none⟩, L ++ [(a, a)], cap', f, by simp; omega, H9, HB9, hide ⟨by omega, HE3.out⟩⟩
          case measure => rw [rsN_of H9.out.rd, hmeas]; omega
end Go.Proofs.YtepommmmmfaihaaGreatDoor
