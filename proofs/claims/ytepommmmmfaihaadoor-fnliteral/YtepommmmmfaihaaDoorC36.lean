/-
  Contract of the specification's reader of expressions: brackets.
-/
import Derived.Test.YtepommmmmfaihaaDoorC34
import Derived.Test.YtepommmmmfaihaaDoorC35
import Derived.Test.YtepommmmmfaihaaDoorC32
namespace Go.Proofs.YtepommmmmfaihaaDoor
open Go.RowKit Go.Joins
set_option linter.unusedVariables false
set_option linter.unusedSimpArgs false
/-- A node is right by itself. -/
def ndOk (nd : Nd) : Bool := nodeB nd.k nd.nt nd.L.length (fun i => (nd.L[i]?.getD (0, 0)).1) (fun i => (nd.L[i]?.getD (0, 0)).2) nd.a nd.b nd.mn nd.mx
/-- These nodes can be no right expression, whatever comes behind them. -/
def Bd (X : List Nd) : Prop := 120 < X.length ∨ ∃ nd ∈ X, ndOk nd = false
theorem bd_app {X : List Nd} (Y : List Nd) (h : Bd X) : Bd (X ++ Y) := by
  rcases h with h | ⟨nd, h1, h2⟩
  · exact .inl (by rw [List.length_append]; omega)
  · exact .inr ⟨nd, by simp [h1], h2⟩
/-- What a part leaves: the rest and the nodes, or it is bad. -/
def RaS (B R : Nat) (C : List Int) (w : World) (o : Option (List Int × List Nd)) (e : Ending) (w' : World) : Prop :=
  (∃ k' X', o = some (C.drop k', X') ∧ X'.length ≤ 120 ∧ e = .returned (.int .i64 ((X'.length : Int) - 1)) ∧ SD (fun j => B ≤ j) B R w' C k' false X' ∧ Below B w w') ∨
  ((∃ v k' X', e = .returned (.int .i64 v) ∧ SD (fun j => B ≤ j) B R w' C k' true X') ∧ (∀ u' X', o = some (u', X') → Bd X') ∧ Below B w w')
/-- How much is left to read, while it is not bad. -/
def msS (R n : Nat) (w : World) : Nat := match w.cell? ⟨R, 2, none⟩, w.cell? ⟨R, 1, none⟩ with
  | some (.bool false), some (.int _ q) => n - q.toNat + 1
  | _, _ => 0
theorem msS_no {S : Nat → Prop} {B R : Nat} {w : World} {C : List Int} {k : Nat} {X : List Nd} (h : SD S B R w C k false X) : msS R C.length w = C.length - k + 1 := by
  obtain ⟨_, _, _, _, ⟨c0, c1, c2, c3⟩, -⟩ := sd_cells h
  unfold msS
  rw [c1, c2]
  simp
theorem msS_bad {S : Nat → Prop} {B R : Nat} {w : World} {C : List Int} {k : Nat} {X : List Nd} (h : SD S B R w C k true X) : msS R C.length w = 0 := by
  obtain ⟨_, _, _, _, ⟨c0, c1, c2, c3⟩, -⟩ := sd_cells h
  unfold msS
  rw [c1, c2]
/-- While brackets are read: the reader, the node in block N, its ranges. -/
structure BS (B R N M : Nat) (w : World) (C : List Int) (k : Nat) (bd : Bool) (X : List Nd) (nt : Bool) (ra : Option Addr) (L : List (Int × Int)) (rc : Nat) : Prop where
  rd : SD (fun j => B ≤ j ∧ j < M) B R w C k bd X
  nd : BkN w N nt ra L.length rc
  ow : w.ownsRow 0 46 2 (.slice ra L.length rc) L.length (prV L)
  hi : ∀ k, (Value.slice ra L.length rc).ownBlock = some k → M ≤ k
  hN : M ≤ N
  hB : B ≤ M
section
variable {B R N M : Nat} {w w' : World} {C : List Int} {k k' : Nat} {bd bd' : Bool} {X : List Nd} {nt : Bool} {ra : Option Addr} {L : List (Int × Int)} {rc : Nat}
theorem bs_neR (h : BkN w N nt ra M rc) {S : Nat → Prop} (hr : SD S B R w C k bd X) : N ≠ R := by
  rintro rfl
  obtain ⟨_, _, _, _, _, hx, _⟩ := hr
  unfold SX at hx
  rw [h] at hx
  simp only [Option.some.injEq, Obj.cells.injEq] at hx
  exact absurd hx.2.1 (by decide)
theorem bs_sx (h : BS B R N M w C k bd X nt ra L rc) : ∃ ta n tc q b ad m c, SX w R ta n tc q b ad m c := by
  obtain ⟨_, ta, tc, ad, c, hx, _⟩ := h.rd
  exact ⟨_, _, _, _, _, _, _, _, hx⟩
theorem bs_r (h : BS B R N M w C k bd X nt ra L rc) (q : Kp (fun j => j = R) w w') (hr : SD (fun j => B ≤ j ∧ j < M) B R w' C k' bd' X) : BS B R N M w' C k' bd' X nt ra L rc := by
  refine ⟨hr, (q.block N (bk_lt h.nd) (bs_neR h.nd h.rd)).trans h.nd, own_kp h.ow q (fun j hj e => ?_), h.hi, h.hN, h.hB⟩
  obtain ⟨_, _, _, _, _, _, _, _, hx⟩ := bs_sx h
  exact type_ne h.ow hj hx (by decide) e
theorem bs_bl (h : BS B R N M w C k bd X nt ra L rc) (q : Below w.heap.size w w') : BS B R N M w' C k bd X nt ra L rc :=
  ⟨sd_bl h.rd q, (q.block N (bk_lt h.nd)).trans h.nd, own_kp h.ow ⟨q.os, q.tape, q.output, q.size, fun j hj _ => q.block j hj⟩ (S := fun _ => False) (fun _ _ x => x), h.hi, h.hN, h.hB⟩
theorem bs_app {a b : Int} {gg cap' : Nat} {w9 : World} {o : Obj} (h : BS B R N M w C k bd X nt ra L rc) (hown9 : w9.ownsRow 0 46 2 (.slice (some ⟨gg, 0, none⟩) (L.length + 1) cap') (L.length + 1) (prV L ++ [.int .i64 a, .int .i64 b])) (hg : (w.alloc o).grownBy w9 (Value.slice ra L.length rc).ownBlock) (hat : (Value.slice ra L.length rc).ownBlock = some gg ∨ gg = w.heap.size + 1) :
    w9.cell? ⟨N, 2, none⟩ = some (.slice ra L.length rc) ∧ w9.frozen? ⟨N, 2, none⟩ = false ∧ BS B R N M (w9.setCell ⟨N, 2, none⟩ (.slice (some ⟨gg, 0, none⟩) (L.length + 1) cap')) C k bd X nt (some ⟨gg, 0, none⟩) (L ++ [(a, b)]) cap' ∧ Below B w (w9.setCell ⟨N, 2, none⟩ (.slice (some ⟨gg, 0, none⟩) (L.length + 1) cap')) := by
  have hk : Kp (fun j => (Value.slice ra L.length rc).ownBlock = some j) w w9 := (kp_alloc w o).trans (kp_grown (S := fun j => (Value.slice ra L.length rc).ownBlock = some j) hg (fun j hj => hj)) (fun j _ hj => hj)
  obtain ⟨_, _, _, _, _, _, _, _, hx⟩ := bs_sx h
  have n9 : BkN w9 N nt ra L.length rc := (hk.block N (bk_lt h.nd) (fun e => type_ne h.ow e h.nd (by decide) rfl)).trans h.nd
  have r9 := sd_hi h.rd hk h.hi (fun e => type_ne h.ow e hx (by decide) rfl) h.hB
  have ks : Kp (fun j => j = N) w9 (w9.setCell ⟨N, 2, none⟩ (.slice (some ⟨gg, 0, none⟩) (L.length + 1) cap')) := kp_set (S := fun j => j = N) _ _ _ rfl
  have r10 := sd_hi r9 ks (fun j hj => by have hj' : j = N := hj; have := h.hN; omega) (fun e => bs_neR n9 r9 e.symm) h.hB
  have hl : (L ++ [(a, b)]).length = L.length + 1 := by simp
  have hlt := bk_lt h.nd
  have hN := h.hN
  have hB := h.hB
  refine ⟨(bk_cells n9).1.2.2.1, (bk_cells n9).2, ⟨r10, ?_, ?_, ?_, h.hN, h.hB⟩, ?_⟩
  · rw [hl]; exact heap_setCell_same w9 N 2 _ _ _ n9
  · rw [hl, prV_app]; exact own_kp hown9 ks (fun j hj => type_ne hown9 hj n9 (by decide))
  · intro k hk9
    have e : gg = k := by simpa [Value.ownBlock] using hk9
    subst e
    rcases hat with e | e
    · exact h.hi gg e
    · omega
  · exact (kp_below hk (by omega) (fun j hj => by have := h.hi j hj; omega)).trans (kp_below ks (by have := hk.size; omega) (fun j hj => by have hj' : j = N := hj; omega))
end
theorem ch_Y {S : Nat → Prop} {B R : Nat} {C : List Int} {k : Nat} {X : List Nd} {w : World} {v : Int} {r : List Int} (hn : inP (C.drop k) = some (v, r)) (h : SD S B R w C k false X) : Calls Tryd.prog 71 #[.pointer (some ⟨R, 0, none⟩)] w fun e w' => ∃ k', r = C.drop k' ∧ k < k' ∧ e = .returned (.int .i64 v) ∧ SD S B R w' C k' false X ∧ Kp (fun j => j = R) w w' := by
  have := s_charB B R C k X w h
  rw [hn] at this
  exact this
theorem ch_N {S : Nat → Prop} {B R : Nat} {C : List Int} {k : Nat} {X : List Nd} {w : World} (hn : inP (C.drop k) = none) (h : SD S B R w C k false X) : Calls Tryd.prog 71 #[.pointer (some ⟨R, 0, none⟩)] w fun e w' => ∃ v k', e = .returned (.int .i64 v) ∧ SD S B R w' C k' true X ∧ Kp (fun j => j = R) w w' := by
  have := s_charB B R C k X w h
  rw [hn] at this
  exact this
/-- What is known between two ranges. -/
def ClE (C : List Int) (k : Nat) (X : List Nd) (nt bd : Bool) (kl : Nat) (L : List (Int × Int)) : Prop :=
  (bd = false ∧ (C.length - kl + L.length ≤ 400) ∧ ∃ f, BrE (C.drop k) X nt f (C.drop kl) L) ∨ (bd = true ∧ L.length ≤ 401 ∧ brP (C.drop k) X = none)
set_option maxRecDepth 100000 in
set_option maxHeartbeats 8000000 in
theorem s_brack (B R : Nat) (C : List Int) (k : Nat) (X : List Nd) (w : World) (hX : X.length ≤ 120) (h : SD (fun j => B ≤ j) B R w C k false X) : Calls Tryd.prog 67 #[.pointer (some ⟨R, 0, none⟩)] w (RaS B R C w (brP (C.drop k) X)) := by
  obtain ⟨i0, hi0, hz0, hz1, hz2⟩ := info_parts infoRG
  have hB := sd_lt h
  have hC4 := h.1.2.2
  have hs := sd_small h
  have E0 : ∃ (nt : Bool) (k1 : Nat), k ≤ k1 ∧ ClE C k X nt false k1 [] ∧ Calls Tryd.prog 58 #[.pointer (some ⟨R, 0, none⟩), .int .i64 94] w fun e w' => e = .returned (.bool nt) ∧ SD (fun j => B ≤ j ∧ j < w.heap.size) B R w' C k1 false X ∧ Kp (fun j => j = R) w w' := by
    by_cases e : (C.drop k).head? = some 94
    · have e2 := tail_cons e
      obtain ⟨-, e3, hlt⟩ := drop_at e2
      refine ⟨true, k + 1, by omega, .inl ⟨rfl, by simp; omega, (C.drop k).length + 1, ?_, ?_⟩, s_isY B R C k 94 _ X w hs e2⟩
      · simp; omega
      · unfold brP
        rw [if_pos e, decide_eq_true e, e3]
        rfl
    · refine ⟨false, k, Nat.le_refl _, .inl ⟨rfl, by simp; omega, (C.drop k).length + 1, Nat.le_refl _, ?_⟩, s_isN B R C k 94 X w hs e⟩
      unfold brP
      rw [if_neg e, decide_eq_false e]
      rfl
  obtain ⟨nt, k1, hk1, hE, hT⟩ := E0
  have HT := hide hT
  have HE := hide hE
  have HS := hide hs
  clear h hs hT hE
  go_enter Tryd.func67, Tryd.ntmps67
  go_wp2_with fail
  refine HT.out.mono ?_
  rintro e w1 ⟨rfl, h1, q1⟩
  have hsz1 := q1.size
  have bA := (Below.refl w1.heap.size w1).alloc (Nat.le_refl _) (.cells #[.int .i64 2, .bool nt, .slice none 0 0, .int .i64 0, .int .i64 0, .int .i64 0, .int .i64 0] 43)
  have HBK : Hid (BS B R w1.heap.size w.heap.size (w1.alloc (.cells #[.int .i64 2, .bool nt, .slice none 0 0, .int .i64 0, .int .i64 0, .int .i64 0, .int .i64 0] 43)) C k1 false X nt none [] 0) := hide ⟨sd_bl h1 bA, heap_alloc_new w1 _, World.ownsRow_nil _ _ _ _, fun k hk => (by cases hk), hsz1, hB⟩
  have HB1 : Hid (Below B w (w1.alloc (.cells #[.int .i64 2, .bool nt, .slice none 0 0, .int .i64 0, .int .i64 0, .int .i64 0, .int .i64 0] 43))) := hide ((sd_kpB HS.out q1).trans (bA.mono (by omega)))
  obtain ⟨N, hN⟩ : ∃ N, w1.heap.size = N := ⟨_, rfl⟩
  rw [hN] at HBK
  clear h1 q1 HT HS bA
  go_wp2_with fail
  clear hN hsz1
  go_loopw [] (fun wr => ∃ (kl : Nat) (bd : Bool) (ra : Option Addr) (L : List (Int × Int)) (rc : Nat), Hid (BS B R N w.heap.size wr C kl bd X nt ra L rc) ∧ Hid (Below B w wr) ∧ Hid (ClE C k X nt bd kl L)) (fun wr => msS R C.length wr)
  case atStart => exact ⟨k1, false, none, [], 0, HBK, HB1, HE⟩
  case round =>
    clear HBK HB1 HE
    obtain ⟨kl, bd, ra, L, rc, HBK, HB, HE⟩ := hrel
    cases bd
    case true =>
      have E : Hid (brP (C.drop k) X = none) := hide (by rcases HE.out with ⟨h, -⟩ | ⟨-, -, h⟩; cases h; exact h)
      obtain ⟨_, _, _, _, ⟨c0, c1, c2, c3⟩, f, -⟩ := sd_cells HBK.out.rd
      have f2 := f 2
      clear f HE
      have HB9 := hide (HB.out.trans (sd_kpB HBK.out.rd (kp_r _ R 2 (.bool true))))
      have HS9 := hide (sd_wide (sd_b HBK.out.rd true))
      go_wp2
      go_ret
      exact .inr ⟨⟨0, kl, X, rfl, HS9.out⟩, fun u' X' h9 => (by rw [E.out] at h9; cases h9), HB9.out⟩
    case false =>
      obtain ⟨hlen, f, hE⟩ : (C.length - kl + L.length ≤ 400) ∧ ∃ f, BrE (C.drop k) X nt f (C.drop kl) L := by
        rcases HE.out with ⟨-, h⟩ | ⟨h, -⟩
        · exact h
        · cases h
      obtain ⟨f, rfl⟩ : ∃ g, f = g + 1 := ⟨f - 1, by have := hE.1; omega⟩
      have HE := hide hE
      have hkl := HBK.out.rd.1.2.1
      clear hE
      have hms := msS_no HBK.out.rd
      obtain ⟨_, _, _, _, ⟨c0, c1, c2, c3⟩, ff, -⟩ := sd_cells HBK.out.rd
      clear ff c0 c1 c3
      by_cases e1 : (C.drop kl).head? = some 93
      · have e2 := tail_cons e1
        obtain ⟨-, e3, hlt⟩ := drop_at e2
        have E : Hid (brP (C.drop k) X = some (C.drop (kl + 1), X ++ [clN nt L])) := hide (by rw [HE.out.2, brF, if_pos e1, e3])
        have HT := hide (s_isY B R C kl 93 _ X wr HBK.out.rd e2)
        clear HE e1 e2 e3
        go_wp2_with fail
        refine HT.out.mono ?_
        rintro e w2 ⟨rfl, h2, q2⟩
        have HBK2 := hide (bs_r HBK.out q2 h2)
        have HB2 := hide (HB.out.trans (sd_kpB HBK.out.rd q2))
        obtain ⟨⟨n0, n1, n2, n3, n4, n5, n6⟩, nf⟩ := bk_cells HBK2.out.nd
        obtain ⟨_, _, _, _, ⟨-, -, d2, -⟩, ff, -⟩ := sd_cells h2
        have CN := hide (s_nodeok 2 nt ra L.length rc 0 0 0 0 (fun i => (L[i]?.getD (0, 0)).1) (fun i => (L[i]?.getD (0, 0)).2) w2 (by unfold maxLen; omega) (rng_own HBK2.out.ow))
        have hnd : ndOk (clN nt L) = nodeB 2 nt L.length (fun i => (L[i]?.getD (0, 0)).1) (fun i => (L[i]?.getD (0, 0)).2) 0 0 0 0 := rfl
        rw [← hnd] at CN
        have ff2 := ff 2
        clear h2 q2 HT HBK hnd ff c2
        cases hok : ndOk (clN nt L)
        · rw [hok] at CN
          have HK := hide hok
          clear hok
          go_wp2_with fail
          refine CN.out.mono ?_
          rintro e w3 ⟨rfl, hb3⟩
          have HBK3 := hide (bs_bl HBK2.out hb3)
          have HB3 := hide (HB2.out.trans (hb3.mono (sd_lt HBK2.out.rd)))
          obtain ⟨_, _, _, _, ⟨-, -, d2', -⟩, ff, -⟩ := sd_cells HBK3.out.rd
          have ff3 := ff 2
          have HB9 := hide (HB3.out.trans (sd_kpB HBK3.out.rd (kp_r _ R 2 (.bool true))))
          have HS9 := hide (sd_wide (sd_b HBK3.out.rd true))
          clear hb3 ff
          go_wp2
          go_ret
          exact .inr ⟨⟨0, kl + 1, X, rfl, HS9.out⟩, fun u' X' h9 => (by rw [E.out] at h9; cases h9; exact .inr ⟨_, by simp, HK.out⟩), HB9.out⟩
        · rw [hok] at CN
          clear hok
          go_wp2_with fail
          refine CN.out.mono ?_
          rintro e w3 ⟨rfl, hb3⟩
          have HBK3 := hide (bs_bl HBK2.out hb3)
          have HB3 := hide (HB2.out.trans (hb3.mono (sd_lt HBK2.out.rd)))
          obtain ⟨⟨n0', n1', n2', n3', n4', n5', n6'⟩, nf'⟩ := bk_cells HBK3.out.nd
          have HA := hide (s_add B R C (kl + 1) X (clN nt L) ra rc w3 hX (by show L.length ≤ 500; omega) HBK3.out.rd (fun j hj => hj.1) HBK3.out.ow (fun k hk => by have h9 := HBK3.out.hi k hk; exact ⟨Nat.le_trans hB h9, fun h10 => by have := h10.2; omega⟩))
          clear hb3 n0 n1 n2 n3 n4 n5 n6 nf
          go_wp2_with fail
          refine HA.out.mono ?_
          rintro e w4 ⟨rfl, h4, b4⟩
          have H4 := hide h4
          have HB4 := hide (HB3.out.trans b4)
          clear h4 b4 HA
          go_wp2
          go_ret
          by_cases hb : 120 < X.length + 1
          · refine .inr ⟨⟨X.length, kl + 1, X ++ [clN nt L], rfl, ?_⟩, fun u' X' h9 => (by rw [E.out] at h9; cases h9; exact .inl (by simp; omega)), HB4.out⟩
            have := H4.out
            rw [decide_eq_true hb] at this
            exact this
          · refine .inl ⟨kl + 1, X ++ [clN nt L], E.out, by simp; omega, by simp, ?_, HB4.out⟩
            have := H4.out
            rw [decide_eq_false hb] at this
            exact this
      · have HT := hide (s_isN B R C kl 93 X wr HBK.out.rd e1)
        go_wp2_with fail
        refine HT.out.mono ?_
        rintro e w2 ⟨rfl, h2, q2⟩
        have HBK2 := hide (bs_r HBK.out q2 h2)
        have HB2 := hide (HB.out.trans (sd_kpB HBK.out.rd q2))
        clear q2 HT HBK HB c2
        rcases hn : inP (C.drop kl) with _ | ⟨a, u1⟩
        · have E : Hid (brP (C.drop k) X = none) := hide (by rw [HE.out.2, brF, if_neg e1, hn])
          have HI := hide (ch_N hn h2)
          clear HE e1 hn h2
          go_wp2_with fail
          refine HI.out.mono ?_
          rintro e w3 ⟨v, k3, rfl, h3, q3⟩
          have HBK3 := hide (bs_r HBK2.out q3 h3)
          have HB3 := hide (HB2.out.trans (sd_kpB HBK2.out.rd q3))
          have HJ := hide (s_isB B R C k3 45 X w3 h3)
          clear h3 q3 HBK2 HB2 HI
          go_wp2_with fail
          refine HJ.out.mono ?_
          rintro e w4 ⟨rfl, h4, q4⟩
          have HBK4 := hide (bs_r HBK3.out q4 h4)
          have HB4 := hide (HB3.out.trans (sd_kpB HBK3.out.rd q4))
          obtain ⟨⟨n0, n1, n2, n3, n4, n5, n6⟩, nf⟩ := bk_cells HBK4.out.nd
          have HOW := hide HBK4.out.ow
          obtain ⟨m, hm⟩ : ∃ m, L.length = m := ⟨_, rfl⟩
          have HM := hide hm
          have hm4 : m ≤ 400 := by omega
          have hm5 : L.length ≤ 400 := by omega
          rw [hm] at n2 HOW
          clear h4 q4 HJ HBK3 HB3 n0 n1 n3 n4 n5 n6 hm
          go_wp2_with (at_builtin; refine wpList_append_lies _ (by rfl) (.tmp 27) (.tmp 31) 41 (by rfl) 0 46 i0 _ 2 16 Tryd.underlying41 hi0 hz0 hz1 hz2 rfl (by omega) (.slice ra m rc) m (prV L) (by rfl) (HOW.out.alloc _) ⟨w4.heap.size, 0, none⟩ 1 1 [.int .i64 v, .int .i64 v] (by rfl) (by rfl) (World.news_of_block (cs := #[.int .i64 v, .int .i64 v]) (t := 46) (fr := (0, 0)) (heap_alloc_new w4 _)) (by simp [Value.oneCell']) (by omega) (by unfold maxLen; omega) (by omega) (by simp <;> omega) (w4.heap.size + 1) (by simp) ?_; intro gg cap' w9 hown9 hgrow9 hat9 hlt9; rw [← HM.out] at hown9 hgrow9 hat9 ⊢; obtain ⟨hc9, hf9, h9, hb9⟩ := bs_app HBK4.out hown9 hgrow9 hat9; have H9 := hide h9; have HB9 := hide (HB4.out.trans hb9); clear hown9 hgrow9 hat9 h9 hb9)
          go_roundw
          case rel => exact ⟨k3, true, some ⟨gg, 0, none⟩, L ++ [(v, v)], cap', H9, HB9, hide (.inr ⟨rfl, by simp; omega, E.out⟩)⟩
          case measure => rw [msS_bad H9.out.rd, hms]; omega
        · have hl1 := in_len hn
          have HI := hide (ch_Y hn h2)
          have HE1 : Hid (brP (C.drop k) X = match (if u1.head? = some 45 then (match inP u1.tail with
        | none => none
        | some (b, u2) => brF f u2 (L ++ [(a, b)]))
      else brF f u1 (L ++ [(a, a)])) with
          | none => none
          | some (r, L') => some (r, X ++ [clN nt L'])) := hide (by rw [HE.out.2, brF, if_neg e1, hn]; rfl)
          have hf := HE.out.1
          simp only [List.length_drop] at hf hl1
          clear HE e1 hn h2
          go_wp2_with fail
          refine HI.out.mono ?_
          rintro e w3 ⟨k3, hu1, hk3, rfl, h3, q3⟩
          subst hu1
          simp only [List.length_drop] at hl1
          have hk3l := h3.1.2.1
          have HBK3 := hide (bs_r HBK2.out q3 h3)
          have HB3 := hide (HB2.out.trans (sd_kpB HBK2.out.rd q3))
          clear q3 HI HBK2 HB2
          by_cases e2 : (C.drop k3).head? = some 45
          · have e4 := tail_cons e2
            obtain ⟨-, e5, hlt5⟩ := drop_at e4
            have HT := hide (s_isY B R C k3 45 _ X w3 h3 e4)
            have HE2 : Hid (brP (C.drop k) X = match (match inP (C.drop (k3 + 1)) with
        | none => none
        | some (b, u2) => brF f u2 (L ++ [(a, b)])) with
          | none => none
          | some (r, L') => some (r, X ++ [clN nt L'])) := hide (by rw [HE1.out, if_pos e2, e5])
            clear h3 HE1 e2 e4 e5
            go_wp2_with fail
            refine HT.out.mono ?_
            rintro e w4 ⟨rfl, h4, q4⟩
            have HBK4 := hide (bs_r HBK3.out q4 h4)
            have HB4 := hide (HB3.out.trans (sd_kpB HBK3.out.rd q4))
            clear q4 HT HBK3 HB3
            rcases hn2 : inP (C.drop (k3 + 1)) with _ | ⟨b, u2⟩
            · have E : Hid (brP (C.drop k) X = none) := hide (by rw [HE2.out, hn2])
              have HI := hide (ch_N hn2 h4)
              clear h4 HE2 hn2
              go_wp2_with fail
              refine HI.out.mono ?_
              rintro e w5 ⟨v, k5, rfl, h5, q5⟩
              have HBK5 := hide (bs_r HBK4.out q5 h5)
              have HB5 := hide (HB4.out.trans (sd_kpB HBK4.out.rd q5))
              obtain ⟨⟨n0, n1, n2, n3, n4, n5, n6⟩, nf⟩ := bk_cells HBK5.out.nd
              have HOW := hide HBK5.out.ow
              obtain ⟨m, hm⟩ : ∃ m, L.length = m := ⟨_, rfl⟩
              have HM := hide hm
              have hm4 : m ≤ 400 := by omega
              have hm5 : L.length ≤ 400 := by omega
              rw [hm] at n2 HOW
              clear h5 q5 HI HBK4 HB4 n0 n1 n3 n4 n5 n6 hm
              go_wp2_with (at_builtin; refine wpList_append_lies _ (by rfl) (.tmp 27) (.tmp 31) 41 (by rfl) 0 46 i0 _ 2 16 Tryd.underlying41 hi0 hz0 hz1 hz2 rfl (by omega) (.slice ra m rc) m (prV L) (by rfl) (HOW.out.alloc _) ⟨w5.heap.size, 0, none⟩ 1 1 [.int .i64 a, .int .i64 v] (by rfl) (by rfl) (World.news_of_block (cs := #[.int .i64 a, .int .i64 v]) (t := 46) (fr := (0, 0)) (heap_alloc_new w5 _)) (by simp [Value.oneCell']) (by omega) (by unfold maxLen; omega) (by omega) (by simp <;> omega) (w5.heap.size + 1) (by simp) ?_; intro gg cap' w9 hown9 hgrow9 hat9 hlt9; rw [← HM.out] at hown9 hgrow9 hat9 ⊢; obtain ⟨hc9, hf9, h9, hb9⟩ := bs_app HBK5.out hown9 hgrow9 hat9; have H9 := hide h9; have HB9 := hide (HB5.out.trans hb9); clear hown9 hgrow9 hat9 h9 hb9)
              go_roundw
              case rel => exact ⟨k5, true, some ⟨gg, 0, none⟩, L ++ [(a, v)], cap', H9, HB9, hide (.inr ⟨rfl, by simp; omega, E.out⟩)⟩
              case measure => rw [msS_bad H9.out.rd, hms]; omega
            · have hl2 := in_len hn2
              have HE3 : Hid (brP (C.drop k) X = match brF f u2 (L ++ [(a, b)]) with
              | none => none
              | some (r, L') => some (r, X ++ [clN nt L'])) := hide (by rw [HE2.out, hn2])
              have HI := hide (ch_Y hn2 h4)
              clear h4 HE2 hn2
              go_wp2_with fail
              refine HI.out.mono ?_
              rintro e w5 ⟨k5, hu2, hk5, rfl, h5, q5⟩
              subst hu2
              simp only [List.length_drop] at hl2
              have hk5l := h5.1.2.1
              have HBK5 := hide (bs_r HBK4.out q5 h5)
              have HB5 := hide (HB4.out.trans (sd_kpB HBK4.out.rd q5))
              obtain ⟨⟨n0, n1, n2, n3, n4, n5, n6⟩, nf⟩ := bk_cells HBK5.out.nd
              have HOW := hide HBK5.out.ow
              obtain ⟨m, hm⟩ : ∃ m, L.length = m := ⟨_, rfl⟩
              have HM := hide hm
              have hm4 : m ≤ 400 := by omega
              have hm5 : L.length ≤ 400 := by omega
              rw [hm] at n2 HOW
              clear h5 q5 HI HBK4 HB4 n0 n1 n3 n4 n5 n6 hm
              go_wp2_with (at_builtin; refine wpList_append_lies _ (by rfl) (.tmp 27) (.tmp 31) 41 (by rfl) 0 46 i0 _ 2 16 Tryd.underlying41 hi0 hz0 hz1 hz2 rfl (by omega) (.slice ra m rc) m (prV L) (by rfl) (HOW.out.alloc _) ⟨w5.heap.size, 0, none⟩ 1 1 [.int .i64 a, .int .i64 b] (by rfl) (by rfl) (World.news_of_block (cs := #[.int .i64 a, .int .i64 b]) (t := 46) (fr := (0, 0)) (heap_alloc_new w5 _)) (by simp [Value.oneCell']) (by omega) (by unfold maxLen; omega) (by omega) (by simp <;> omega) (w5.heap.size + 1) (by simp) ?_; intro gg cap' w9 hown9 hgrow9 hat9 hlt9; rw [← HM.out] at hown9 hgrow9 hat9 ⊢; obtain ⟨hc9, hf9, h9, hb9⟩ := bs_app HBK5.out hown9 hgrow9 hat9; have H9 := hide h9; have HB9 := hide (HB5.out.trans hb9); clear hown9 hgrow9 hat9 h9 hb9)
              go_roundw
              case rel => exact ⟨k5, false, some ⟨gg, 0, none⟩, L ++ [(a, b)], cap', H9, HB9, hide (.inl ⟨rfl, by simp; omega, f, by simp; omega, HE3.out⟩)⟩
              case measure => rw [msS_no H9.out.rd, hms]; omega
          · have HT := hide (s_isN B R C k3 45 X w3 h3 e2)
            have HE3 : Hid (brP (C.drop k) X = match brF f (C.drop k3) (L ++ [(a, a)]) with
              | none => none
              | some (r, L') => some (r, X ++ [clN nt L'])) := hide (by rw [HE1.out, if_neg e2])
            clear h3 HE1 e2
            go_wp2_with fail
            refine HT.out.mono ?_
            rintro e w4 ⟨rfl, h4, q4⟩
            have HBK4 := hide (bs_r HBK3.out q4 h4)
            have HB4 := hide (HB3.out.trans (sd_kpB HBK3.out.rd q4))
            obtain ⟨⟨n0, n1, n2, n3, n4, n5, n6⟩, nf⟩ := bk_cells HBK4.out.nd
            have HOW := hide HBK4.out.ow
            obtain ⟨m, hm⟩ : ∃ m, L.length = m := ⟨_, rfl⟩
            have HM := hide hm
            have hm4 : m ≤ 400 := by omega
            have hm5 : L.length ≤ 400 := by omega
            rw [hm] at n2 HOW
            clear h4 q4 HT HBK3 HB3 n0 n1 n3 n4 n5 n6 hm
            go_wp2_with (at_builtin; refine wpList_append_lies _ (by rfl) (.tmp 27) (.tmp 31) 41 (by rfl) 0 46 i0 _ 2 16 Tryd.underlying41 hi0 hz0 hz1 hz2 rfl (by omega) (.slice ra m rc) m (prV L) (by rfl) (HOW.out.alloc _) ⟨w4.heap.size, 0, none⟩ 1 1 [.int .i64 a, .int .i64 a] (by rfl) (by rfl) (World.news_of_block (cs := #[.int .i64 a, .int .i64 a]) (t := 46) (fr := (0, 0)) (heap_alloc_new w4 _)) (by simp [Value.oneCell']) (by omega) (by unfold maxLen; omega) (by omega) (by simp <;> omega) (w4.heap.size + 1) (by simp) ?_; intro gg cap' w9 hown9 hgrow9 hat9 hlt9; rw [← HM.out] at hown9 hgrow9 hat9 ⊢; obtain ⟨hc9, hf9, h9, hb9⟩ := bs_app HBK4.out hown9 hgrow9 hat9; have H9 := hide h9; have HB9 := hide (HB4.out.trans hb9); clear hown9 hgrow9 hat9 h9 hb9)
            go_roundw
            case rel => exact ⟨k3, false, some ⟨gg, 0, none⟩, L ++ [(a, a)], cap', H9, HB9, hide (.inl ⟨rfl, by simp; omega, f, by simp; omega, HE3.out⟩)⟩
            case measure => rw [msS_no H9.out.rd, hms]; omega
end Go.Proofs.YtepommmmmfaihaaDoor
