/-
  Texts put together: RrH, RsH.
-/
import Derived.Test.YtepommmmmfaihaaGreatDoorB45
import Derived.Test.YtepommmmmfaihaaGreatDoorB42
import Derived.Test.YtepommmmmfaihaaGreatDoorB43
import Derived.Test.YtepommmmmfaihaaGreatDoorB44
/-
  Contracts of the program's reader of expressions: a piece.
-/
namespace Go.Proofs.YtepommmmmfaihaaGreatDoor
open Go.RowKit Go.Joins
set_option linter.unusedVariables false
set_option linter.unusedSimpArgs false
def CkN (w : World) (N : Nat) (a mn mx : Int) : Prop := w.heap[N]? = some (.cells #[.int .i64 5, .bool false, .slice none 0 0, .int .i64 a, .int .i64 0, .int .i64 mn, .int .i64 mx] 69 (0, 0))
/-- While a count is read: the reader, the node in block N. -/
structure CK (B R N M : Nat) (w : World) (u : List Int) (X : List Nd) (a mn mx : Int) : Prop where
  rd : RD (fun j => B ≤ j ∧ j < M) B R w u X
  nd : CkN w N a mn mx
  hN : M ≤ N
  hB : B ≤ M
section
variable {B R N M : Nat} {w w' : World} {u u' : List Int} {X : List Nd} {a mn mx : Int}
theorem ck_cells (h : CkN w N a mn mx) : (w.cell? ⟨N, 0, none⟩ = some (.int .i64 5) ∧ w.cell? ⟨N, 1, none⟩ = some (.bool false) ∧ w.cell? ⟨N, 2, none⟩ = some (.slice none 0 0) ∧ w.cell? ⟨N, 3, none⟩ = some (.int .i64 a) ∧ w.cell? ⟨N, 4, none⟩ = some (.int .i64 0) ∧ w.cell? ⟨N, 5, none⟩ = some (.int .i64 mn) ∧ w.cell? ⟨N, 6, none⟩ = some (.int .i64 mx)) ∧ w.frozen? ⟨N, 5, none⟩ = false ∧ w.frozen? ⟨N, 6, none⟩ = false := by
  have e : ∀ i, w.cell? ⟨N, i, none⟩ = (#[.int .i64 5, .bool false, .slice none 0 0, .int .i64 a, .int .i64 0, .int .i64 mn, .int .i64 mx] : Array Value)[i]? := fun i => by rw [cell_of_row w N i _ _ (0, 0) h]
  exact ⟨⟨e 0, e 1, e 2, e 3, e 4, e 5, e 6⟩, frozen_of_row w N 5 _ _ h, frozen_of_row w N 6 _ _ h⟩
theorem ck_neR (h : CkN w N a mn mx) {S : Nat → Prop} (hr : RD S B R w u X) : N ≠ R := by
  rintro rfl
  obtain ⟨_, _, _, _, _, hx, _⟩ := hr
  unfold XR at hx
  rw [h] at hx
  simp only [Option.some.injEq, Obj.cells.injEq] at hx
  exact absurd hx.2.1 (by decide)
theorem ck_lt (h : CkN w N a mn mx) : N < w.heap.size := (Array.getElem?_eq_some_iff.1 h).1
theorem ck_r (h : CK B R N M w u X a mn mx) (k : Kp (fun j => j = R) w w') (hr : RD (fun j => B ≤ j ∧ j < M) B R w' u' X) : CK B R N M w' u' X a mn mx :=
  ⟨hr, (k.block N (ck_lt h.nd) (ck_neR h.nd h.rd)).trans h.nd, h.hN, h.hB⟩
theorem ck_set (h : CK B R N M w u X a mn mx) (i : Nat) (v : Value) {mn' mx' : Int} (hn : CkN (w.setCell ⟨N, i, none⟩ v) N a mn' mx') : CK B R N M (w.setCell ⟨N, i, none⟩ v) u X a mn' mx' ∧ Below B w (w.setCell ⟨N, i, none⟩ v) := by
  have ks : Kp (fun j => j = N) w (w.setCell ⟨N, i, none⟩ v) := kp_set (S := fun j => j = N) _ _ _ rfl
  have h1 := h.hN
  have h2 := h.hB
  have h3 := ck_lt h.nd
  exact ⟨⟨rd_hi h.rd ks (fun j hj => by have hj' : j = N := hj; omega) (fun e => ck_neR h.nd h.rd e.symm) h.hB, hn, h.hN, h.hB⟩, kp_below ks (by omega) (fun j hj => by have hj' : j = N := hj; omega)⟩
theorem ck_mn (h : CK B R N M w u X a mn mx) (y : Int) : CK B R N M (w.setCell ⟨N, 5, none⟩ (.int .i64 y)) u X a y mx ∧ Below B w (w.setCell ⟨N, 5, none⟩ (.int .i64 y)) := ck_set h 5 _ (heap_setCell_same w N 5 _ _ _ h.nd)
theorem ck_mx (h : CK B R N M w u X a mn mx) (y : Int) : CK B R N M (w.setCell ⟨N, 6, none⟩ (.int .i64 y)) u X a mn y ∧ Below B w (w.setCell ⟨N, 6, none⟩ (.int .i64 y)) := ck_set h 6 _ (heap_setCell_same w N 6 _ _ _ h.nd)
theorem ck_add (h : CK B R N M w u X a mn mx) (hX : X.length ≤ 5000) : Calls Tryz.prog 94 #[.pointer (some ⟨R, 0, none⟩), .agg #[.int .i64 5, .bool false, .slice none 0 0, .int .i64 a, .int .i64 0, .int .i64 mn, .int .i64 mx]] w fun e w' => e = .returned (.tuple #[]) ∧ RD (fun j => B ≤ j) B R w' u (X ++ [cnN a mn mx]) ∧ Below B w w' :=
  i_add B R u X (cnN a mn mx) none 0 w hX (by simp [cnN]) h.rd (fun j hj => hj.1) (World.ownsRow_nil _ _ _ _) (fun k hk => by cases hk)
end
set_option maxRecDepth 100000 in
set_option maxHeartbeats 8000000 in
theorem i_piece (n : Nat) (hA : AtC n) : PcC n := by
  intro B R u X w g hu hg hX h
  obtain ⟨f, rfl⟩ : ∃ f, g = f + 1 := ⟨g - 1, by omega⟩
  have HE : Hid (rdP (f + 1) u X = match rdA f u X with
    | none => none
    | some (u1, X1) => match ctP u1 with
      | none => none
      | some (none, u2) => some (u2, X1)
      | some (some m, u2) => some (u2, X1 ++ [cnN ((X1.length : Int) - 1) m.1 m.2])) := hide (by rw [rdP]; rfl)
  have HA := hide (hA B R u X w f hu (by omega) hX h)
  clear h
  rcases hr : rdA f u X with _ | ⟨u1, X1⟩
  · have E : Hid (rdP (f + 1) u X = none) := hide (by rw [HE.out, hr])
    have HN := hide (rai_none hr HA.out)
    clear HE HA hr
    go_enter Tryz.func104, Tryz.ntmps104
    go_wp2_with fail
    refine HN.out.mono ?_
    rintro e w2 ⟨⟨tv, v, rfl⟩, k2⟩
    have K2 := hide k2
    clear k2
    go_wp2
    exact ⟨rfl, rai_n E.out ⟨⟨_, _, rfl⟩, K2.out⟩⟩
  · have hsh := (rd_sh f).2.2.2.2.2 hr
    have hX1 : X1.length ≤ 4000 := by have := hsh.2.2; omega
    have HE2 : Hid (rdP (f + 1) u X = match ctP u1 with
      | none => none
      | some (none, u2) => some (u2, X1)
      | some (some m, u2) => some (u2, X1 ++ [cnN ((X1.length : Int) - 1) m.1 m.2])) := hide (by rw [HE.out, hr])
    have HN := hide (rai_some hr HA.out)
    clear HE HA hr hsh
    go_enter Tryz.func104, Tryz.ntmps104
    go_wp2_with fail
    refine HN.out.mono ?_
    rintro e w1 ⟨rfl, h1, k1⟩
    have HB1 := hide k1
    have H1 := hide h1
    have hz := rdx_lt h1
    have HL := hide (i_last B R u1 X1 w1 (by omega) h1)
    obtain ⟨aa, haa⟩ : ∃ aa, (X1.length : Int) - 1 = aa := ⟨_, rfl⟩
    have HAA := hide haa
    rw [haa] at HL HE2
    have bA := (Below.refl w1.heap.size w1).alloc (Nat.le_refl _) (.cells #[.int .i64 5, .bool false, .slice none 0 0, .int .i64 aa, .int .i64 0, .int .i64 0, .int .i64 0] 69)
    have HCK : Hid (CK B R w1.heap.size w1.heap.size (w1.alloc (.cells #[.int .i64 5, .bool false, .slice none 0 0, .int .i64 aa, .int .i64 0, .int .i64 0, .int .i64 0] 69)) u1 X1 aa 0 0) := hide ⟨rd_blA (rd_small h1) bA, heap_alloc_new w1 _, Nat.le_refl _, hz⟩
    have HB2 := hide (HB1.out.trans (bA.mono hz))
    clear h1 k1 HN bA haa
    go_wp2_with (first | (go_at_call 92; refine HL.out.mono ?_; rintro e w9 ⟨rfl, h9⟩; rw [h9]; clear h9 w9))
    obtain ⟨W, hW⟩ : ∃ W, w1.alloc (.cells #[.int .i64 5, .bool false, .slice none 0 0, .int .i64 aa, .int .i64 0, .int .i64 0, .int .i64 0] 69) = W := ⟨_, rfl⟩
    rw [hW] at HCK HB2 ⊢
    obtain ⟨N, hN⟩ : ∃ N, w1.heap.size = N := ⟨_, rfl⟩
    rw [hN] at HCK ⊢
    clear hW hN HL H1 HB1
    by_cases e1 : u1.head? = some 63
    · obtain ⟨q, rfl⟩ : ∃ q, u1 = 63 :: q := ⟨_, tail_cons e1⟩
      have E : Hid (rdP (f + 1) u X = some (q, X1 ++ [cnN aa 0 1])) := hide (by rw [HE2.out]; unfold ctP; rw [if_pos e1]; rfl)
      have HT := hide (i_takesY B R 63 q X1 W HCK.out.rd)
      clear HE2 e1
      go_wp2_with fail
      refine HT.out.mono ?_
      rintro e w2 ⟨rfl, h2, k2⟩
      have HB3 := hide (HB2.out.trans (rd_kpB HCK.out.rd k2))
      have C2 := ck_r HCK.out k2 h2
      obtain ⟨C3, b3⟩ := ck_mx C2 1
      obtain ⟨⟨n0, n1, n2, n3, n4, n5, n6⟩, f5, f6⟩ := ck_cells C2.nd
      have HB4 := hide (HB3.out.trans b3)
      have HA := hide (ck_add C3 (by omega))
      clear h2 k2 C2 C3 b3 HCK HT
      go_wp2_with fail
      refine HA.out.mono ?_
      rintro e w3 ⟨rfl, h3, k3⟩
      have H3 := hide h3
      have HB5 := hide (HB4.out.trans k3)
      clear h3 k3 HA
      go_wp2
      go_end0
      exact rai_y E.out rfl H3.out HB5.out
    · have HT1 := hide (i_takesN B R 63 u1 X1 W HCK.out.rd e1)
      by_cases e2 : u1.head? = some 42
      · obtain ⟨q, rfl⟩ : ∃ q, u1 = 42 :: q := ⟨_, tail_cons e2⟩
        have E : Hid (rdP (f + 1) u X = some (q, X1 ++ [cnN aa 0 (-1)])) := hide (by rw [HE2.out]; unfold ctP; rw [if_neg e1, if_pos e2]; rfl)
        have HT := hide (i_takesY B R 42 q X1 W HCK.out.rd)
        clear HE2 e1 e2
        go_wp2_with (first | (go_at_call_of 93 (Value.int .i64 63); refine HT1.out.mono ?_; rintro e w9 ⟨rfl, h9⟩; rw [h9]; clear h9 w9))
        refine HT.out.mono ?_
        rintro e w2 ⟨rfl, h2, k2⟩
        have HB3 := hide (HB2.out.trans (rd_kpB HCK.out.rd k2))
        have C2 := ck_r HCK.out k2 h2
        obtain ⟨C3, b3⟩ := ck_mx C2 (-1)
        obtain ⟨⟨n0, n1, n2, n3, n4, n5, n6⟩, f5, f6⟩ := ck_cells C2.nd
        have HB4 := hide (HB3.out.trans b3)
        have HA := hide (ck_add C3 (by omega))
        clear h2 k2 C2 C3 b3 HCK HT HT1
        go_wp2_with fail
        refine HA.out.mono ?_
        rintro e w3 ⟨rfl, h3, k3⟩
        have H3 := hide h3
        have HB5 := hide (HB4.out.trans k3)
        clear h3 k3 HA
        go_wp2
        go_end0
        exact rai_y E.out rfl H3.out HB5.out
      · have HT2 := hide (i_takesN B R 42 u1 X1 W HCK.out.rd e2)
        by_cases e3 : u1.head? = some 43
        · obtain ⟨q, rfl⟩ : ∃ q, u1 = 43 :: q := ⟨_, tail_cons e3⟩
          have E : Hid (rdP (f + 1) u X = some (q, X1 ++ [cnN aa 1 (-1)])) := hide (by rw [HE2.out]; unfold ctP; rw [if_neg e1, if_neg e2, if_pos e3]; rfl)
          have HT := hide (i_takesY B R 43 q X1 W HCK.out.rd)
          clear HE2 e1 e2 e3
          go_wp2_with (first | (go_at_call_of 93 (Value.int .i64 63); refine HT1.out.mono ?_; rintro e w9 ⟨rfl, h9⟩; rw [h9]; clear h9 w9) | (go_at_call_of 93 (Value.int .i64 42); refine HT2.out.mono ?_; rintro e w9 ⟨rfl, h9⟩; rw [h9]; clear h9 w9))
          refine HT.out.mono ?_
          rintro e w2 ⟨rfl, h2, k2⟩
          have HB3 := hide (HB2.out.trans (rd_kpB HCK.out.rd k2))
          have C2 := ck_r HCK.out k2 h2
          obtain ⟨C3, b3⟩ := ck_mn C2 1
          obtain ⟨C4, b4⟩ := ck_mx C3 (-1)
          obtain ⟨⟨n0, n1, n2, n3, n4, n5, n6⟩, f5, f6⟩ := ck_cells C2.nd
          have HB4 := hide ((HB3.out.trans b3).trans b4)
          have HA := hide (ck_add C4 (by omega))
          clear h2 k2 C2 C3 C4 b3 b4 HCK HT HT1 HT2
          go_wp2_with fail
          refine HA.out.mono ?_
          rintro e w3 ⟨rfl, h3, k3⟩
          have H3 := hide h3
          have HB5 := hide (HB4.out.trans k3)
          clear h3 k3 HA
          go_wp2
          go_end0
          exact rai_y E.out rfl H3.out HB5.out
        · have HT3 := hide (i_takesN B R 43 u1 X1 W HCK.out.rd e3)
          by_cases e4 : u1.head? = some 123
          · obtain ⟨q, rfl⟩ : ∃ q, u1 = 123 :: q := ⟨_, tail_cons e4⟩
            have HT := hide (i_takesY B R 123 q X1 W HCK.out.rd)
            rcases hl : lmP q with _ | ⟨⟨mn, mx⟩, q2⟩
            · have E : Hid (rdP (f + 1) u X = none) := hide (by rw [HE2.out]; unfold ctP; rw [if_neg e1, if_neg e2, if_neg e3, if_pos e4]; show (match (match lmP q with | none => none | some (m, r) => some (some m, r) : Option (Option (Int × Int) × List Int)) with | none => none | some (none, u2) => some (u2, X1) | some (some m, u2) => some (u2, X1 ++ [cnN aa m.1 m.2])) = none; rw [hl])
              clear HE2 e1 e2 e3 e4
              go_wp2_with (first | (go_at_call_of 93 (Value.int .i64 63); refine HT1.out.mono ?_; rintro e w9 ⟨rfl, h9⟩; rw [h9]; clear h9 w9) | (go_at_call_of 93 (Value.int .i64 42); refine HT2.out.mono ?_; rintro e w9 ⟨rfl, h9⟩; rw [h9]; clear h9 w9) | (go_at_call_of 93 (Value.int .i64 43); refine HT3.out.mono ?_; rintro e w9 ⟨rfl, h9⟩; rw [h9]; clear h9 w9))
              refine HT.out.mono ?_
              rintro e w2 ⟨rfl, h2, k2⟩
              have HB3 := hide (HB2.out.trans (rd_kpB HCK.out.rd k2))
              have HM : Hid (Calls Tryz.prog 123 #[.pointer (some ⟨R, 0, none⟩)] w2 (GivB B w2)) := hide (by have h9 := i_limits B R q X1 w2 h2; rw [hl] at h9; exact h9)
              clear h2 k2 hl
              go_wp2_with fail
              refine HM.out.mono ?_
              rintro e w3 ⟨⟨tv, v, rfl⟩, k3⟩
              have K3 := hide (giv_bl HB3.out ⟨⟨tv, v, rfl⟩, k3⟩)
              clear k3
              go_wp2
              exact ⟨rfl, rai_n E.out K3.out⟩
            · have E : Hid (rdP (f + 1) u X = some (q2, X1 ++ [cnN aa mn mx])) := hide (by rw [HE2.out]; unfold ctP; rw [if_neg e1, if_neg e2, if_neg e3, if_pos e4]; show (match (match lmP q with | none => none | some (m, r) => some (some m, r) : Option (Option (Int × Int) × List Int)) with | none => none | some (none, u2) => some (u2, X1) | some (some m, u2) => some (u2, X1 ++ [cnN aa m.1 m.2])) = _; rw [hl])
              clear HE2 e1 e2 e3 e4
              go_wp2_with (first | (go_at_call_of 93 (Value.int .i64 63); refine HT1.out.mono ?_; rintro e w9 ⟨rfl, h9⟩; rw [h9]; clear h9 w9) | (go_at_call_of 93 (Value.int .i64 42); refine HT2.out.mono ?_; rintro e w9 ⟨rfl, h9⟩; rw [h9]; clear h9 w9) | (go_at_call_of 93 (Value.int .i64 43); refine HT3.out.mono ?_; rintro e w9 ⟨rfl, h9⟩; rw [h9]; clear h9 w9))
              refine HT.out.mono ?_
              rintro e w2 ⟨rfl, h2, k2⟩
              have HB3 := hide (HB2.out.trans (rd_kpB HCK.out.rd k2))
              have C2 := hide (ck_r HCK.out k2 h2)
              have HM : Hid (Calls Tryz.prog 123 #[.pointer (some ⟨R, 0, none⟩)] w2 (PvA (fun j => B ≤ j ∧ j < N) B R w2 X1 (some (.tuple #[.int .i64 mn, .int .i64 mx], q2)))) := hide (by have h9 := i_limits B R q X1 w2 h2; rw [hl] at h9; exact h9)
              clear h2 k2 hl HT1 HT2 HT3 HT HCK
              go_wp2_with fail
              refine HM.out.mono ?_
              rintro e w3 ⟨rfl, h3, k3⟩
              have HB4 := hide (HB3.out.trans (rd_kpB C2.out.rd k3))
              have C3 := ck_r C2.out k3 h3
              obtain ⟨C4, b4⟩ := ck_mn C3 mn
              obtain ⟨C5, b5⟩ := ck_mx C4 mx
              obtain ⟨⟨n0, n1, n2, n3, n4, n5, n6⟩, f5, f6⟩ := ck_cells C3.nd
              have HB5 := hide ((HB4.out.trans b4).trans b5)
              have HA := hide (ck_add C5 (by omega))
              clear h3 k3 C3 C4 C5 b4 b5 C2 HM
              go_wp2_with fail
              refine HA.out.mono ?_
              rintro e w4 ⟨rfl, h4, k4⟩
              have H4 := hide h4
              have HB6 := hide (HB5.out.trans k4)
              clear h4 k4 HA
              go_wp2
              go_end0
              exact rai_y E.out rfl H4.out HB6.out
          · have HT4 := hide (i_takesN B R 123 u1 X1 W HCK.out.rd e4)
            have E : Hid (rdP (f + 1) u X = some (u1, X1)) := hide (by rw [HE2.out]; unfold ctP; rw [if_neg e1, if_neg e2, if_neg e3, if_neg e4])
            have HR : Hid (RD (fun j => B ≤ j) B R W u1 X1) := hide (by
              obtain ⟨h0, ta, tc, ad, c, h1, h2, h3, h4⟩ := HCK.out.rd
              exact ⟨h0, ta, tc, ad, c, h1, h2, xo_imp h3 (fun k _ hs => hs.1), fun k hk => (h4 k hk).1⟩)
            clear HE2 e1 e2 e3 e4
            go_wp2_with (first | (go_at_call_of 93 (Value.int .i64 63); refine HT1.out.mono ?_; rintro e w9 ⟨rfl, h9⟩; rw [h9]; clear h9 w9) | (go_at_call_of 93 (Value.int .i64 42); refine HT2.out.mono ?_; rintro e w9 ⟨rfl, h9⟩; rw [h9]; clear h9 w9) | (go_at_call_of 93 (Value.int .i64 43); refine HT3.out.mono ?_; rintro e w9 ⟨rfl, h9⟩; rw [h9]; clear h9 w9) | (go_at_call_of 93 (Value.int .i64 123); refine HT4.out.mono ?_; rintro e w9 ⟨rfl, h9⟩; rw [h9]; clear h9 w9))
            go_end0
            exact rai_y E.out rfl HR.out HB2.out
end Go.Proofs.YtepommmmmfaihaaGreatDoor

/-
  Contracts of the specification's reader of expressions: an atom, a piece.
-/
namespace Go.Proofs.YtepommmmmfaihaaGreatDoor
open Go.RowKit Go.Joins
set_option linter.unusedVariables false
set_option linter.unusedSimpArgs false
theorem s_atom (n : Nat) (hC : ∀ m, m < n → ChS m) : AtS n := by
  intro B R C k X w g hlt hn hg hX h
  obtain ⟨f, rfl⟩ : ∃ f, g = f + 1 := ⟨g - 1, by omega⟩
  have hr : C.drop k = C[k] :: C.drop (k + 1) := List.drop_eq_getElem_cons hlt
  rw [hr]
  by_cases e1 : C[k] = 40
  · exact s_atom40 n hC B R C k X w f hlt hn hg hX h _ hr e1
  by_cases e2 : C[k] = 91
  · exact s_atom91 n hC B R C k X w f hlt hn hg hX h _ hr e1 e2
  by_cases e3 : C[k] = 46
  · exact s_atom46 n hC B R C k X w f hlt hn hg hX h _ hr e1 e2 e3
  by_cases e4 : C[k] = 92
  · exact s_atom92 n hC B R C k X w f hlt hn hg hX h _ hr e1 e2 e3 e4
  · exact s_atomel n hC B R C k X w f hlt hn hg hX h _ hr e1 e2 e3 e4
/-- While a count is read: the reader, the node in block N. -/
structure CS (B R N M : Nat) (w : World) (C : List Int) (k : Nat) (bd : Bool) (X : List Nd) (a mn mx : Int) : Prop where
  rd : SD (fun j => B ≤ j ∧ j < M) B R w C k bd X
  nd : CkN w N a mn mx
  hN : M ≤ N
  hB : B ≤ M
section
variable {B R N M : Nat} {w w' : World} {C : List Int} {k k' : Nat} {bd bd' : Bool} {X : List Nd} {a mn mx : Int}
theorem cs_neR (h : CkN w N a mn mx) {S : Nat → Prop} (hr : SD S B R w C k bd X) : N ≠ R := by
  rintro rfl
  obtain ⟨_, _, _, _, _, hx, _⟩ := hr
  unfold SX at hx
  rw [h] at hx
  simp only [Option.some.injEq, Obj.cells.injEq] at hx
  exact absurd hx.2.1 (by decide)
theorem cs_r (h : CS B R N M w C k bd X a mn mx) (q : Kp (fun j => j = R) w w') (hr : SD (fun j => B ≤ j ∧ j < M) B R w' C k' bd' X) : CS B R N M w' C k' bd' X a mn mx :=
  ⟨hr, (q.block N (ck_lt h.nd) (cs_neR h.nd h.rd)).trans h.nd, h.hN, h.hB⟩
theorem cs_bl (h : CS B R N M w C k bd X a mn mx) (q : Below w.heap.size w w') : CS B R N M w' C k bd X a mn mx := ⟨sd_bl h.rd q, (q.block N (ck_lt h.nd)).trans h.nd, h.hN, h.hB⟩
theorem cs_b (h : CS B R N M w C k bd X a mn mx) (b : Bool) : CS B R N M (w.setCell ⟨R, 2, none⟩ (.bool b)) C k b X a mn mx ∧ Below B w (w.setCell ⟨R, 2, none⟩ (.bool b)) := ⟨cs_r h (kp_r _ R 2 _) (sd_b h.rd b), sd_kpB h.rd (kp_r _ R 2 _)⟩
theorem cs_set (h : CS B R N M w C k bd X a mn mx) (i : Nat) (v : Value) {mn' mx' : Int} (hn : CkN (w.setCell ⟨N, i, none⟩ v) N a mn' mx') : CS B R N M (w.setCell ⟨N, i, none⟩ v) C k bd X a mn' mx' ∧ Below B w (w.setCell ⟨N, i, none⟩ v) := by
  have ks : Kp (fun j => j = N) w (w.setCell ⟨N, i, none⟩ v) := kp_set (S := fun j => j = N) _ _ _ rfl
  have h1 := h.hN
  have h2 := h.hB
  have h3 := ck_lt h.nd
  exact ⟨⟨sd_hi h.rd ks (fun j hj => by have hj' : j = N := hj; omega) (fun e => cs_neR h.nd h.rd e.symm) h.hB, hn, h.hN, h.hB⟩, kp_below ks (by omega) (fun j hj => by have hj' : j = N := hj; omega)⟩
theorem cs_mn (h : CS B R N M w C k bd X a mn mx) (y : Int) : CS B R N M (w.setCell ⟨N, 5, none⟩ (.int .i64 y)) C k bd X a y mx ∧ Below B w (w.setCell ⟨N, 5, none⟩ (.int .i64 y)) := cs_set h 5 _ (heap_setCell_same w N 5 _ _ _ h.nd)
theorem cs_mx (h : CS B R N M w C k bd X a mn mx) (y : Int) : CS B R N M (w.setCell ⟨N, 6, none⟩ (.int .i64 y)) C k bd X a mn y ∧ Below B w (w.setCell ⟨N, 6, none⟩ (.int .i64 y)) := cs_set h 6 _ (heap_setCell_same w N 6 _ _ _ h.nd)
theorem cs_add (h : CS B R N M w C k false X a mn mx) (hX : X.length ≤ 120) : Calls Tryz.prog 76 #[.pointer (some ⟨R, 0, none⟩), .agg #[.int .i64 5, .bool false, .slice none 0 0, .int .i64 a, .int .i64 0, .int .i64 mn, .int .i64 mx]] w fun e w' => e = .returned (.int .i64 (X.length : Int)) ∧ SD (fun j => B ≤ j) B R w' C k (decide (120 < X.length + 1)) (X ++ [cnN a mn mx]) ∧ Below B w w' :=
  s_add B R C k X (cnN a mn mx) none 0 w hX (by simp [cnN]) h.rd (fun j hj => hj.1) (World.ownsRow_nil _ _ _ _) (fun k hk => by cases hk)
theorem cs_ok (a mn mx : Int) (w : World) : Calls Tryz.prog 47 #[.agg #[.int .i64 5, .bool false, .slice none 0 0, .int .i64 a, .int .i64 0, .int .i64 mn, .int .i64 mx]] w fun e w' => e = .returned (.bool (ndOk (cnN a mn mx))) ∧ Below w.heap.size w w' :=
  s_nodeok 5 false none 0 0 a 0 mn mx (fun i => (([] : List (Int × Int))[i]?.getD (0, 0)).1) (fun i => (([] : List (Int × Int))[i]?.getD (0, 0)).2) w (Nat.zero_le _) (fun h0 => absurd h0 (Nat.lt_irrefl 0))
end
end Go.Proofs.YtepommmmmfaihaaGreatDoor
