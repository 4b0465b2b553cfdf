/-
  Texts put together: RrC, RrE.
-/
import Derived.Test.YtibagghpimadfaaDoorQ12
import Derived.Test.YtibagghpimadfaaDoorQ8
/-
  Contracts of the program's reader of expressions: limits, escaped characters, characters within brackets.
-/
namespace Go.Proofs.YtibagghpimadfaaDoor
open Go.RowKit Go.Joins
set_option linter.unusedVariables false
set_option linter.unusedSimpArgs false
def lv (o : Option ((Int × Int) × List Int)) : Option (Value × List Int) := o.map fun p => (.tuple #[.int .i64 p.1.1, .int .i64 p.1.2], p.2)
theorem pva_none {S : Nat → Prop} {B R : Nat} {w : World} {X : List Nd} {e : Ending} {w' : World} (h : GivB B w e w') : PvA S B R w X none e w' := h
theorem i_numY {S : Nat → Prop} {B R : Nat} {u : List Int} {X : List Nd} {w : World} {n : Int} {r : List Int} (hn : nmP u = some (n, r)) (h : RD S B R w u X) : Calls Tryd.prog 103 #[.pointer (some ⟨R, 0, none⟩)] w fun e w' => e = .returned (.int .i64 n) ∧ RD S B R w' r X ∧ Kp (fun j => j = R) w w' := by
  have := i_number B R u X w h
  rw [hn] at this
  exact this
theorem i_numN {S : Nat → Prop} {B R : Nat} {u : List Int} {X : List Nd} {w : World} (hn : nmP u = none) (h : RD S B R w u X) : Calls Tryd.prog 103 #[.pointer (some ⟨R, 0, none⟩)] w (GivB B w) := by
  have := i_number B R u X w h
  rw [hn] at this
  exact this
set_option maxHeartbeats 4000000 in
theorem i_limits {S : Nat → Prop} (B R : Nat) (u : List Int) (X : List Nd) (w : World) (h : RD S B R w u X) : Calls Tryd.prog 89 #[.pointer (some ⟨R, 0, none⟩)] w (PvA S B R w X (lv (lmP u))) := by
  have H0 := hide h
  rcases hn : nmP u with _ | ⟨n, r⟩
  · have e : lmP u = none := by unfold lmP; rw [hn]
    rw [e]
    have HA := hide (i_numN hn h)
    clear h hn e
    go_enter Tryd.func89, Tryd.ntmps89
    go_wp2_with fail
    refine HA.out.mono ?_
    rintro e w2 ⟨⟨tv, v, rfl⟩, k2⟩
    have K2 := hide k2
    clear k2
    go_wp2
    exact ⟨rfl, ⟨_, _, rfl⟩, K2.out⟩
  · have HA := hide (i_numY hn h)
    have E0 : Hid (lmP u = if r.head? = some 125 then some ((n, n), r.tail) else if r.head? = some 44 then (if r.tail.head? = some 125 then some ((n, -1), r.tail.tail) else match nmP r.tail with
      | none => none
      | some (m, r2) => if r2.head? = some 125 then some ((n, m), r2.tail) else none)
    else none) := hide (by unfold lmP; rw [hn]; rfl)
    clear h hn
    go_enter Tryd.func89, Tryd.ntmps89
    go_wp2_with fail
    refine HA.out.mono ?_
    rintro e w1 ⟨rfl, h1, k1⟩
    have K1 := hide k1
    clear HA k1
    by_cases e1 : r.head? = some 125
    · obtain ⟨q, rfl⟩ : ∃ q, r = 125 :: q := ⟨_, tail_cons e1⟩
      have HT := hide (i_takesY B R 125 q X w1 h1)
      have E1 : Hid (lmP u = some ((n, n), q)) := hide (by rw [E0.out, if_pos e1]; rfl)
      clear h1 E0 e1
      go_wp2_with fail
      refine HT.out.mono ?_
      rintro e w2 ⟨rfl, h2, k2⟩
      have H2 := hide h2
      have K2 := hide (kp_tr K1.out k2)
      clear h2 k2 HT
      go_wp2
      go_ret2
      rw [E1.out]
      exact ⟨rfl, H2.out, K2.out⟩
    · have HT := hide (i_takesN B R 125 r X w1 h1 e1)
      by_cases e2 : r.head? = some 44
      · obtain ⟨q, rfl⟩ : ∃ q, r = 44 :: q := ⟨_, tail_cons e2⟩
        have HM := hide (i_mustY B R 44 q X w1 h1)
        have E1 : Hid (lmP u = if q.head? = some 125 then some ((n, -1), q.tail) else match nmP q with
          | none => none
          | some (m, r2) => if r2.head? = some 125 then some ((n, m), r2.tail) else none) := hide (by rw [E0.out, if_neg e1, if_pos e2]; rfl)
        clear h1 E0 e1 e2
        go_wp2_with (first | (go_at_call 64; refine HT.out.mono ?_; rintro e w9 ⟨rfl, h9⟩; rw [h9]; clear h9 w9))
        refine HM.out.mono ?_
        rintro e w2 ⟨rfl, h2, k2⟩
        have K2 := hide (kp_tr K1.out k2)
        clear k2 HM HT
        by_cases e3 : q.head? = some 125
        · obtain ⟨q2, rfl⟩ : ∃ q2, q = 125 :: q2 := ⟨_, tail_cons e3⟩
          have HT := hide (i_takesY B R 125 q2 X w2 h2)
          have E2 : Hid (lmP u = some ((n, -1), q2)) := hide (by rw [E1.out, if_pos e3]; rfl)
          clear h2 E1 e3
          go_wp2_with fail
          refine HT.out.mono ?_
          rintro e w3 ⟨rfl, h3, k3⟩
          have H3 := hide h3
          have K3 := hide (kp_tr K2.out k3)
          clear h3 k3 HT
          go_wp2
          go_ret2
          rw [E2.out]
          exact ⟨rfl, H3.out, K3.out⟩
        · have HT := hide (i_takesN B R 125 q X w2 h2 e3)
          have E2 : Hid (lmP u = match nmP q with
          | none => none
          | some (m, r2) => if r2.head? = some 125 then some ((n, m), r2.tail) else none) := hide (by rw [E1.out, if_neg e3])
          clear E1 e3
          rcases hn2 : nmP q with _ | ⟨m, r2⟩
          · have E3 : Hid (lmP u = none) := hide (by rw [E2.out, hn2])
            have HA := hide (i_numN hn2 h2)
            clear h2 hn2 E2
            go_wp2_with (first | (go_at_call 64; refine HT.out.mono ?_; rintro e w9 ⟨rfl, h9⟩; rw [h9]; clear h9 w9))
            refine HA.out.mono ?_
            rintro e w3 ⟨⟨tv, v, rfl⟩, k3⟩
            have K3 := hide (giv_kp H0.out K2.out ⟨⟨tv, v, rfl⟩, k3⟩)
            clear k3
            go_wp2
            rw [E3.out]
            exact ⟨rfl, K3.out⟩
          · have HA := hide (i_numY hn2 h2)
            have E3 : Hid (lmP u = if r2.head? = some 125 then some ((n, m), r2.tail) else none) := hide (by rw [E2.out, hn2])
            clear h2 hn2 E2
            go_wp2_with (first | (go_at_call 64; refine HT.out.mono ?_; rintro e w9 ⟨rfl, h9⟩; rw [h9]; clear h9 w9))
            refine HA.out.mono ?_
            rintro e w3 ⟨rfl, h3, k3⟩
            have K3 := hide (kp_tr K2.out k3)
            clear k3 HA HT
            by_cases e4 : r2.head? = some 125
            · obtain ⟨q2, rfl⟩ : ∃ q2, r2 = 125 :: q2 := ⟨_, tail_cons e4⟩
              have HM := hide (i_mustY B R 125 q2 X w3 h3)
              have E4 : Hid (lmP u = some ((n, m), q2)) := hide (by rw [E3.out, if_pos e4]; rfl)
              clear h3 E3 e4
              go_wp2_with fail
              refine HM.out.mono ?_
              rintro e w4 ⟨rfl, h4, k4⟩
              have H4 := hide h4
              have K4 := hide (kp_tr K3.out k4)
              clear h4 k4 HM
              go_wp2
              go_ret2
              rw [E4.out]
              exact ⟨rfl, H4.out, K4.out⟩
            · have HM := hide (i_mustN B R 125 r2 X w3 h3 e4)
              have E4 : Hid (lmP u = none) := hide (by rw [E3.out, if_neg e4])
              clear h3 E3 e4
              go_wp2_with fail
              refine HM.out.mono ?_
              rintro e w4 ⟨⟨tv, v, rfl⟩, k4⟩
              have K4 := hide (giv_kp H0.out K3.out ⟨⟨tv, v, rfl⟩, k4⟩)
              clear k4
              go_wp2
              rw [E4.out]
              exact ⟨rfl, K4.out⟩
      · have HM := hide (i_mustN B R 44 r X w1 h1 e2)
        have E1 : Hid (lmP u = none) := hide (by rw [E0.out, if_neg e1, if_neg e2])
        clear h1 E0 e1 e2
        go_wp2_with (first | (go_at_call 64; refine HT.out.mono ?_; rintro e w9 ⟨rfl, h9⟩; rw [h9]; clear h9 w9))
        refine HM.out.mono ?_
        rintro e w4 ⟨⟨tv, v, rfl⟩, k4⟩
        have K4 := hide (giv_kp H0.out K1.out ⟨⟨tv, v, rfl⟩, k4⟩)
        clear k4
        go_wp2
        rw [E1.out]
        exact ⟨rfl, K4.out⟩
set_option maxHeartbeats 4000000 in
theorem i_escaped {S : Nat → Prop} (B R : Nat) (u : List Int) (X : List Nd) (w : World) (h : RD S B R w u X) : Calls Tryd.prog 113 #[.pointer (some ⟨R, 0, none⟩)] w (PvA S B R w X (iv (esP u))) := by
  have H0 := hide h
  cases u with
  | nil =>
    have HA := hide (i_nextN B R X w h)
    clear h
    go_enter Tryd.func113, Tryd.ntmps113
    go_wp2_with fail
    refine HA.out.mono ?_
    rintro e w2 ⟨⟨tv, v, rfl⟩, k2⟩
    have K2 := hide k2
    clear k2
    go_wp2
    exact ⟨rfl, ⟨_, _, rfl⟩, K2.out⟩
  | cons c r =>
    have hc := rd_ch h c (by simp)
    have HA := hide (i_nextC B R c r X w h)
    clear h
    by_cases e1 : c = 110
    · subst e1
      go_enter Tryd.func113, Tryd.ntmps113
      go_wp2_with fail
      refine HA.out.mono ?_
      rintro e w1 ⟨rfl, h1, k1⟩
      have H1 := hide h1
      have K1 := hide k1
      clear h1 k1 HA
      go_wp2
      go_ret
      exact ⟨rfl, H1.out, K1.out⟩
    · by_cases e2 : c = 114
      · subst e2
        go_enter Tryd.func113, Tryd.ntmps113
        go_wp2_with fail
        refine HA.out.mono ?_
        rintro e w1 ⟨rfl, h1, k1⟩
        have H1 := hide h1
        have K1 := hide k1
        clear h1 k1 HA
        go_wp2
        go_ret
        exact ⟨rfl, H1.out, K1.out⟩
      · by_cases e3 : c = 116
        · subst e3
          go_enter Tryd.func113, Tryd.ntmps113
          go_wp2_with fail
          refine HA.out.mono ?_
          rintro e w1 ⟨rfl, h1, k1⟩
          have H1 := hide h1
          have K1 := hide k1
          clear h1 k1 HA
          go_wp2
          go_ret
          exact ⟨rfl, H1.out, K1.out⟩
        · have b1 : (c == 110) = false := by simp [e1]
          have b2 : (c == 114) = false := by simp [e2]
          have b3 : (c == 116) = false := by simp [e3]
          have E0 : Hid (esP (c :: r) = if isS sgE c = true then some (c, r) else none) := hide (by rw [esP, if_neg e1, if_neg e2, if_neg e3])
          have HS := hide (fun W => i_signE c W hc)
          obtain ⟨q, hq⟩ : ∃ q, isS sgE c = q := ⟨_, rfl⟩
          rw [hq] at HS E0
          clear e1 e2 e3 hq hc
          go_enter Tryd.func113, Tryd.ntmps113
          go_wp2_with fail
          refine HA.out.mono ?_
          rintro e w1 ⟨rfl, h1, k1⟩
          have H1 := hide h1
          have K1 := hide k1
          clear h1 k1 HA
          go_wp2_with fail
          refine (HS.out _).mono ?_
          rintro e w2 ⟨rfl, hb2⟩
          have H2 := hide (rd_bl H1.out hb2)
          have K2 := hide (kp_tr K1.out (kp_bl hb2 (Nat.le_refl _)))
          clear hb2
          cases q
          · have E1 : Hid (esP (c :: r) = none) := hide (by rw [E0.out]; rfl)
            go_wp2_with fail
            refine (i_wantN B _ _).mono ?_
            rintro e w3 ⟨⟨tv, v, rfl⟩, k3⟩
            have K3 := hide (giv_kp H0.out K2.out ⟨⟨tv, v, rfl⟩, k3⟩)
            clear k3
            go_wp2
            rw [E1.out]
            exact ⟨rfl, K3.out⟩
          · have E1 : Hid (esP (c :: r) = some (c, r)) := hide (by rw [E0.out]; rfl)
            go_wp2_with (first | (go_at_call 41; refine (i_wantY _ _).mono ?_; rintro e w9 ⟨rfl, h9⟩; rw [h9]; clear h9 w9))
            go_ret
            rw [E1.out]
            exact ⟨rfl, H2.out, K2.out⟩
theorem i_escY {S : Nat → Prop} {B R : Nat} {u : List Int} {X : List Nd} {w : World} {n : Int} {r : List Int} (hn : esP u = some (n, r)) (h : RD S B R w u X) : Calls Tryd.prog 113 #[.pointer (some ⟨R, 0, none⟩)] w fun e w' => e = .returned (.int .i64 n) ∧ RD S B R w' r X ∧ Kp (fun j => j = R) w w' := by
  have := i_escaped B R u X w h
  rw [hn] at this
  exact this
theorem i_escN {S : Nat → Prop} {B R : Nat} {u : List Int} {X : List Nd} {w : World} (hn : esP u = none) (h : RD S B R w u X) : Calls Tryd.prog 113 #[.pointer (some ⟨R, 0, none⟩)] w (GivB B w) := by
  have := i_escaped B R u X w h
  rw [hn] at this
  exact this
set_option maxHeartbeats 4000000 in
theorem i_inBr {S : Nat → Prop} (B R : Nat) (u : List Int) (X : List Nd) (w : World) (h : RD S B R w u X) : Calls Tryd.prog 111 #[.pointer (some ⟨R, 0, none⟩)] w (PvA S B R w X (iv (inP u))) := by
  have H0 := hide h
  cases u with
  | nil =>
    have HT := hide (i_takesN B R 92 [] X w h (by simp))
    have HA := hide (i_nextN B R X w h)
    clear h
    go_enter Tryd.func111, Tryd.ntmps111
    go_wp2_with (first | (go_at_call 64; refine HT.out.mono ?_; rintro e w9 ⟨rfl, h9⟩; rw [h9]; clear h9 w9))
    refine HA.out.mono ?_
    rintro e w2 ⟨⟨tv, v, rfl⟩, k2⟩
    have K2 := hide k2
    clear k2
    go_wp2
    exact ⟨rfl, ⟨_, _, rfl⟩, K2.out⟩
  | cons c r =>
    by_cases e1 : c = 92
    · subst e1
      have E0 : Hid (inP (92 :: r) = esP r) := hide (by rw [inP, if_pos rfl])
      have HT := hide (i_takesY B R 92 r X w h)
      clear h
      go_enter Tryd.func111, Tryd.ntmps111
      go_wp2_with fail
      refine HT.out.mono ?_
      rintro e w1 ⟨rfl, h1, k1⟩
      have K1 := hide k1
      clear k1 HT
      rcases hn : esP r with _ | ⟨d, r2⟩
      · have HE := hide (i_escN hn h1)
        have E1 : Hid (inP (92 :: r) = none) := hide (by rw [E0.out, hn])
        clear h1 hn E0
        go_wp2_with fail
        refine HE.out.mono ?_
        rintro e w3 ⟨⟨tv, v, rfl⟩, k3⟩
        have K3 := hide (giv_kp H0.out K1.out ⟨⟨tv, v, rfl⟩, k3⟩)
        clear k3
        go_wp2
        rw [E1.out]
        exact ⟨rfl, K3.out⟩
      · have HE := hide (i_escY hn h1)
        have E1 : Hid (inP (92 :: r) = some (d, r2)) := hide (by rw [E0.out, hn])
        clear h1 hn E0
        go_wp2_with fail
        refine HE.out.mono ?_
        rintro e w3 ⟨rfl, h3, k3⟩
        have H3 := hide h3
        have K3 := hide (kp_tr K1.out k3)
        clear h3 k3
        go_wp2
        go_ret
        rw [E1.out]
        exact ⟨rfl, H3.out, K3.out⟩
    · have hc := rd_ch h c (by simp)
      have HT := hide (i_takesN B R 92 (c :: r) X w h (by simp [e1]))
      have HA := hide (i_nextC B R c r X w h)
      have E0 : Hid (inP (c :: r) = if isS sgI c = true then none else some (c, r)) := hide (by rw [inP, if_neg e1])
      have HS := hide (fun W => i_signI c W hc)
      obtain ⟨q, hq⟩ : ∃ q, isS sgI c = q := ⟨_, rfl⟩
      rw [hq] at HS E0
      clear e1 hq hc h
      go_enter Tryd.func111, Tryd.ntmps111
      go_wp2_with (first | (go_at_call 64; refine HT.out.mono ?_; rintro e w9 ⟨rfl, h9⟩; rw [h9]; clear h9 w9))
      refine HA.out.mono ?_
      rintro e w1 ⟨rfl, h1, k1⟩
      have H1 := hide h1
      have K1 := hide k1
      clear h1 k1 HA
      go_wp2_with fail
      refine (HS.out _).mono ?_
      rintro e w2 ⟨rfl, hb2⟩
      have H2 := hide (rd_bl H1.out hb2)
      have K2 := hide (kp_tr K1.out (kp_bl hb2 (Nat.le_refl _)))
      clear hb2
      cases q
      · have E1 : Hid (inP (c :: r) = some (c, r)) := hide (by rw [E0.out]; rfl)
        go_wp2_with (first | (go_at_call 41; refine (i_wantY _ _).mono ?_; rintro e w9 ⟨rfl, h9⟩; rw [h9]; clear h9 w9))
        go_ret
        rw [E1.out]
        exact ⟨rfl, H2.out, K2.out⟩
      · have E1 : Hid (inP (c :: r) = none) := hide (by rw [E0.out]; rfl)
        go_wp2_with fail
        refine (i_wantN B _ _).mono ?_
        rintro e w3 ⟨⟨tv, v, rfl⟩, k3⟩
        have K3 := hide (giv_kp H0.out K2.out ⟨⟨tv, v, rfl⟩, k3⟩)
        clear k3
        go_wp2
        rw [E1.out]
        exact ⟨rfl, K3.out⟩
theorem i_inY {S : Nat → Prop} {B R : Nat} {u : List Int} {X : List Nd} {w : World} {n : Int} {r : List Int} (hn : inP u = some (n, r)) (h : RD S B R w u X) : Calls Tryd.prog 111 #[.pointer (some ⟨R, 0, none⟩)] w fun e w' => e = .returned (.int .i64 n) ∧ RD S B R w' r X ∧ Kp (fun j => j = R) w w' := by
  have := i_inBr B R u X w h
  rw [hn] at this
  exact this
theorem i_inN {S : Nat → Prop} {B R : Nat} {u : List Int} {X : List Nd} {w : World} (hn : inP u = none) (h : RD S B R w u X) : Calls Tryd.prog 111 #[.pointer (some ⟨R, 0, none⟩)] w (GivB B w) := by
  have := i_inBr B R u X w h
  rw [hn] at this
  exact this
end Go.Proofs.YtibagghpimadfaaDoor

/-
  Contracts of the program's reader of expressions: classes of one character, of a letter; what stands behind a backslash.
-/
namespace Go.Proofs.YtibagghpimadfaaDoor
open Go.RowKit Go.Joins
set_option linter.unusedVariables false
set_option linter.unusedSimpArgs false
theorem own_prL {w : World} {q : Nat} {L : List (Int × Int)} {n : Nat} {cs : Array Value} (hn : L.length = n) (hn5 : n ≤ 500) (hc : cs.toList = prV L) (h : w.heap[q]? = some (.cells cs 55 (0, 0))) : w.ownsRow 0 55 2 (.slice (some ⟨q, 0, none⟩) n n) n (prV L) := by
  have hl := prV_len L
  refine ⟨by rw [hl, hn], .inr ⟨q, n, cs, rfl, Nat.zero_le _, h, Nat.le_refl _, by unfold maxLen; omega, ?_, ?_⟩⟩
  · rw [← Array.length_toList, hc, hl, hn]
  · rw [hc, ← hn, ← hl]; simp
/-- What stays when something is made. -/
theorem rd_small {B R : Nat} {w : World} {u : List Int} {X : List Nd} (h : RD (fun j => B ≤ j) B R w u X) : RD (fun j => B ≤ j ∧ j < w.heap.size) B R w u X := by
  obtain ⟨h0, ta, tc, ad, c, h1, h2, h3⟩ := h
  refine ⟨h0, ta, tc, ad, c, h1, h2, xo_imp h3.1 (fun k hk hs => ⟨hs, hk⟩), fun k hk => ⟨h3.2 k hk, ?_⟩⟩
  obtain ⟨xs, ho, -⟩ := h3.1
  exact (ho.lt k hk).2
set_option maxHeartbeats 2000000 in
theorem i_classOf (a : Int) (w : World) : Calls Tryd.prog 102 #[.int .i64 a] w fun e w' => ∃ q, e = .returned (.agg #[.int .i64 2, .bool false, .slice (some ⟨q, 0, none⟩) 1 1, .int .i64 0, .int .i64 0, .int .i64 0, .int .i64 0]) ∧ w.heap.size ≤ q ∧ w'.ownsRow 0 55 2 (.slice (some ⟨q, 0, none⟩) 1 1) 1 (prV [(a, a)]) ∧ Below w.heap.size w w' := by
  go_enter Tryd.func102, Tryd.ntmps102
  have h1 : ((w.alloc (.cells #[.int .i64 2, .bool false, .slice (some ⟨w.heap.size + 1, 0, none⟩) 1 1, .int .i64 0, .int .i64 0, .int .i64 0, .int .i64 0] 53)).alloc (.cells #[.int .i64 a, .int .i64 a] 55)).heap[w.heap.size + 1]? = some (.cells #[.int .i64 a, .int .i64 a] 55 (0, 0)) := by
    have h := heap_alloc_new (w.alloc (.cells #[.int .i64 2, .bool false, .slice (some ⟨w.heap.size + 1, 0, none⟩) 1 1, .int .i64 0, .int .i64 0, .int .i64 0, .int .i64 0] 53)) (.cells #[.int .i64 a, .int .i64 a] 55)
    rw [show (w.alloc (.cells #[.int .i64 2, .bool false, .slice (some ⟨w.heap.size + 1, 0, none⟩) 1 1, .int .i64 0, .int .i64 0, .int .i64 0, .int .i64 0] 53)).heap.size = w.heap.size + 1 by simp] at h
    exact h
  have H1 := hide (own_prL (L := [(a, a)]) (n := 1) rfl (by omega) rfl h1)
  have HB := hide (((Below.refl w.heap.size w).alloc (Nat.le_refl _) (.cells #[.int .i64 2, .bool false, .slice (some ⟨w.heap.size + 1, 0, none⟩) 1 1, .int .i64 0, .int .i64 0, .int .i64 0, .int .i64 0] 53)).alloc (by simp) (.cells #[.int .i64 a, .int .i64 a] 55))
  clear h1
  go_wp2
  refine bodyPost_ret (v := .agg #[.int .i64 2, .bool false, .slice (some ⟨w.heap.size + 1, 0, none⟩) 1 1, .int .i64 0, .int .i64 0, .int .i64 0, .int .i64 0]) (by simp [results, Tryd.results102, go_sem]) rfl ?_
  exact ⟨w.heap.size + 1, rfl, by omega, H1.out, HB.out⟩
/-- Ranges in new memory. -/
def LrA (L : List (Int × Int)) (w : World) (e : Ending) (w' : World) : Prop := ∃ na, e = .returned (.slice na L.length L.length) ∧ w'.ownsRow 0 55 2 (.slice na L.length L.length) L.length (prV L) ∧ (∀ k, (Value.slice na L.length L.length).ownBlock = some k → w.heap.size ≤ k) ∧ Below w.heap.size w w'
theorem lr_new {w : World} {L : List (Int × Int)} {cs : Array Value} (hl : L.length ≤ 500) (hc : cs.toList = prV L) : LrA L w (.returned (.slice (some ⟨w.heap.size, 0, none⟩) L.length L.length)) (w.alloc (.cells cs 55)) :=
  ⟨_, rfl, own_prL rfl hl hc (heap_alloc_new w _), fun k hk => by have h9 : w.heap.size = k := (by simpa [Value.ownBlock] using hk); omega, (Below.refl w.heap.size w).alloc (Nat.le_refl _) _⟩
set_option maxHeartbeats 4000000 in
theorem i_letters (c : Int) (w : World) : Calls Tryd.prog 112 #[.int .i64 c] w (LrA (ltR c) w) := by
  by_cases e1 : c = 100 ∨ c = 68
  · have E : Hid (ltR c = [(48, 57)]) := hide (by unfold ltR; rw [if_pos e1])
    have HN := hide (lr_new (w := w) (L := [(48, 57)]) (cs := #[.int .i64 48, .int .i64 57]) (by simp) rfl)
    rcases e1 with rfl | rfl
    all_goals
      go_enter Tryd.func112, Tryd.ntmps112
      go_wp2
      go_ret
      rw [E.out]
      exact HN.out
  · by_cases e2 : c = 119 ∨ c = 87
    · have E : Hid (ltR c = [(48, 57), (65, 90), (95, 95), (97, 122)]) := hide (by unfold ltR; rw [if_neg e1, if_pos e2])
      have HN := hide (lr_new (w := w) (L := [(48, 57), (65, 90), (95, 95), (97, 122)]) (cs := #[.int .i64 48, .int .i64 57, .int .i64 65, .int .i64 90, .int .i64 95, .int .i64 95, .int .i64 97, .int .i64 122]) (by simp) rfl)
      clear e1
      rcases e2 with rfl | rfl
      all_goals
        go_enter Tryd.func112, Tryd.ntmps112
        go_wp2
        go_ret
        rw [E.out]
        exact HN.out
    · by_cases e3 : c = 115 ∨ c = 83
      · have E : Hid (ltR c = [(9, 10), (13, 13), (32, 32)]) := hide (by unfold ltR; rw [if_neg e1, if_neg e2, if_pos e3])
        have HN := hide (lr_new (w := w) (L := [(9, 10), (13, 13), (32, 32)]) (cs := #[.int .i64 9, .int .i64 10, .int .i64 13, .int .i64 13, .int .i64 32, .int .i64 32]) (by simp) rfl)
        clear e1 e2
        rcases e3 with rfl | rfl
        all_goals
          go_enter Tryd.func112, Tryd.ntmps112
          go_wp2
          go_ret
          rw [E.out]
          exact HN.out
      · have E : Hid (ltR c = []) := hide (by unfold ltR; rw [if_neg e1, if_neg e2, if_neg e3])
        have b1 : (c == 100) = false := by simp; omega
        have b2 : (c == 68) = false := by simp; omega
        have b3 : (c == 119) = false := by simp; omega
        have b4 : (c == 87) = false := by simp; omega
        have b5 : (c == 115) = false := by simp; omega
        have b6 : (c == 83) = false := by simp; omega
        clear e1 e2 e3
        go_enter Tryd.func112, Tryd.ntmps112
        go_wp2
        go_ret
        rw [E.out]
        exact ⟨none, rfl, World.ownsRow_nil _ _ _ _, fun k hk => (by cases hk), Below.refl _ _⟩
/-- What a part leaves: the rest and the nodes, or it gives up. -/
def RaI (B R : Nat) (w : World) (o : Option (List Int × List Nd)) (e : Ending) (w' : World) : Prop := match o with
  | some (u', X') => e = .returned (.tuple #[]) ∧ RD (fun j => B ≤ j) B R w' u' X' ∧ Below B w w'
  | none => GivB B w e w'
theorem giv_bl {B : Nat} {w w1 w2 : World} {e : Ending} (k : Below B w w1) (g : GivB B w1 e w2) : GivB B w e w2 := ⟨g.1, k.trans g.2⟩
set_option maxHeartbeats 4000000 in
theorem i_slash (B R : Nat) (u : List Int) (X : List Nd) (w : World) (hX : X.length ≤ 4000) (h : RD (fun j => B ≤ j) B R w u X) : Calls Tryd.prog 101 #[.pointer (some ⟨R, 0, none⟩)] w (RaI B R w (bsP u X)) := by
  have H0 := hide h
  have hB := rd_lt h
  cases u with
  | nil =>
    obtain ⟨ta, tc, c0⟩ := rd_nil h
    have HA := hide (i_escN (u := []) rfl h)
    clear h
    go_enter Tryd.func101, Tryd.ntmps101
    go_wp2_with fail
    refine HA.out.mono ?_
    rintro e w2 ⟨⟨tv, v, rfl⟩, k2⟩
    have K2 := hide k2
    clear k2
    go_wp2
    exact ⟨rfl, ⟨_, _, rfl⟩, K2.out⟩
  | cons c r =>
    have hs := rd_small h
    obtain ⟨b, off, tc, ad, cp, c0, f0, c1, c2, h1, h2, HT⟩ := rd_cons h
    have h6 : (0 : Int) < (r.length : Int) + 1 := by omega
    have h7 : (0 : Int) < ((r.length + 1 : Nat) : Int) := by omega
    clear h HT
    have HS := hide hs
    clear hs
    have hB' := hB
    go_enter Tryd.func101, Tryd.ntmps101
    go_wp2_with fail
    refine (i_letters c _).mono ?_
    rintro e w1 ⟨na, rfl, ho, hk, hb⟩
    have HO := hide ho
    have HK := hide hk
    have HB := hide hb
    have HS1 := hide (rd_blA HS.out hb)
    have HB1 := hide (hb.mono hB)
    clear ho hk hb c0 c1 c2 f0
    by_cases hl : 0 < (ltR c).length
    · have hl' : (0 : Int) < ((ltR c).length : Int) := by omega
      have hl5 : (ltR c).length ≤ 500 := by unfold ltR; split <;> (try split) <;> (try split) <;> simp
      have E : Hid (bsP (c :: r) X = some (r, X ++ [clN (capB c) (ltR c)])) := hide (by rw [bsP, if_pos hl])
      have HN := hide (i_nextC B R c r X w1 HS1.out)
      have CB := hide (fun W => i_in c 65 90 W)
      have HC : Hid (decide (65 ≤ c ∧ c ≤ 90) = capB c) := hide rfl
      rw [HC.out] at CB
      obtain ⟨L, hL⟩ : ∃ L, ltR c = L := ⟨_, rfl⟩
      rw [hL] at hl hl' hl5 HO HK E
      rw [hL]
      obtain ⟨cb, hcb⟩ : ∃ cb, capB c = cb := ⟨_, rfl⟩
      rw [hcb] at CB E
      clear hL hcb HC hl
      go_wp2_with fail
      refine HN.out.mono ?_
      rintro e w2 ⟨rfl, h2, k2⟩
      have H2 := hide h2
      have HB2 := hide (HB1.out.trans (rd_kpB HS1.out k2))
      have HO2 := hide (own_kp HO.out k2 (fun j hj e9 => by
        obtain ⟨_, _, _, _, _, hx, _⟩ := HS1.out
        exact type_ne HO.out hj hx (by decide) e9))
      have HA := hide (i_add B R r X (clN cb L) na L.length w2 (by omega) hl5 h2 (fun j hj => hj.1) HO2.out (fun k hk => ⟨Nat.le_trans hB (HK.out k hk), fun h9 => by have := HK.out k hk; omega⟩))
      clear h2 k2 HN
      go_wp2_with (first | (go_at_call 73; refine (CB.out _).mono ?_; rintro e w9 ⟨rfl, h9⟩; rw [h9]; clear h9 w9))
      refine HA.out.mono ?_
      rintro e w3 ⟨rfl, h3, k3⟩
      have H3 := hide h3
      have HB3 := hide (HB2.out.trans k3)
      clear h3 k3 HA
      go_wp2
      go_end0
      rw [E.out]
      exact ⟨rfl, H3.out, HB3.out⟩
    · have hl' : ¬ (0 : Int) < ((ltR c).length : Int) := by omega
      have E0 : Hid (bsP (c :: r) X = match esP (c :: r) with
        | none => none
        | some (d, r') => some (r', X ++ [clsN d])) := hide (by rw [bsP, if_neg hl]; rfl)
      rcases hn : esP (c :: r) with _ | ⟨d, r2⟩
      · have E : Hid (bsP (c :: r) X = none) := hide (by rw [E0.out, hn])
        have HE := hide (i_escN hn HS1.out)
        clear hn E0
        go_wp2_with fail
        refine HE.out.mono ?_
        rintro e w3 ⟨⟨tv, v, rfl⟩, k3⟩
        have K3 := hide (giv_bl HB1.out ⟨⟨tv, v, rfl⟩, k3⟩)
        clear k3
        go_wp2
        rw [E.out]
        exact ⟨rfl, K3.out⟩
      · have E : Hid (bsP (c :: r) X = some (r2, X ++ [clsN d])) := hide (by have h9 := E0.out; rw [hn] at h9; exact h9)
        have HE := hide (i_escY hn HS1.out)
        clear hn E0
        go_wp2_with fail
        refine HE.out.mono ?_
        rintro e w2 ⟨rfl, h2, k2⟩
        have H2 := hide h2
        have HB2 := hide (HB1.out.trans (rd_kpB HS1.out k2))
        have hz2 : w.heap.size ≤ w2.heap.size := Nat.le_trans HB.out.size k2.size
        clear h2 k2 HE
        go_wp2_with fail
        refine (i_classOf d _).mono ?_
        rintro e w3 ⟨q, rfl, hq, hr3, hb3⟩
        have HB3 := hide (HB2.out.trans (hb3.mono (by omega)))
        have HA := hide (i_add B R r2 X (clsN d) (some ⟨q, 0, none⟩) 1 w3 (by omega) (by simp [clsN]) (rd_blA H2.out hb3) (fun j hj => hj.1) hr3 (fun k hk => by
          have h9 : q = k := (by simpa [Value.ownBlock] using hk)
          refine ⟨by omega, fun h10 => ?_⟩
          have : k < w.heap.size := h10.2
          omega))
        clear hr3 hb3
        go_wp2_with fail
        refine HA.out.mono ?_
        rintro e w4 ⟨rfl, h4, k4⟩
        have H4 := hide h4
        have HB4 := hide (HB3.out.trans k4)
        clear h4 k4 HA
        go_wp2
        go_end0
        rw [E.out]
        exact ⟨rfl, H4.out, HB4.out⟩
end Go.Proofs.YtibagghpimadfaaDoor
