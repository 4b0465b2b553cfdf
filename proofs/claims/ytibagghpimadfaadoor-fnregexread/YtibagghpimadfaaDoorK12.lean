/-
  Texts put together: RrC, RrD.
-/
import Derived.Test.YtibagghpimadfaaDoorK11
import Derived.Test.YtibagghpimadfaaDoorK9
import Derived.Deep.RegionLaw
import Derived.Deep.DeepCutAuto
/-
  Contracts of the program's reader of expressions: limits, escaped characters, characters within brackets.
-/
namespace Go.Proofs.YtibagghpimadfaaDoor
open Go.RowKit Go.Joins
set_option linter.unusedVariables false
set_option linter.unusedSimpArgs false
def lv (o : Option ((Int × Int) × List Int)) : Option (Value × List Int) := o.map fun p => (.tuple #[.int .i64 p.1.1, .int .i64 p.1.2], p.2)
theorem pva_none {S : Nat → Prop} {B R : Nat} {w : World} {X : List Nd} {e : Ending} {w' : World} (h : GivB B w e w') : PvA S B R w X none e w' := h
theorem i_numY {S : Nat → Prop} {B R : Nat} {u : List Int} {X : List Nd} {w : World} {n : Int} {r : List Int} (hn : nmP u = some (n, r)) (h : RD S B R w u X) : Calls Tryd.prog 103 #[.pointer (some ⟨R, 0, none⟩)] w fun e w' => e = .returned (.int .i64 n) ∧ RD S B R w' r X ∧ Kp (fun j => j = R) w w' := by
  have := i_number B R u X w h
  rw [hn] at this
  exact this
theorem i_numN {S : Nat → Prop} {B R : Nat} {u : List Int} {X : List Nd} {w : World} (hn : nmP u = none) (h : RD S B R w u X) : Calls Tryd.prog 103 #[.pointer (some ⟨R, 0, none⟩)] w (GivB B w) := by
  have := i_number B R u X w h
  rw [hn] at this
  exact this
set_option maxHeartbeats 4000000 in
theorem i_limits {S : Nat → Prop} (B R : Nat) (u : List Int) (X : List Nd) (w : World) (h : RD S B R w u X) : Calls Tryd.prog 89 #[.pointer (some ⟨R, 0, none⟩)] w (PvA S B R w X (lv (lmP u))) := by
  have H0 := hide h
  rcases hn : nmP u with _ | ⟨n, r⟩
  · have e : lmP u = none := by unfold lmP; rw [hn]
    rw [e]
    have HA := hide (i_numN hn h)
    clear h hn e
    go_enter Tryd.func89, Tryd.ntmps89
    go_wp2_with fail
    refine HA.out.mono ?_
    rintro e w2 ⟨⟨tv, v, rfl⟩, k2⟩
    have K2 := hide k2
    clear k2
    go_wp2
    exact ⟨rfl, ⟨_, _, rfl⟩, K2.out⟩
  · have HA := hide (i_numY hn h)
    have E0 : Hid (lmP u = if r.head? = some 125 then some ((n, n), r.tail) else if r.head? = some 44 then (if r.tail.head? = some 125 then some ((n, -1), r.tail.tail) else match nmP r.tail with
      | none => none
      | some (m, r2) => if r2.head? = some 125 then some ((n, m), r2.tail) else none)
    else none) := hide (by unfold lmP; rw [hn]; rfl)
    clear h hn
    go_enter Tryd.func89, Tryd.ntmps89
    go_wp2_with fail
    refine HA.out.mono ?_
    rintro e w1 ⟨rfl, h1, k1⟩
    have K1 := hide k1
    clear HA k1
    by_cases e1 : r.head? = some 125
    · obtain ⟨q, rfl⟩ : ∃ q, r = 125 :: q := ⟨_, tail_cons e1⟩
      have HT := hide (i_takesY B R 125 q X w1 h1)
      have E1 : Hid (lmP u = some ((n, n), q)) := hide (by rw [E0.out, if_pos e1]; rfl)
      clear h1 E0 e1
      go_wp2_with fail
      refine HT.out.mono ?_
      rintro e w2 ⟨rfl, h2, k2⟩
      have H2 := hide h2
      have K2 := hide (kp_tr K1.out k2)
      clear h2 k2 HT
      go_wp2
      go_ret2
      rw [E1.out]
      exact ⟨rfl, H2.out, K2.out⟩
    · have HT := hide (i_takesN B R 125 r X w1 h1 e1)
      by_cases e2 : r.head? = some 44
      · obtain ⟨q, rfl⟩ : ∃ q, r = 44 :: q := ⟨_, tail_cons e2⟩
        have HM := hide (i_mustY B R 44 q X w1 h1)
        have E1 : Hid (lmP u = if q.head? = some 125 then some ((n, -1), q.tail) else match nmP q with
          | none => none
          | some (m, r2) => if r2.head? = some 125 then some ((n, m), r2.tail) else none) := hide (by rw [E0.out, if_neg e1, if_pos e2]; rfl)
        clear h1 E0 e1 e2
        go_wp2_with (first | (go_at_call 64; refine HT.out.mono ?_; rintro e w9 ⟨rfl, h9⟩; rw [h9]; clear h9 w9))
        refine HM.out.mono ?_
        rintro e w2 ⟨rfl, h2, k2⟩
        have K2 := hide (kp_tr K1.out k2)
        clear k2 HM HT
        by_cases e3 : q.head? = some 125
        · obtain ⟨q2, rfl⟩ : ∃ q2, q = 125 :: q2 := ⟨_, tail_cons e3⟩
          have HT := hide (i_takesY B R 125 q2 X w2 h2)
          have E2 : Hid (lmP u = some ((n, -1), q2)) := hide (by rw [E1.out, if_pos e3]; rfl)
          clear h2 E1 e3
          go_wp2_with fail
          refine HT.out.mono ?_
          rintro e w3 ⟨rfl, h3, k3⟩
          have H3 := hide h3
          have K3 := hide (kp_tr K2.out k3)
          clear h3 k3 HT
          go_wp2
          go_ret2
          rw [E2.out]
          exact ⟨rfl, H3.out, K3.out⟩
        · have HT := hide (i_takesN B R 125 q X w2 h2 e3)
          have E2 : Hid (lmP u = match nmP q with
          | none => none
          | some (m, r2) => if r2.head? = some 125 then some ((n, m), r2.tail) else none) := hide (by rw [E1.out, if_neg e3])
          clear E1 e3
          rcases hn2 : nmP q with _ | ⟨m, r2⟩
          · have E3 : Hid (lmP u = none) := hide (by rw [E2.out, hn2])
            have HA := hide (i_numN hn2 h2)
            clear h2 hn2 E2
            go_wp2_with (first | (go_at_call 64; refine HT.out.mono ?_; rintro e w9 ⟨rfl, h9⟩; rw [h9]; clear h9 w9))
            refine HA.out.mono ?_
            rintro e w3 ⟨⟨tv, v, rfl⟩, k3⟩
            have K3 := hide (giv_kp H0.out K2.out ⟨⟨tv, v, rfl⟩, k3⟩)
            clear k3
            go_wp2
            rw [E3.out]
            exact ⟨rfl, K3.out⟩
          · have HA := hide (i_numY hn2 h2)
            have E3 : Hid (lmP u = if r2.head? = some 125 then some ((n, m), r2.tail) else none) := hide (by rw [E2.out, hn2])
            clear h2 hn2 E2
            go_wp2_with (first | (go_at_call 64; refine HT.out.mono ?_; rintro e w9 ⟨rfl, h9⟩; rw [h9]; clear h9 w9))
            refine HA.out.mono ?_
            rintro e w3 ⟨rfl, h3, k3⟩
            have K3 := hide (kp_tr K2.out k3)
            clear k3 HA HT
            by_cases e4 : r2.head? = some 125
            · obtain ⟨q2, rfl⟩ : ∃ q2, r2 = 125 :: q2 := ⟨_, tail_cons e4⟩
              have HM := hide (i_mustY B R 125 q2 X w3 h3)
              have E4 : Hid (lmP u = some ((n, m), q2)) := hide (by rw [E3.out, if_pos e4]; rfl)
              clear h3 E3 e4
              go_wp2_with fail
              refine HM.out.mono ?_
              rintro e w4 ⟨rfl, h4, k4⟩
              have H4 := hide h4
              have K4 := hide (kp_tr K3.out k4)
              clear h4 k4 HM
              go_wp2
              go_ret2
              rw [E4.out]
              exact ⟨rfl, H4.out, K4.out⟩
            · have HM := hide (i_mustN B R 125 r2 X w3 h3 e4)
              have E4 : Hid (lmP u = none) := hide (by rw [E3.out, if_neg e4])
              clear h3 E3 e4
              go_wp2_with fail
              refine HM.out.mono ?_
              rintro e w4 ⟨⟨tv, v, rfl⟩, k4⟩
              have K4 := hide (giv_kp H0.out K3.out ⟨⟨tv, v, rfl⟩, k4⟩)
              clear k4
              go_wp2
              rw [E4.out]
              exact ⟨rfl, K4.out⟩
      · have HM := hide (i_mustN B R 44 r X w1 h1 e2)
        have E1 : Hid (lmP u = none) := hide (by rw [E0.out, if_neg e1, if_neg e2])
        clear h1 E0 e1 e2
        go_wp2_with (first | (go_at_call 64; refine HT.out.mono ?_; rintro e w9 ⟨rfl, h9⟩; rw [h9]; clear h9 w9))
        refine HM.out.mono ?_
        rintro e w4 ⟨⟨tv, v, rfl⟩, k4⟩
        have K4 := hide (giv_kp H0.out K1.out ⟨⟨tv, v, rfl⟩, k4⟩)
        clear k4
        go_wp2
        rw [E1.out]
        exact ⟨rfl, K4.out⟩
set_option maxHeartbeats 4000000 in
theorem i_escaped {S : Nat → Prop} (B R : Nat) (u : List Int) (X : List Nd) (w : World) (h : RD S B R w u X) : Calls Tryd.prog 113 #[.pointer (some ⟨R, 0, none⟩)] w (PvA S B R w X (iv (esP u))) := by
  have H0 := hide h
  cases u with
  | nil =>
    have HA := hide (i_nextN B R X w h)
    clear h
    go_enter Tryd.func113, Tryd.ntmps113
    go_wp2_with fail
    refine HA.out.mono ?_
    rintro e w2 ⟨⟨tv, v, rfl⟩, k2⟩
    have K2 := hide k2
    clear k2
    go_wp2
    exact ⟨rfl, ⟨_, _, rfl⟩, K2.out⟩
  | cons c r =>
    have hc := rd_ch h c (by simp)
    have HA := hide (i_nextC B R c r X w h)
    clear h
    by_cases e1 : c = 110
    · subst e1
      go_enter Tryd.func113, Tryd.ntmps113
      go_wp2_with fail
      refine HA.out.mono ?_
      rintro e w1 ⟨rfl, h1, k1⟩
      have H1 := hide h1
      have K1 := hide k1
      clear h1 k1 HA
      go_wp2
      go_ret
      exact ⟨rfl, H1.out, K1.out⟩
    · by_cases e2 : c = 114
      · subst e2
        go_enter Tryd.func113, Tryd.ntmps113
        go_wp2_with fail
        refine HA.out.mono ?_
        rintro e w1 ⟨rfl, h1, k1⟩
        have H1 := hide h1
        have K1 := hide k1
        clear h1 k1 HA
        go_wp2
        go_ret
        exact ⟨rfl, H1.out, K1.out⟩
      · by_cases e3 : c = 116
        · subst e3
          go_enter Tryd.func113, Tryd.ntmps113
          go_wp2_with fail
          refine HA.out.mono ?_
          rintro e w1 ⟨rfl, h1, k1⟩
          have H1 := hide h1
          have K1 := hide k1
          clear h1 k1 HA
          go_wp2
          go_ret
          exact ⟨rfl, H1.out, K1.out⟩
        · have b1 : (c == 110) = false := by simp [e1]
          have b2 : (c == 114) = false := by simp [e2]
          have b3 : (c == 116) = false := by simp [e3]
          have E0 : Hid (esP (c :: r) = if isS sgE c = true then some (c, r) else none) := hide (by rw [esP, if_neg e1, if_neg e2, if_neg e3])
          have HS := hide (fun W => i_signE c W hc)
          obtain ⟨q, hq⟩ : ∃ q, isS sgE c = q := ⟨_, rfl⟩
          rw [hq] at HS E0
          clear e1 e2 e3 hq hc
          go_enter Tryd.func113, Tryd.ntmps113
          go_wp2_with fail
          refine HA.out.mono ?_
          rintro e w1 ⟨rfl, h1, k1⟩
          have H1 := hide h1
          have K1 := hide k1
          clear h1 k1 HA
          go_wp2_with fail
          refine (HS.out _).mono ?_
          rintro e w2 ⟨rfl, hb2⟩
          have H2 := hide (rd_bl H1.out hb2)
          have K2 := hide (kp_tr K1.out (kp_bl hb2 (Nat.le_refl _)))
          clear hb2
          cases q
          · have E1 : Hid (esP (c :: r) = none) := hide (by rw [E0.out]; rfl)
            go_wp2_with fail
            refine (i_wantN B _ _).mono ?_
            rintro e w3 ⟨⟨tv, v, rfl⟩, k3⟩
            have K3 := hide (giv_kp H0.out K2.out ⟨⟨tv, v, rfl⟩, k3⟩)
            clear k3
            go_wp2
            rw [E1.out]
            exact ⟨rfl, K3.out⟩
          · have E1 : Hid (esP (c :: r) = some (c, r)) := hide (by rw [E0.out]; rfl)
            go_wp2_with (first | (go_at_call 41; refine (i_wantY _ _).mono ?_; rintro e w9 ⟨rfl, h9⟩; rw [h9]; clear h9 w9))
            go_ret
            rw [E1.out]
            exact ⟨rfl, H2.out, K2.out⟩
theorem i_escY {S : Nat → Prop} {B R : Nat} {u : List Int} {X : List Nd} {w : World} {n : Int} {r : List Int} (hn : esP u = some (n, r)) (h : RD S B R w u X) : Calls Tryd.prog 113 #[.pointer (some ⟨R, 0, none⟩)] w fun e w' => e = .returned (.int .i64 n) ∧ RD S B R w' r X ∧ Kp (fun j => j = R) w w' := by
  have := i_escaped B R u X w h
  rw [hn] at this
  exact this
theorem i_escN {S : Nat → Prop} {B R : Nat} {u : List Int} {X : List Nd} {w : World} (hn : esP u = none) (h : RD S B R w u X) : Calls Tryd.prog 113 #[.pointer (some ⟨R, 0, none⟩)] w (GivB B w) := by
  have := i_escaped B R u X w h
  rw [hn] at this
  exact this
set_option maxHeartbeats 4000000 in
theorem i_inBr {S : Nat → Prop} (B R : Nat) (u : List Int) (X : List Nd) (w : World) (h : RD S B R w u X) : Calls Tryd.prog 111 #[.pointer (some ⟨R, 0, none⟩)] w (PvA S B R w X (iv (inP u))) := by
  have H0 := hide h
  cases u with
  | nil =>
    have HT := hide (i_takesN B R 92 [] X w h (by simp))
    have HA := hide (i_nextN B R X w h)
    clear h
    go_enter Tryd.func111, Tryd.ntmps111
    go_wp2_with (first | (go_at_call 64; refine HT.out.mono ?_; rintro e w9 ⟨rfl, h9⟩; rw [h9]; clear h9 w9))
    refine HA.out.mono ?_
    rintro e w2 ⟨⟨tv, v, rfl⟩, k2⟩
    have K2 := hide k2
    clear k2
    go_wp2
    exact ⟨rfl, ⟨_, _, rfl⟩, K2.out⟩
  | cons c r =>
    by_cases e1 : c = 92
    · subst e1
      have E0 : Hid (inP (92 :: r) = esP r) := hide (by rw [inP, if_pos rfl])
      have HT := hide (i_takesY B R 92 r X w h)
      clear h
      go_enter Tryd.func111, Tryd.ntmps111
      go_wp2_with fail
      refine HT.out.mono ?_
      rintro e w1 ⟨rfl, h1, k1⟩
      have K1 := hide k1
      clear k1 HT
      rcases hn : esP r with _ | ⟨d, r2⟩
      · have HE := hide (i_escN hn h1)
        have E1 : Hid (inP (92 :: r) = none) := hide (by rw [E0.out, hn])
        clear h1 hn E0
        go_wp2_with fail
        refine HE.out.mono ?_
        rintro e w3 ⟨⟨tv, v, rfl⟩, k3⟩
        have K3 := hide (giv_kp H0.out K1.out ⟨⟨tv, v, rfl⟩, k3⟩)
        clear k3
        go_wp2
        rw [E1.out]
        exact ⟨rfl, K3.out⟩
      · have HE := hide (i_escY hn h1)
        have E1 : Hid (inP (92 :: r) = some (d, r2)) := hide (by rw [E0.out, hn])
        clear h1 hn E0
        go_wp2_with fail
        refine HE.out.mono ?_
        rintro e w3 ⟨rfl, h3, k3⟩
        have H3 := hide h3
        have K3 := hide (kp_tr K1.out k3)
        clear h3 k3
        go_wp2
        go_ret
        rw [E1.out]
        exact ⟨rfl, H3.out, K3.out⟩
    · have hc := rd_ch h c (by simp)
      have HT := hide (i_takesN B R 92 (c :: r) X w h (by simp [e1]))
      have HA := hide (i_nextC B R c r X w h)
      have E0 : Hid (inP (c :: r) = if isS sgI c = true then none else some (c, r)) := hide (by rw [inP, if_neg e1])
      have HS := hide (fun W => i_signI c W hc)
      obtain ⟨q, hq⟩ : ∃ q, isS sgI c = q := ⟨_, rfl⟩
      rw [hq] at HS E0
      clear e1 hq hc h
      go_enter Tryd.func111, Tryd.ntmps111
      go_wp2_with (first | (go_at_call 64; refine HT.out.mono ?_; rintro e w9 ⟨rfl, h9⟩; rw [h9]; clear h9 w9))
      refine HA.out.mono ?_
      rintro e w1 ⟨rfl, h1, k1⟩
      have H1 := hide h1
      have K1 := hide k1
      clear h1 k1 HA
      go_wp2_with fail
      refine (HS.out _).mono ?_
      rintro e w2 ⟨rfl, hb2⟩
      have H2 := hide (rd_bl H1.out hb2)
      have K2 := hide (kp_tr K1.out (kp_bl hb2 (Nat.le_refl _)))
      clear hb2
      cases q
      · have E1 : Hid (inP (c :: r) = some (c, r)) := hide (by rw [E0.out]; rfl)
        go_wp2_with (first | (go_at_call 41; refine (i_wantY _ _).mono ?_; rintro e w9 ⟨rfl, h9⟩; rw [h9]; clear h9 w9))
        go_ret
        rw [E1.out]
        exact ⟨rfl, H2.out, K2.out⟩
      · have E1 : Hid (inP (c :: r) = none) := hide (by rw [E0.out]; rfl)
        go_wp2_with fail
        refine (i_wantN B _ _).mono ?_
        rintro e w3 ⟨⟨tv, v, rfl⟩, k3⟩
        have K3 := hide (giv_kp H0.out K2.out ⟨⟨tv, v, rfl⟩, k3⟩)
        clear k3
        go_wp2
        rw [E1.out]
        exact ⟨rfl, K3.out⟩
theorem i_inY {S : Nat → Prop} {B R : Nat} {u : List Int} {X : List Nd} {w : World} {n : Int} {r : List Int} (hn : inP u = some (n, r)) (h : RD S B R w u X) : Calls Tryd.prog 111 #[.pointer (some ⟨R, 0, none⟩)] w fun e w' => e = .returned (.int .i64 n) ∧ RD S B R w' r X ∧ Kp (fun j => j = R) w w' := by
  have := i_inBr B R u X w h
  rw [hn] at this
  exact this
theorem i_inN {S : Nat → Prop} {B R : Nat} {u : List Int} {X : List Nd} {w : World} (hn : inP u = none) (h : RD S B R w u X) : Calls Tryd.prog 111 #[.pointer (some ⟨R, 0, none⟩)] w (GivB B w) := by
  have := i_inBr B R u X w h
  rw [hn] at this
  exact this
end Go.Proofs.YtibagghpimadfaaDoor

/-
  Contracts of the program's reader of expressions: a node more.
-/
namespace Go.Proofs.YtibagghpimadfaaDoor
open Go.RowKit Go.Joins
set_option linter.unusedVariables false
set_option linter.unusedSimpArgs false
theorem infoND : (Tryd.prog.info? 53).map (fun i => (i.zero, i.size, i.bytes)) = some (some (.agg #[.int .i64 0, .bool false, .slice none 0 0, .int .i64 0, .int .i64 0, .int .i64 0, .int .i64 0]), 7, 72) := by kernel_rfl
theorem infoRG : (Tryd.prog.info? 55).map (fun i => (i.zero, i.size, i.bytes)) = some (some (.agg #[.int .i64 0, .int .i64 0]), 2, 16) := by kernel_rfl
theorem grown_undrewR {w w' : World} {row : Option Nat} (h : w.drew.grownBy w' row) : w.grownBy w' row := ⟨h.os, h.tape, h.output, h.size, h.block⟩
section
variable {S : Nat → Prop} {w w' : World} {B R : Nat} {u : List Int} {X : List Nd}
theorem rd_blA (h : RD S B R w u X) (k : Below w.heap.size w w') : RD S B R w' u X := by
  obtain ⟨h0, ta, tc, ad, c, h1, h2, h3⟩ := h
  have hlt := xr_lt h1
  exact ⟨h0, ta, tc, ad, c, (k.block R hlt).trans h1, tx_go h2 (k.mono (by omega)), xo_below h3.1 k, h3.2⟩
/-- A node more, in memory. -/
theorem rd_push {nd : Nd} {na : Option Addr} {nc : Nat} {gg cap' : Nat} {w9 : World} {o : Obj} {ta ad : Option Addr} {tc c : Nat} {xs : List Value} (h0 : B ≤ R) (h1 : XR w R ta u.length tc ad X.length c) (h2 : Tx B w ta tc u) (hown : w.ownsRow B 53 7 (.slice ad X.length c) X.length xs) (hits : XItsZ 500 S w xs X) (hdj : Dj7 xs X.length) (hL : nd.L.length ≤ 500) (hS : ∀ j, S j → B ≤ j)
    (ho : w.ownsRow 0 55 2 (.slice na nd.L.length nc) nd.L.length (prV nd.L)) (hk : ∀ k, (Value.slice na nd.L.length nc).ownBlock = some k → B ≤ k ∧ ¬ S k)
    (hown9 : w9.ownsRow B 53 7 (.slice (some ⟨gg, 0, none⟩) (X.length + 1) cap') (X.length + 1) (xs ++ ndV nd na nc)) (hg : (w.alloc o).grownBy w9 (Value.slice ad X.length c).ownBlock) (hgB : B ≤ gg) :
    w9.cell? ⟨R, 1, none⟩ = some (.slice ad X.length c) ∧ w9.frozen? ⟨R, 1, none⟩ = false ∧ RD (fun j => B ≤ j) B R (w9.setCell ⟨R, 1, none⟩ (.slice (some ⟨gg, 0, none⟩) (X.length + 1) cap')) u (X ++ [nd]) ∧ Below B w (w9.setCell ⟨R, 1, none⟩ (.slice (some ⟨gg, 0, none⟩) (X.length + 1) cap')) := by
  have hlt := xr_lt h1
  have hkp : Kp (fun j => (Value.slice ad X.length c).ownBlock = some j) w w9 := (kp_alloc w o).trans (kp_grown (S := fun j => (Value.slice ad X.length c).ownBlock = some j) hg (fun j hj => hj)) (fun j _ hj => hj)
  have r9 : XR w9 R ta u.length tc ad X.length c := (hkp.block R hlt (fun e => type_ne hown e h1 (by decide) rfl)).trans h1
  have b9 : Below B w w9 := kp_below hkp (by omega) (fun k hk9 => (hown.lt k hk9).1)
  have ks := kp_r w9 R 1 (.slice (some ⟨gg, 0, none⟩) (X.length + 1) cap')
  have bs : Below B w9 (w9.setCell ⟨R, 1, none⟩ (.slice (some ⟨gg, 0, none⟩) (X.length + 1) cap')) := kp_below ks (by have := hkp.size; omega) (fun j hj => by have hj' : j = R := hj; omega)
  have i1 : XItsZ 500 (fun j => B ≤ j) w xs X := xits_imp hits (fun k _ hs => hS k hs)
  have i2 := xits_push i1 hown.1 ho (fun k hk9 => (hk k hk9).1) hL
  have d2 := dj7_push hdj hown.1 (nd := nd) (ad := na) (cp := nc) (fun j k hj hk9 e => (hk k e).2 (xits_kb hits hj hk9).1)
  have i3 := xits_kp i2 hkp (fun B' z n v ys j hv hj _ e => own_ne hv hj hown e (by decide) rfl)
  have hl : (X ++ [nd]).length = X.length + 1 := by simp
  refine ⟨(xr_cells r9).2, xr_frozen r9 1, ⟨h0, ta, tc, some ⟨gg, 0, none⟩, cap', ?_, tx_go (tx_go h2 b9) bs, ?_, fun k hk9 => by have h9 : gg = k := (by simpa [Value.ownBlock] using hk9); omega⟩, b9.trans bs⟩
  · rw [hl]; exact xr_o r9 _ _ _
  · refine xo_r r9 ⟨_, ?_, i3, ?_⟩ ks
    · rw [hl]; exact hown9
    · rw [hl]; exact d2
theorem ra_fin {nk : Int} {nt : Bool} {L : List (Int × Int)} {a b mn mx : Int} {na : Option Addr} {nc nL m : Nat} {gg cap' : Nat} {w9 : World} {o : Obj} {ta ad : Option Addr} {tc c : Nat} {xs : List Value} (hm : X.length = m) (hnL : L.length = nL) (h0 : B ≤ R) (h1 : XR w R ta u.length tc ad X.length c) (h2 : Tx B w ta tc u) (hown : w.ownsRow B 53 7 (.slice ad m c) m xs) (hits : XItsZ 500 S w xs X) (hdj : Dj7 xs X.length) (hL : L.length ≤ 500) (hS : ∀ j, S j → B ≤ j)
    (ho : w.ownsRow 0 55 2 (.slice na nL nc) nL (prV L)) (hk : ∀ k, (Value.slice na L.length nc).ownBlock = some k → B ≤ k ∧ ¬ S k)
    (hown9 : w9.ownsRow B 53 7 (.slice (some ⟨gg, 0, none⟩) (m + 1) cap') (m + 1) (xs ++ [.int .i64 nk, .bool nt, .slice na nL nc, .int .i64 a, .int .i64 b, .int .i64 mn, .int .i64 mx])) (hg : (w.alloc o).grownBy w9 (Value.slice ad m c).ownBlock) (hat : (Value.slice ad m c).ownBlock = some gg ∨ gg = w.heap.size + 1) :
    w9.cell? ⟨R, 1, none⟩ = some (.slice ad m c) ∧ w9.frozen? ⟨R, 1, none⟩ = false ∧ RD (fun j => B ≤ j) B R (w9.setCell ⟨R, 1, none⟩ (.slice (some ⟨gg, 0, none⟩) (m + 1) cap')) u (X ++ [⟨nk, nt, L, a, b, mn, mx⟩]) ∧ Below B w (w9.setCell ⟨R, 1, none⟩ (.slice (some ⟨gg, 0, none⟩) (m + 1) cap')) := by
  subst hm; subst hnL
  refine rd_push (nd := ⟨nk, nt, L, a, b, mn, mx⟩) h0 h1 h2 hown hits hdj hL hS ho hk hown9 hg ?_
  have := xr_lt h1
  rcases hat with e | e
  · exact (hown.lt gg e).1
  · omega
end
set_option maxRecDepth 100000 in
set_option maxHeartbeats 8000000 in
theorem i_add {S : Nat → Prop} (B R : Nat) (u : List Int) (X : List Nd) (nd : Nd) (na : Option Addr) (nc : Nat) (w : World) (hX : X.length ≤ 5000) (hL : nd.L.length ≤ 500) (h : RD S B R w u X) (hS : ∀ j, S j → B ≤ j) (ho : w.ownsRow 0 55 2 (.slice na nd.L.length nc) nd.L.length (prV nd.L)) (hk : ∀ k, (Value.slice na nd.L.length nc).ownBlock = some k → B ≤ k ∧ ¬ S k) :
    Calls Tryd.prog 65 #[.pointer (some ⟨R, 0, none⟩), .agg #[.int .i64 nd.k, .bool nd.nt, .slice na nd.L.length nc, .int .i64 nd.a, .int .i64 nd.b, .int .i64 nd.mn, .int .i64 nd.mx]] w fun e w' => e = .returned (.tuple #[]) ∧ RD (fun j => B ≤ j) B R w' u (X ++ [nd]) ∧ Below B w w' := by
  obtain ⟨i0, hi0, hz0, hz1, hz2⟩ := info_parts infoND
  obtain ⟨nk, nt, L, a, b, mn, mx⟩ := nd
  obtain ⟨nL, hnL⟩ : ∃ nL, L.length = nL := ⟨_, rfl⟩
  have hbB := rdx_lt h
  have bA : Below B w (w.alloc (.cells #[.int .i64 nk, .bool nt, .slice na L.length nc, .int .i64 a, .int .i64 b, .int .i64 mn, .int .i64 mx] 53)) := (Below.refl B w).alloc hbB _
  obtain ⟨h0, ta, tc, ad, c, h1, h2, h3⟩ := rd_blA h ((Below.refl w.heap.size w).alloc (Nat.le_refl _) (.cells #[.int .i64 nk, .bool nt, .slice na L.length nc, .int .i64 a, .int .i64 b, .int .i64 mn, .int .i64 mx] 53))
  have o1 := own_kp ho (kp_alloc (S := fun _ => False) w (.cells #[.int .i64 nk, .bool nt, .slice na L.length nc, .int .i64 a, .int .i64 b, .int .i64 mn, .int .i64 mx] 53)) (fun _ _ x => x)
  have hG := heap_alloc_new w (.cells #[.int .i64 nk, .bool nt, .slice na L.length nc, .int .i64 a, .int .i64 b, .int .i64 mn, .int .i64 mx] 53)
  have hsz : w.heap.size < (w.alloc (.cells #[.int .i64 nk, .bool nt, .slice na L.length nc, .int .i64 a, .int .i64 b, .int .i64 mn, .int .i64 mx] 53)).heap.size := by simp
  simp only [hnL] at hG h1 h2 h3 o1 hsz bA
  obtain ⟨G, hGw⟩ : ∃ G, w.heap.size = G := ⟨_, rfl⟩
  go_enter Tryd.func65, Tryd.ntmps65
  simp only [hnL]
  go_wp2_with fail
  obtain ⟨W, hW⟩ : ∃ W, w.alloc (.cells #[.int .i64 nk, .bool nt, .slice na nL nc, .int .i64 a, .int .i64 b, .int .i64 mn, .int .i64 mx] 53) = W := ⟨_, rfl⟩
  rw [hGw] at hG hsz
  rw [hW] at hG h1 h2 h3 o1 hsz bA
  rw [hW]
  clear hW
  obtain ⟨xs, hown, hits, hdj⟩ := h3.1
  have hBW : B ≤ W.heap.size := by omega
  have hRW := xr_lt h1
  have cG : ∀ i, W.drew.cell? ⟨G, i, none⟩ = (#[.int .i64 nk, .bool nt, .slice na nL nc, .int .i64 a, .int .i64 b, .int .i64 mn, .int .i64 mx] : Array Value)[i]? := fun i => by rw [cell_of_row W.drew G i _ _ (0, 0) hG]
  have g0 : W.drew.cell? ⟨G, 0, none⟩ = some (.int .i64 nk) := cG 0
  have g1 : W.drew.cell? ⟨G, 1, none⟩ = some (.bool nt) := cG 1
  have g2 : W.drew.cell? ⟨G, 2, none⟩ = some (.slice na nL nc) := cG 2
  have g3 : W.drew.cell? ⟨G, 3, none⟩ = some (.int .i64 a) := cG 3
  have g4 : W.drew.cell? ⟨G, 4, none⟩ = some (.int .i64 b) := cG 4
  have g5 : W.drew.cell? ⟨G, 5, none⟩ = some (.int .i64 mn) := cG 5
  have g6 : W.drew.cell? ⟨G, 6, none⟩ = some (.int .i64 mx) := cG 6
  have r1 : W.drew.cell? ⟨R, 1, none⟩ = some (.slice ad X.length c) := (xr_cells (w := W.drew) h1).2
  have r1a : ∀ o, (W.alloc o).cell? ⟨R, 1, none⟩ = some (.slice ad X.length c) := fun o => (xr_cells (w := W.alloc o) ((kp_alloc (S := fun _ => False) W o).block R hRW (fun x => x) |>.trans h1)).2
  have r1b : ∀ o, (W.alloc o).drew.cell? ⟨R, 1, none⟩ = some (.slice ad X.length c) := fun o => r1a o
  have H1 := hide h1
  have H2 := hide h2
  have HOW := hide hown
  have HIT := hide hits
  have HDJ := hide hdj
  have HS := hide hS
  have HK := hide hk
  have HO := hide o1
  have HA := hide bA
  obtain ⟨m, hm⟩ : ∃ m, X.length = m := ⟨_, rfl⟩
  have HM := hide hm
  rw [hm] at r1 r1a r1b hX HOW
  clear cG h1 h2 hown hits hdj hS hk o1 bA h ho hG hm hGw hbB
  go_region_law (first
    | (refine step_append_lies _ (by rfl) _ _ _ (by rfl) B 53 i0 _ 7 72 Tryd.underlying25 hi0 hz0 hz1 hz2 rfl (by omega) (.slice ad m c) m xs (by rfl) (HOW.out.alloc _).drew ⟨W.heap.size, 0, none⟩ 1 1 [.int .i64 nk, .bool nt, .slice na nL nc, .int .i64 a, .int .i64 b, .int .i64 mn, .int .i64 mx] (by rfl) (by rfl) (World.news_of_block (cs := #[.int .i64 nk, .bool nt, .slice na nL nc, .int .i64 a, .int .i64 b, .int .i64 mn, .int .i64 mx]) (t := 53) (fr := (0, 0)) (heap_alloc_new W _)) (by simp [Value.oneCell']) (by omega) (by unfold maxLen; omega) (by omega) (by simp; omega) (W.heap.size + 1) (by simp) ?_; intro gg cap' w9 hown9 hgrow9 hat9 hlt9; have hgr9 := grown_undrewR hgrow9; obtain ⟨hc9, hf9, h9, hb9⟩ := ra_fin HM.out hnL h0 H1.out H2.out HOW.out HIT.out HDJ.out hL HS.out HO.out HK.out hown9 hgr9 hat9; have H9 := hide h9; have HB9 := hide (HA.out.trans hb9); clear hown9 hgrow9 hgr9 hat9 h9 hb9)
    | (fail))
  all_goals
    go_wp2
    go_end0
    exact ⟨rfl, H9.out, HB9.out⟩
end Go.Proofs.YtibagghpimadfaaDoor
