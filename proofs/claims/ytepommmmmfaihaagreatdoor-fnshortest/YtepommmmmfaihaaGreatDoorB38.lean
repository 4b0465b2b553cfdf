/-
  Contracts of the program's reader of expressions: limits, escaped characters, characters within brackets.
-/
import Derived.Test.YtepommmmmfaihaaGreatDoorB37
namespace Go.Proofs.YtepommmmmfaihaaGreatDoor
open Go.RowKit Go.Joins
set_option linter.unusedVariables false
set_option linter.unusedSimpArgs false
def lv (o : Option ((Int × Int) × List Int)) : Option (Value × List Int) := o.map fun p => (.tuple #[.int .i64 p.1.1, .int .i64 p.1.2], p.2)
theorem pva_none {S : Nat → Prop} {B R : Nat} {w : World} {X : List Nd} {e : Ending} {w' : World} (h : GivB B w e w') : PvA S B R w X none e w' := h
theorem i_numY {S : Nat → Prop} {B R : Nat} {u : List Int} {X : List Nd} {w : World} {n : Int} {r : List Int} (hn : nmP u = some (n, r)) (h : RD S B R w u X) : Calls Tryz.prog 137 #[.pointer (some ⟨R, 0, none⟩)] w fun e w' => e = .returned (.int .i64 n) ∧ RD S B R w' r X ∧ Kp (fun j => j = R) w w' := by
  have := i_number B R u X w h
  rw [hn] at this
  exact this
theorem i_numN {S : Nat → Prop} {B R : Nat} {u : List Int} {X : List Nd} {w : World} (hn : nmP u = none) (h : RD S B R w u X) : Calls Tryz.prog 137 #[.pointer (some ⟨R, 0, none⟩)] w (GivB B w) := by
  have := i_number B R u X w h
  rw [hn] at this
  exact this
set_option maxHeartbeats 4000000 in
theorem i_limits {S : Nat → Prop} (B R : Nat) (u : List Int) (X : List Nd) (w : World) (h : RD S B R w u X) : Calls Tryz.prog 123 #[.pointer (some ⟨R, 0, none⟩)] w (PvA S B R w X (lv (lmP u))) := by
  have H0 := hide h
  rcases hn : nmP u with _ | ⟨n, r⟩
  · have e : lmP u = none := by unfold lmP; rw [hn]
    rw [e]
    have HA := hide (i_numN hn h)
    clear h hn e
    go_enter Tryz.func123, Tryz.ntmps123
    go_wp2_with fail
    refine HA.out.mono ?_
    rintro e w2 ⟨⟨tv, v, rfl⟩, k2⟩
    have K2 := hide k2
    clear k2
    go_wp2
    exact ⟨rfl, ⟨_, _, rfl⟩, K2.out⟩
  · have HA := hide (i_numY hn h)
    have E0 : Hid (lmP u = if r.head? = some 125 then some ((n, n), r.tail) else if r.head? = some 44 then (if r.tail.head? = some 125 then some ((n, -1), r.tail.tail) else match nmP r.tail with
      | none => none
      | some (m, r2) => if r2.head? = some 125 then some ((n, m), r2.tail) else none)
    else none) := hide (by unfold lmP; rw [hn]; rfl)
    clear h hn
    go_enter Tryz.func123, Tryz.ntmps123
    go_wp2_with fail
    refine HA.out.mono ?_
    rintro e w1 ⟨rfl, h1, k1⟩
    have K1 := hide k1
    clear HA k1
    by_cases e1 : r.head? = some 125
    · obtain ⟨q, rfl⟩ : ∃ q, r = 125 :: q := ⟨_, tail_cons e1⟩
      have HT := hide (i_takesY B R 125 q X w1 h1)
      have E1 : Hid (lmP u = some ((n, n), q)) := hide (by rw [E0.out, if_pos e1]; rfl)
      clear h1 E0 e1
      go_wp2_with fail
      refine HT.out.mono ?_
      rintro e w2 ⟨rfl, h2, k2⟩
      have H2 := hide h2
      have K2 := hide (kp_tr K1.out k2)
      clear h2 k2 HT
      go_wp2
      go_ret2
      rw [E1.out]
      exact ⟨rfl, H2.out, K2.out⟩
    · have HT := hide (i_takesN B R 125 r X w1 h1 e1)
      by_cases e2 : r.head? = some 44
      · obtain ⟨q, rfl⟩ : ∃ q, r = 44 :: q := ⟨_, tail_cons e2⟩
        have HM := hide (i_mustY B R 44 q X w1 h1)
        have E1 : Hid (lmP u = if q.head? = some 125 then some ((n, -1), q.tail) else match nmP q with
          | none => none
          | some (m, r2) => if r2.head? = some 125 then some ((n, m), r2.tail) else none) := hide (by rw [E0.out, if_neg e1, if_pos e2]; rfl)
        clear h1 E0 e1 e2
        go_wp2_with (first | (go_at_call 93; refine HT.out.mono ?_; rintro e w9 ⟨rfl, h9⟩; rw [h9]; clear h9 w9))
        refine HM.out.mono ?_
        rintro e w2 ⟨rfl, h2, k2⟩
        have K2 := hide (kp_tr K1.out k2)
        clear k2 HM HT
        by_cases e3 : q.head? = some 125
        · obtain ⟨q2, rfl⟩ : ∃ q2, q = 125 :: q2 := ⟨_, tail_cons e3⟩
          have HT := hide (i_takesY B R 125 q2 X w2 h2)
          have E2 : Hid (lmP u = some ((n, -1), q2)) := hide (by rw [E1.out, if_pos e3]; rfl)
          clear h2 E1 e3
          go_wp2_with fail
          refine HT.out.mono ?_
          rintro e w3 ⟨rfl, h3, k3⟩
          have H3 := hide h3
          have K3 := hide (kp_tr K2.out k3)
          clear h3 k3 HT
          go_wp2
          go_ret2
          rw [E2.out]
          exact ⟨rfl, H3.out, K3.out⟩
        · have HT := hide (i_takesN B R 125 q X w2 h2 e3)
          have E2 : Hid (lmP u = match nmP q with
          | none => none
          | some (m, r2) => if r2.head? = some 125 then some ((n, m), r2.tail) else none) := hide (by rw [E1.out, if_neg e3])
          clear E1 e3
          rcases hn2 : nmP q with _ | ⟨m, r2⟩
          · have E3 : Hid (lmP u = none) := hide (by rw [E2.out, hn2])
            have HA := hide (i_numN hn2 h2)
            clear h2 hn2 E2
            go_wp2_with (first | (go_at_call 93; refine HT.out.mono ?_; rintro e w9 ⟨rfl, h9⟩; rw [h9]; clear h9 w9))
            refine HA.out.mono ?_
            rintro e w3 ⟨⟨tv, v, rfl⟩, k3⟩
            have K3 := hide (giv_kp H0.out K2.out ⟨⟨tv, v, rfl⟩, k3⟩)
            clear k3
            go_wp2
            rw [E3.out]
            exact ⟨rfl, K3.out⟩
          · have HA := hide (i_numY hn2 h2)
            have E3 : Hid (lmP u = if r2.head? = some 125 then some ((n, m), r2.tail) else none) := hide (by rw [E2.out, hn2])
            clear h2 hn2 E2
            go_wp2_with (first | (go_at_call 93; refine HT.out.mono ?_; rintro e w9 ⟨rfl, h9⟩; rw [h9]; clear h9 w9))
            refine HA.out.mono ?_
            rintro e w3 ⟨rfl, h3, k3⟩
            have K3 := hide (kp_tr K2.out k3)
            clear k3 HA HT
            by_cases e4 : r2.head? = some 125
            · obtain ⟨q2, rfl⟩ : ∃ q2, r2 = 125 :: q2 := ⟨_, tail_cons e4⟩
              have HM := hide (i_mustY B R 125 q2 X w3 h3)
              have E4 : Hid (lmP u = some ((n, m), q2)) := hide (by rw [E3.out, if_pos e4]; rfl)
              clear h3 E3 e4
              go_wp2_with fail
              refine HM.out.mono ?_
              rintro e w4 ⟨rfl, h4, k4⟩
              have H4 := hide h4
              have K4 := hide (kp_tr K3.out k4)
              clear h4 k4 HM
              go_wp2
              go_ret2
              rw [E4.out]
              exact ⟨rfl, H4.out, K4.out⟩
            · have HM := hide (i_mustN B R 125 r2 X w3 h3 e4)
              have E4 : Hid (lmP u = none) := hide (by rw [E3.out, if_neg e4])
              clear h3 E3 e4
              go_wp2_with fail
              refine HM.out.mono ?_
              rintro e w4 ⟨⟨tv, v, rfl⟩, k4⟩
              have K4 := hide (giv_kp H0.out K3.out ⟨⟨tv, v, rfl⟩, k4⟩)
              clear k4
              go_wp2
              rw [E4.out]
              exact ⟨rfl, K4.out⟩
      · have HM := hide (i_mustN B R 44 r X w1 h1 e2)
        have E1 : Hid (lmP u = none) := hide (by rw [E0.out, if_neg e1, if_neg e2])
        clear h1 E0 e1 e2
        go_wp2_with (first | (go_at_call 93; refine HT.out.mono ?_; rintro e w9 ⟨rfl, h9⟩; rw [h9]; clear h9 w9))
        refine HM.out.mono ?_
        rintro e w4 ⟨⟨tv, v, rfl⟩, k4⟩
        have K4 := hide (giv_kp H0.out K1.out ⟨⟨tv, v, rfl⟩, k4⟩)
        clear k4
        go_wp2
        rw [E1.out]
        exact ⟨rfl, K4.out⟩
set_option maxHeartbeats 4000000 in
theorem i_escaped {S : Nat → Prop} (B R : Nat) (u : List Int) (X : List Nd) (w : World) (h : RD S B R w u X) : Calls Tryz.prog 141 #[.pointer (some ⟨R, 0, none⟩)] w (PvA S B R w X (iv (esP u))) := by
  have H0 := hide h
  cases u with
  | nil =>
    have HA := hide (i_nextN B R X w h)
    clear h
    go_enter Tryz.func141, Tryz.ntmps141
    go_wp2_with fail
    refine HA.out.mono ?_
    rintro e w2 ⟨⟨tv, v, rfl⟩, k2⟩
    have K2 := hide k2
    clear k2
    go_wp2
    exact ⟨rfl, ⟨_, _, rfl⟩, K2.out⟩
  | cons c r =>
    have hc := rd_ch h c (by simp)
    have HA := hide (i_nextC B R c r X w h)
    clear h
    by_cases e1 : c = 110
    · subst e1
      go_enter Tryz.func141, Tryz.ntmps141
      go_wp2_with fail
      refine HA.out.mono ?_
      rintro e w1 ⟨rfl, h1, k1⟩
      have H1 := hide h1
      have K1 := hide k1
      clear h1 k1 HA
      go_wp2
      go_ret
      exact ⟨rfl, H1.out, K1.out⟩
    · by_cases e2 : c = 114
      · subst e2
        go_enter Tryz.func141, Tryz.ntmps141
        go_wp2_with fail
        refine HA.out.mono ?_
        rintro e w1 ⟨rfl, h1, k1⟩
        have H1 := hide h1
        have K1 := hide k1
        clear h1 k1 HA
        go_wp2
        go_ret
        exact ⟨rfl, H1.out, K1.out⟩
      · by_cases e3 : c = 116
        · subst e3
          go_enter Tryz.func141, Tryz.ntmps141
          go_wp2_with fail
          refine HA.out.mono ?_
          rintro e w1 ⟨rfl, h1, k1⟩
          have H1 := hide h1
          have K1 := hide k1
          clear h1 k1 HA
          go_wp2
          go_ret
          exact ⟨rfl, H1.out, K1.out⟩
        · have b1 : (c == 110) = false := by simp [e1]
          have b2 : (c == 114) = false := by simp [e2]
          have b3 : (c == 116) = false := by simp [e3]
          have E0 : Hid (esP (c :: r) = if isS sgE c = true then some (c, r) else none) := hide (by rw [esP, if_neg e1, if_neg e2, if_neg e3])
          have HS := hide (fun W => i_signE c W hc)
          obtain ⟨q, hq⟩ : ∃ q, isS sgE c = q := ⟨_, rfl⟩
          rw [hq] at HS E0
          clear e1 e2 e3 hq hc
          go_enter Tryz.func141, Tryz.ntmps141
          go_wp2_with fail
          refine HA.out.mono ?_
          rintro e w1 ⟨rfl, h1, k1⟩
          have H1 := hide h1
          have K1 := hide k1
          clear h1 k1 HA
          go_wp2_with fail
          refine (HS.out _).mono ?_
          rintro e w2 ⟨rfl, hb2⟩
          have H2 := hide (rd_bl H1.out hb2)
          have K2 := hide (kp_tr K1.out (kp_bl hb2 (Nat.le_refl _)))
          clear hb2
          cases q
          · have E1 : Hid (esP (c :: r) = none) := hide (by rw [E0.out]; rfl)
            go_wp2_with fail
            refine (i_wantN B _ _).mono ?_
            rintro e w3 ⟨⟨tv, v, rfl⟩, k3⟩
            have K3 := hide (giv_kp H0.out K2.out ⟨⟨tv, v, rfl⟩, k3⟩)
            clear k3
            go_wp2
            rw [E1.out]
            exact ⟨rfl, K3.out⟩
          · have E1 : Hid (esP (c :: r) = some (c, r)) := hide (by rw [E0.out]; rfl)
            go_wp2_with (first | (go_at_call 79; refine (i_wantY _ _).mono ?_; rintro e w9 ⟨rfl, h9⟩; rw [h9]; clear h9 w9))
            go_ret
            rw [E1.out]
            exact ⟨rfl, H2.out, K2.out⟩
theorem i_escY {S : Nat → Prop} {B R : Nat} {u : List Int} {X : List Nd} {w : World} {n : Int} {r : List Int} (hn : esP u = some (n, r)) (h : RD S B R w u X) : Calls Tryz.prog 141 #[.pointer (some ⟨R, 0, none⟩)] w fun e w' => e = .returned (.int .i64 n) ∧ RD S B R w' r X ∧ Kp (fun j => j = R) w w' := by
  have := i_escaped B R u X w h
  rw [hn] at this
  exact this
theorem i_escN {S : Nat → Prop} {B R : Nat} {u : List Int} {X : List Nd} {w : World} (hn : esP u = none) (h : RD S B R w u X) : Calls Tryz.prog 141 #[.pointer (some ⟨R, 0, none⟩)] w (GivB B w) := by
  have := i_escaped B R u X w h
  rw [hn] at this
  exact this
set_option maxHeartbeats 4000000 in
theorem i_inBr {S : Nat → Prop} (B R : Nat) (u : List Int) (X : List Nd) (w : World) (h : RD S B R w u X) : Calls Tryz.prog 139 #[.pointer (some ⟨R, 0, none⟩)] w (PvA S B R w X (iv (inP u))) := by
  have H0 := hide h
  cases u with
  | nil =>
    have HT := hide (i_takesN B R 92 [] X w h (by simp))
    have HA := hide (i_nextN B R X w h)
    clear h
    go_enter Tryz.func139, Tryz.ntmps139
    go_wp2_with (first | (go_at_call 93; refine HT.out.mono ?_; rintro e w9 ⟨rfl, h9⟩; rw [h9]; clear h9 w9))
    refine HA.out.mono ?_
    rintro e w2 ⟨⟨tv, v, rfl⟩, k2⟩
    have K2 := hide k2
    clear k2
    go_wp2
    exact ⟨rfl, ⟨_, _, rfl⟩, K2.out⟩
  | cons c r =>
    by_cases e1 : c = 92
    · subst e1
      have E0 : Hid (inP (92 :: r) = esP r) := hide (by rw [inP, if_pos rfl])
      have HT := hide (i_takesY B R 92 r X w h)
      clear h
      go_enter Tryz.func139, Tryz.ntmps139
      go_wp2_with fail
      refine HT.out.mono ?_
      rintro e w1 ⟨rfl, h1, k1⟩
      have K1 := hide k1
      clear k1 HT
      rcases hn : esP r with _ | ⟨d, r2⟩
      · have HE := hide (i_escN hn h1)
        have E1 : Hid (inP (92 :: r) = none) := hide (by rw [E0.out, hn])
        clear h1 hn E0
        go_wp2_with fail
        refine HE.out.mono ?_
        rintro e w3 ⟨⟨tv, v, rfl⟩, k3⟩
        have K3 := hide (giv_kp H0.out K1.out ⟨⟨tv, v, rfl⟩, k3⟩)
        clear k3
        go_wp2
        rw [E1.out]
        exact ⟨rfl, K3.out⟩
      · have HE := hide (i_escY hn h1)
        have E1 : Hid (inP (92 :: r) = some (d, r2)) := hide (by rw [E0.out, hn])
        clear h1 hn E0
        go_wp2_with fail
        refine HE.out.mono ?_
        rintro e w3 ⟨rfl, h3, k3⟩
        have H3 := hide h3
        have K3 := hide (kp_tr K1.out k3)
        clear h3 k3
        go_wp2
        go_ret
        rw [E1.out]
        exact ⟨rfl, H3.out, K3.out⟩
    · have hc := rd_ch h c (by simp)
      have HT := hide (i_takesN B R 92 (c :: r) X w h (by simp [e1]))
      have HA := hide (i_nextC B R c r X w h)
      have E0 : Hid (inP (c :: r) = if isS sgI c = true then none else some (c, r)) := hide (by rw [inP, if_neg e1])
      have HS := hide (fun W => i_signI c W hc)
      obtain ⟨q, hq⟩ : ∃ q, isS sgI c = q := ⟨_, rfl⟩
      rw [hq] at HS E0
      clear e1 hq hc h
      go_enter Tryz.func139, Tryz.ntmps139
      go_wp2_with (first | (go_at_call 93; refine HT.out.mono ?_; rintro e w9 ⟨rfl, h9⟩; rw [h9]; clear h9 w9))
      refine HA.out.mono ?_
      rintro e w1 ⟨rfl, h1, k1⟩
      have H1 := hide h1
      have K1 := hide k1
      clear h1 k1 HA
      go_wp2_with fail
      refine (HS.out _).mono ?_
      rintro e w2 ⟨rfl, hb2⟩
      have H2 := hide (rd_bl H1.out hb2)
      have K2 := hide (kp_tr K1.out (kp_bl hb2 (Nat.le_refl _)))
      clear hb2
      cases q
      · have E1 : Hid (inP (c :: r) = some (c, r)) := hide (by rw [E0.out]; rfl)
        go_wp2_with (first | (go_at_call 79; refine (i_wantY _ _).mono ?_; rintro e w9 ⟨rfl, h9⟩; rw [h9]; clear h9 w9))
        go_ret
        rw [E1.out]
        exact ⟨rfl, H2.out, K2.out⟩
      · have E1 : Hid (inP (c :: r) = none) := hide (by rw [E0.out]; rfl)
        go_wp2_with fail
        refine (i_wantN B _ _).mono ?_
        rintro e w3 ⟨⟨tv, v, rfl⟩, k3⟩
        have K3 := hide (giv_kp H0.out K2.out ⟨⟨tv, v, rfl⟩, k3⟩)
        clear k3
        go_wp2
        rw [E1.out]
        exact ⟨rfl, K3.out⟩
theorem i_inY {S : Nat → Prop} {B R : Nat} {u : List Int} {X : List Nd} {w : World} {n : Int} {r : List Int} (hn : inP u = some (n, r)) (h : RD S B R w u X) : Calls Tryz.prog 139 #[.pointer (some ⟨R, 0, none⟩)] w fun e w' => e = .returned (.int .i64 n) ∧ RD S B R w' r X ∧ Kp (fun j => j = R) w w' := by
  have := i_inBr B R u X w h
  rw [hn] at this
  exact this
theorem i_inN {S : Nat → Prop} {B R : Nat} {u : List Int} {X : List Nd} {w : World} (hn : inP u = none) (h : RD S B R w u X) : Calls Tryz.prog 139 #[.pointer (some ⟨R, 0, none⟩)] w (GivB B w) := by
  have := i_inBr B R u X w h
  rw [hn] at this
  exact this
end Go.Proofs.YtepommmmmfaihaaGreatDoor
