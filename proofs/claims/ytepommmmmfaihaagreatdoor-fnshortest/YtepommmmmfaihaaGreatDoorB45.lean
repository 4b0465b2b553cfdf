/-
  Contracts of the program's reader of expressions: an atom, a piece.
-/
import Derived.Test.YtepommmmmfaihaaGreatDoorB40
namespace Go.Proofs.YtepommmmmfaihaaGreatDoor
open Go.RowKit Go.Joins
set_option linter.unusedVariables false
set_option linter.unusedSimpArgs false
/-- What a choice, a row, a piece, an atom of at most n characters leave. -/
def ChC (n : Nat) : Prop := ∀ (B R : Nat) (u : List Int) (X : List Nd) (w : World) (g : Nat), u.length ≤ n → 4 * u.length + 4 ≤ g → X.length + 2 * u.length ≤ 2000 → RD (fun j => B ≤ j) B R w u X → Calls Tryz.prog 78 #[.pointer (some ⟨R, 0, none⟩)] w (RaI B R w (rdC g u X))
def RwC (n : Nat) : Prop := ∀ (B R : Nat) (u : List Int) (X : List Nd) (w : World) (g : Nat), u.length ≤ n → 4 * u.length + 3 ≤ g → X.length + 2 * u.length ≤ 2000 → RD (fun j => B ≤ j) B R w u X → Calls Tryz.prog 91 #[.pointer (some ⟨R, 0, none⟩)] w (RaI B R w (rdR g u X))
def PcC (n : Nat) : Prop := ∀ (B R : Nat) (u : List Int) (X : List Nd) (w : World) (g : Nat), u.length ≤ n → 4 * u.length + 2 ≤ g → X.length + 2 * u.length ≤ 2000 → RD (fun j => B ≤ j) B R w u X → Calls Tryz.prog 104 #[.pointer (some ⟨R, 0, none⟩)] w (RaI B R w (rdP g u X))
def AtC (n : Nat) : Prop := ∀ (B R : Nat) (u : List Int) (X : List Nd) (w : World) (g : Nat), u.length ≤ n → 4 * u.length + 1 ≤ g → X.length + 2 * u.length ≤ 2000 → RD (fun j => B ≤ j) B R w u X → Calls Tryz.prog 122 #[.pointer (some ⟨R, 0, none⟩)] w (RaI B R w (rdA g u X))
theorem rai_some {B R : Nat} {w : World} {o : Option (List Int × List Nd)} {u' : List Int} {X' : List Nd} {F : Nat} {args : Array Value} (ho : o = some (u', X')) (h : Calls Tryz.prog F args w (RaI B R w o)) : Calls Tryz.prog F args w fun e w' => e = .returned (.tuple #[]) ∧ RD (fun j => B ≤ j) B R w' u' X' ∧ Below B w w' := by
  rw [ho] at h; exact h
theorem rai_none {B R : Nat} {w : World} {o : Option (List Int × List Nd)} {F : Nat} {args : Array Value} (ho : o = none) (h : Calls Tryz.prog F args w (RaI B R w o)) : Calls Tryz.prog F args w (GivB B w) := by
  rw [ho] at h; exact h
theorem rai_y {B R : Nat} {w w' : World} {o : Option (List Int × List Nd)} {u' : List Int} {X' : List Nd} {e : Ending} (ho : o = some (u', X')) (he : e = .returned (.tuple #[])) (h : RD (fun j => B ≤ j) B R w' u' X') (hb : Below B w w') : RaI B R w o e w' := by
  rw [ho]; exact ⟨he, h, hb⟩
theorem rai_n {B R : Nat} {w w' : World} {o : Option (List Int × List Nd)} {e : Ending} (ho : o = none) (h : GivB B w e w') : RaI B R w o e w' := by
  rw [ho]; exact h
set_option maxRecDepth 100000 in
set_option maxHeartbeats 8000000 in
theorem i_atom (n : Nat) (hC : ∀ m, m < n → ChC m) (hn : n ≤ 400) : AtC n := by
  intro B R u X w g hu hg hX h
  have H0 := hide h
  have hB := rdx_lt h
  obtain ⟨f, rfl⟩ : ∃ f, g = f + 1 := ⟨g - 1, by omega⟩
  cases u with
  | nil =>
    have E : Hid (rdA (f + 1) [] X = none) := hide (by rw [rdA])
    have HA := hide (i_nextN B R X w h)
    clear h
    go_enter Tryz.func122, Tryz.ntmps122
    go_wp2_with fail
    refine HA.out.mono ?_
    rintro e w2 ⟨⟨tv, v, rfl⟩, k2⟩
    have K2 := hide k2
    clear k2
    go_wp2
    exact ⟨rfl, rai_n E.out ⟨⟨_, _, rfl⟩, K2.out⟩⟩
  | cons c r =>
    have hc := rd_ch h c (by simp)
    simp only [List.length_cons] at hu hg hX
    have HA := hide (i_nextC B R c r X w h)
    clear h
    go_enter Tryz.func122, Tryz.ntmps122
    go_wp2_with fail
    refine HA.out.mono ?_
    rintro e w1 ⟨rfl, h1, k1⟩
    have HB1 := hide (rd_kpB H0.out k1)
    have hz1 : B ≤ w1.heap.size := rdx_lt h1
    clear k1 HA
    by_cases e1 : c = 40
    · have HE : Hid (rdA (f + 1) (c :: r) X = match rdC f r X with
      | none => none
      | some (u1, X1) => if u1.head? = some 41 then some (u1.tail, X1) else none) := hide (by rw [rdA, if_pos e1]; rfl)
      have HC := hide (hC r.length (by omega) B R r X w1 f (Nat.le_refl _) (by omega) (by omega) h1)
      subst e1
      clear h1
      rcases hr : rdC f r X with _ | ⟨u1, X1⟩
      · have E : Hid (rdA (f + 1) (40 :: r) X = none) := hide (by rw [HE.out, hr])
        have HN := hide (rai_none hr HC.out)
        clear HE HC hr
        go_wp2_with fail
        refine HN.out.mono ?_
        rintro e w2 ⟨⟨tv, v, rfl⟩, k2⟩
        have K2 := hide (giv_bl HB1.out ⟨⟨tv, v, rfl⟩, k2⟩)
        clear k2
        go_wp2
        exact ⟨rfl, rai_n E.out K2.out⟩
      · have HE2 : Hid (rdA (f + 1) (40 :: r) X = if u1.head? = some 41 then some (u1.tail, X1) else none) := hide (by rw [HE.out, hr])
        have HN := hide (rai_some hr HC.out)
        clear HE HC hr
        go_wp2_with fail
        refine HN.out.mono ?_
        rintro e w2 ⟨rfl, h2, k2⟩
        have HB2 := hide (HB1.out.trans k2)
        have H2 := hide h2
        clear k2 HN
        by_cases e2 : u1.head? = some 41
        · obtain ⟨q, rfl⟩ : ∃ q, u1 = 41 :: q := ⟨_, tail_cons e2⟩
          have E : Hid (rdA (f + 1) (40 :: r) X = some (q, X1)) := hide (by rw [HE2.out, if_pos e2]; rfl)
          have HM := hide (i_mustY B R 41 q X1 w2 h2)
          clear h2 HE2 e2
          go_wp2_with fail
          refine HM.out.mono ?_
          rintro e w3 ⟨rfl, h3, k3⟩
          have H3 := hide h3
          have HB3 := hide (HB2.out.trans (rd_kpB H2.out k3))
          clear h3 k3 HM
          go_wp2
          go_end0
          exact rai_y E.out rfl H3.out HB3.out
        · have E : Hid (rdA (f + 1) (40 :: r) X = none) := hide (by rw [HE2.out, if_neg e2])
          have HM := hide (i_mustN B R 41 u1 X1 w2 h2 e2)
          clear h2 HE2 e2
          go_wp2_with fail
          refine HM.out.mono ?_
          rintro e w3 ⟨⟨tv, v, rfl⟩, k3⟩
          have K3 := hide (giv_bl HB2.out ⟨⟨tv, v, rfl⟩, k3⟩)
          clear k3
          go_wp2
          exact ⟨rfl, rai_n E.out K3.out⟩
    · have b1 : (c == 40) = false := by simp [e1]
      by_cases e2 : c = 91
      · have HE : Hid (rdA (f + 1) (c :: r) X = brP r X) := hide (by rw [rdA, if_neg e1, if_pos e2])
        have HN := hide (i_brackets B R r X w1 (by omega) (by omega) h1)
        subst e2
        clear h1 e1 b1
        rcases hr : brP r X with _ | ⟨u1, X1⟩
        · have HN := hide (rai_none hr HN.out)
          have E : Hid (rdA (f + 1) (91 :: r) X = none) := hide (by rw [HE.out, hr])
          clear hr HE
          go_wp2_with fail
          refine HN.out.mono ?_
          rintro e w2 ⟨⟨tv, v, rfl⟩, k2⟩
          have K2 := hide (giv_bl HB1.out ⟨⟨tv, v, rfl⟩, k2⟩)
          clear k2
          go_wp2
          exact ⟨rfl, rai_n E.out K2.out⟩
        · have HN := hide (rai_some hr HN.out)
          have E : Hid (rdA (f + 1) (91 :: r) X = some (u1, X1)) := hide (by rw [HE.out, hr])
          clear hr HE
          go_wp2_with fail
          refine HN.out.mono ?_
          rintro e w2 ⟨rfl, h2, k2⟩
          have HB2 := hide (HB1.out.trans k2)
          have H2 := hide h2
          clear k2 h2
          go_wp2
          go_end0
          exact rai_y E.out rfl H2.out HB2.out
      · have b2 : (c == 91) = false := by simp [e2]
        by_cases e3 : c = 46
        · have E : Hid (rdA (f + 1) (c :: r) X = some (r, X ++ [dotN])) := hide (by rw [rdA, if_neg e1, if_neg e2, if_pos e3])
          have HA := hide (i_add B R r X dotN (some ⟨w1.heap.size, 0, none⟩) 2 (w1.alloc (.cells #[.int .i64 10, .int .i64 10, .int .i64 13, .int .i64 13] 103)) (by omega) (by decide) (rd_blA (rd_small h1) ((Below.refl w1.heap.size w1).alloc (Nat.le_refl _) _)) (fun j hj => hj.1) (own_prL (L := [(10, 10), (13, 13)]) (n := 2) rfl (by omega) rfl (heap_alloc_new w1 _)) (fun k hk => by
            have h9 : w1.heap.size = k := (by simpa [Value.ownBlock] using hk)
            refine ⟨by omega, fun h10 => ?_⟩
            have : k < w1.heap.size := h10.2
            omega))
          have HB2 := hide (HB1.out.trans (((Below.refl w1.heap.size w1).alloc (Nat.le_refl _) (.cells #[.int .i64 10, .int .i64 10, .int .i64 13, .int .i64 13] 103)).mono hz1))
          subst e3
          clear h1 e1 b1 e2 b2
          go_wp2_with fail
          refine HA.out.mono ?_
          rintro e w2 ⟨rfl, h2, k2⟩
          have H2 := hide h2
          have HB3 := hide (HB2.out.trans k2)
          clear h2 k2
          go_wp2
          go_end0
          exact rai_y E.out rfl H2.out HB3.out
        · have b3 : (c == 46) = false := by simp [e3]
          by_cases e4 : c = 92
          · have HE : Hid (rdA (f + 1) (c :: r) X = bsP r X) := hide (by rw [rdA, if_neg e1, if_neg e2, if_neg e3, if_pos e4])
            have HN := hide (i_slash B R r X w1 (by omega) h1)
            subst e4
            clear h1 e1 b1 e2 b2 e3 b3
            rcases hr : bsP r X with _ | ⟨u1, X1⟩
            · have HN := hide (rai_none hr HN.out)
              have E : Hid (rdA (f + 1) (92 :: r) X = none) := hide (by rw [HE.out, hr])
              clear hr HE
              go_wp2_with fail
              refine HN.out.mono ?_
              rintro e w2 ⟨⟨tv, v, rfl⟩, k2⟩
              have K2 := hide (giv_bl HB1.out ⟨⟨tv, v, rfl⟩, k2⟩)
              clear k2
              go_wp2
              exact ⟨rfl, rai_n E.out K2.out⟩
            · have HN := hide (rai_some hr HN.out)
              have E : Hid (rdA (f + 1) (92 :: r) X = some (u1, X1)) := hide (by rw [HE.out, hr])
              clear hr HE
              go_wp2_with fail
              refine HN.out.mono ?_
              rintro e w2 ⟨rfl, h2, k2⟩
              have HB2 := hide (HB1.out.trans k2)
              have H2 := hide h2
              clear k2 h2
              go_wp2
              go_end0
              exact rai_y E.out rfl H2.out HB2.out
          · have b4 : (c == 92) = false := by simp [e4]
            have HE : Hid (rdA (f + 1) (c :: r) X = if isS sgO c = true then none else some (r, X ++ [clsN c])) := hide (by rw [rdA, if_neg e1, if_neg e2, if_neg e3, if_neg e4])
            have HS := hide (fun W => i_signO c W hc)
            obtain ⟨q, hq⟩ : ∃ q, isS sgO c = q := ⟨_, rfl⟩
            rw [hq] at HS HE
            have H1 := hide h1
            clear hq hc e1 e2 e3 e4 h1
            go_wp2_with fail
            refine (HS.out _).mono ?_
            rintro e w2 ⟨rfl, hb2⟩
            have H2 := hide (rd_blA H1.out hb2)
            have HB2 := hide (HB1.out.trans (hb2.mono hz1))
            have hz2 : B ≤ w2.heap.size := rdx_lt H2.out
            clear hb2
            cases q
            · have E : Hid (rdA (f + 1) (c :: r) X = some (r, X ++ [clsN c])) := hide (by rw [HE.out]; rfl)
              go_wp2_with (first | (go_at_call 79; refine (i_wantY _ _).mono ?_; rintro e w9 ⟨rfl, h9⟩; rw [h9]; clear h9 w9))
              refine (i_classOf c _).mono ?_
              rintro e w3 ⟨q, rfl, hq, hr3, hb3⟩
              have HB3 := hide (HB2.out.trans (hb3.mono hz2))
              have HA := hide (i_add B R r X (clsN c) (some ⟨q, 0, none⟩) 1 w3 (by omega) (by simp [clsN]) (rd_blA (rd_small H2.out) hb3) (fun j hj => hj.1) hr3 (fun k hk => by
                have h9 : q = k := (by simpa [Value.ownBlock] using hk)
                refine ⟨by omega, fun h10 => ?_⟩
                have : k < w2.heap.size := h10.2
                omega))
              clear hr3 hb3
              go_wp2_with fail
              refine HA.out.mono ?_
              rintro e w4 ⟨rfl, h4, k4⟩
              have H4 := hide h4
              have HB4 := hide (HB3.out.trans k4)
              clear h4 k4 HA
              go_wp2
              go_end0
              exact rai_y E.out rfl H4.out HB4.out
            · have E : Hid (rdA (f + 1) (c :: r) X = none) := hide (by rw [HE.out]; rfl)
              go_wp2_with fail
              refine (i_wantN B _ _).mono ?_
              rintro e w3 ⟨⟨tv, v, rfl⟩, k3⟩
              have K3 := hide (giv_bl HB2.out ⟨⟨tv, v, rfl⟩, k3⟩)
              clear k3
              go_wp2
              exact ⟨rfl, rai_n E.out K3.out⟩
end Go.Proofs.YtepommmmmfaihaaGreatDoor
