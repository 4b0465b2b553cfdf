/-
  Contracts of the program's reader of expressions: a row, a choice.
-/
import Derived.Test.YtibagghpimadfaaGreatDoorV20
namespace Go.Proofs.YtibagghpimadfaaGreatDoor
open Go.RowKit Go.Joins
set_option linter.unusedVariables false
set_option linter.unusedSimpArgs false
theorem i_addN {B R : Nat} {u : List Int} {X : List Nd} {w : World} (k : Int) (a b : Int) (h : RD (fun j => B ≤ j) B R w u X) (hX : X.length ≤ 5000) : Calls Tryz.prog 52 #[.pointer (some ⟨R, 0, none⟩), .agg #[.int .i64 k, .bool false, .slice none 0 0, .int .i64 a, .int .i64 b, .int .i64 0, .int .i64 0]] w fun e w' => e = .returned (.tuple #[]) ∧ RD (fun j => B ≤ j) B R w' u (X ++ [⟨k, false, [], a, b, 0, 0⟩]) ∧ Below B w w' :=
  i_add B R u X ⟨k, false, [], a, b, 0, 0⟩ none 0 w hX (by simp) h (fun j hj => hj) (World.ownsRow_nil _ _ _ _) (fun k hk => by cases hk)
set_option maxRecDepth 100000 in
set_option maxHeartbeats 8000000 in
theorem i_row (n : Nat) (hP : PcC n) : RwC n := by
  intro B R u X w g hu hg hX h
  obtain ⟨f, rfl⟩ : ∃ f, g = f + 1 := ⟨g - 1, by omega⟩
  have HE : Hid (rdR (f + 1) u X = if rwE u = true then some (u, X ++ [emN]) else match rdP f u X with
    | none => none
    | some (u1, X1) => rdRl f u1 X1) := hide (by rw [rdR]; rfl)
  have HR := hide (i_rowEnd B R u X w h)
  by_cases hq : rwE u = true
  · have E : Hid (rdR (f + 1) u X = some (u, X ++ [emN])) := hide (by rw [HE.out, if_pos hq])
    have HA := hide (i_addN 1 0 0 h (by omega))
    rw [hq] at HR
    clear h HE hq
    go_enter Tryz.func49, Tryz.ntmps49
    go_wp2_with (first | (go_at_call 67; refine HR.out.mono ?_; rintro e w9 ⟨rfl, h9⟩; rw [h9]; clear h9 w9))
    refine HA.out.mono ?_
    rintro e w2 ⟨rfl, h2, k2⟩
    have H2 := hide h2
    have HB2 := hide k2
    clear h2 k2 HA
    go_wp2
    go_end0
    exact rai_y E.out rfl H2.out HB2.out
  · have hqf : rwE u = false := by simpa using hq
    have HP := hide (hP B R u X w f hu (by omega) hX h)
    rw [hqf] at HR
    rcases hr : rdP f u X with _ | ⟨u1, X1⟩
    · have E : Hid (rdR (f + 1) u X = none) := hide (by rw [HE.out, if_neg hq, hr])
      have HN := hide (rai_none hr HP.out)
      clear HE HP hr h hq hqf
      go_enter Tryz.func49, Tryz.ntmps49
      go_wp2_with (first | (go_at_call 67; refine HR.out.mono ?_; rintro e w9 ⟨rfl, h9⟩; rw [h9]; clear h9 w9))
      refine HN.out.mono ?_
      rintro e w2 ⟨⟨tv, v, rfl⟩, k2⟩
      have K2 := hide k2
      clear k2
      go_wp2
      exact ⟨rfl, rai_n E.out ⟨⟨_, _, rfl⟩, K2.out⟩⟩
    · have E0 : Hid (rdR (f + 1) u X = rdRl f u1 X1) := hide (by rw [HE.out, if_neg hq, hr])
      have HN := hide (rai_some hr HP.out)
      obtain ⟨hsy, hs1, hs2⟩ := (rd_sh f).2.2.2.2.1 hr
      have hsl : X.length ≤ X1.length := by obtain ⟨Y, rfl⟩ := hsy; simp
      clear HE HP hr h hq hqf hsy
      go_enter Tryz.func49, Tryz.ntmps49
      go_wp2_with (first | (go_at_call 67; refine HR.out.mono ?_; rintro e w9 ⟨rfl, h9⟩; rw [h9]; clear h9 w9))
      refine HN.out.mono ?_
      rintro e w1 ⟨rfl, h1, k1⟩
      have H1 := hide h1
      have HB1 := hide k1
      clear h1 k1 HN HR
      go_wp2_with fail
      go_loopw [] (fun wr => ∃ (ul : List Int) (Xl : List Nd) (q : Nat), (ul.length ≤ n ∧ 4 * ul.length + 3 ≤ q ∧ Xl.length + 2 * ul.length ≤ 1999) ∧ Hid (RD (fun j => B ≤ j) B R wr ul Xl) ∧ Hid (Below B w wr) ∧ Hid (rdR (f + 1) u X = rdRl q ul Xl)) (fun wr => rsN R wr)
      case atStart => exact ⟨u1, X1, f, ⟨by omega, by omega, by omega⟩, H1, HB1, E0⟩
      case round =>
        clear H1 HB1 E0
        obtain ⟨ul, Xl, q, ⟨hb1, hb2, hb3⟩, HR, HB, HE⟩ := hrel
        have hmeas := rsN_of HR.out
        obtain ⟨q, rfl⟩ : ∃ p, q = p + 1 := ⟨q - 1, by omega⟩
        have HE1 : Hid (rdR (f + 1) u X = if rwE ul = true then some (ul, Xl) else match rdP q ul Xl with
    | none => none
    | some (u1, X1) => rdRl q u1 (X1 ++ [sqN ((Xl.length : Int) - 1) ((X1.length : Int) - 1)])) := hide (by rw [HE.out, rdRl]; rfl)
        have HQ := hide (i_rowEnd B R ul Xl wr HR.out)
        clear HE
        by_cases hq : rwE ul = true
        · have E : Hid (rdR (f + 1) u X = some (ul, Xl)) := hide (by rw [HE1.out, if_pos hq])
          rw [hq] at HQ
          clear HE1 hq
          go_wp2_with (first | (go_at_call 67; refine HQ.out.mono ?_; rintro e w9 ⟨rfl, h9⟩; rw [h9]; clear h9 w9))
          go_end0
          exact rai_y E.out rfl HR.out HB.out
        · have hqf : rwE ul = false := by simpa using hq
          have HP := hide (hP B R ul Xl wr q hb1 (by omega) (by omega) HR.out)
          have HL := hide (i_last B R ul Xl wr (by omega) HR.out)
          rw [hqf] at HQ
          rcases hr : rdP q ul Xl with _ | ⟨u2, X2⟩
          · have E : Hid (rdR (f + 1) u X = none) := hide (by rw [HE1.out, if_neg hq, hr])
            have HN := hide (rai_none hr HP.out)
            clear HE1 HP hr hq hqf
            go_wp2_with (first | (go_at_call 67; refine HQ.out.mono ?_; rintro e w9 ⟨rfl, h9⟩; rw [h9]; clear h9 w9) | (go_at_call 50; refine HL.out.mono ?_; rintro e w9 ⟨rfl, h9⟩; rw [h9]; clear h9 w9))
            refine HN.out.mono ?_
            rintro e w2 ⟨⟨tv, v, rfl⟩, k2⟩
            have K2 := hide (giv_bl HB.out ⟨⟨tv, v, rfl⟩, k2⟩)
            clear k2
            go_wp2
            exact ⟨rfl, rai_n E.out K2.out⟩
          · have HE2 : Hid (rdR (f + 1) u X = rdRl q u2 (X2 ++ [sqN ((Xl.length : Int) - 1) ((X2.length : Int) - 1)])) := hide (by rw [HE1.out, if_neg hq, hr])
            have HN := hide (rai_some hr HP.out)
            obtain ⟨hsy, hs1, hs2⟩ := (rd_sh q).2.2.2.2.1 hr
            have hsl : Xl.length ≤ X2.length := by obtain ⟨Y, rfl⟩ := hsy; simp
            obtain ⟨a1, ha1⟩ : ∃ a1, (Xl.length : Int) - 1 = a1 := ⟨_, rfl⟩
            rw [ha1] at HE2 HL
            clear HE1 HP hr hq hqf hsy
            go_wp2_with (first | (go_at_call 67; refine HQ.out.mono ?_; rintro e w9 ⟨rfl, h9⟩; rw [h9]; clear h9 w9) | (go_at_call 50; refine HL.out.mono ?_; rintro e w9 ⟨rfl, h9⟩; rw [h9]; clear h9 w9))
            refine HN.out.mono ?_
            rintro e w2 ⟨rfl, h2, k2⟩
            have HB2 := hide (HB.out.trans k2)
            have HL2 := hide (i_last B R u2 X2 w2 (by omega) h2)
            obtain ⟨a2, ha2⟩ : ∃ a2, (X2.length : Int) - 1 = a2 := ⟨_, rfl⟩
            rw [ha2] at HE2 HL2
            have HA := hide (i_addN 3 a1 a2 h2 (by omega))
            clear h2 k2 HL HQ HN ha1 ha2
            go_wp2_with (first | (go_at_call 50; refine HL2.out.mono ?_; rintro e w9 ⟨rfl, h9⟩; rw [h9]; clear h9 w9))
            refine HA.out.mono ?_
            rintro e w3 ⟨rfl, h3, k3⟩
            have H3 := hide h3
            have HB3 := hide (HB2.out.trans k3)
            clear h3 k3 HA
            go_wp2
            go_roundw
            case rel => exact ⟨u2, X2 ++ [sqN a1 a2], q, ⟨by omega, by omega, by simp; omega⟩, H3, HB3, HE2⟩
            case measure => rw [rsN_of H3.out, hmeas]; omega
set_option maxRecDepth 100000 in
set_option maxHeartbeats 8000000 in
theorem i_choice (n : Nat) (hR : RwC n) : ChC n := by
  intro B R u X w g hu hg hX h
  obtain ⟨f, rfl⟩ : ∃ f, g = f + 1 := ⟨g - 1, by omega⟩
  have HE : Hid (rdC (f + 1) u X = match rdR f u X with
    | none => none
    | some (u1, X1) => rdCl f u1 X1) := hide (by rw [rdC]; rfl)
  have HP := hide (hR B R u X w f hu (by omega) hX h)
  rcases hr : rdR f u X with _ | ⟨u1, X1⟩
  · have E : Hid (rdC (f + 1) u X = none) := hide (by rw [HE.out, hr])
    have HN := hide (rai_none hr HP.out)
    clear HE HP hr h
    go_enter Tryz.func30, Tryz.ntmps30
    go_wp2_with fail
    refine HN.out.mono ?_
    rintro e w2 ⟨⟨tv, v, rfl⟩, k2⟩
    have K2 := hide k2
    clear k2
    go_wp2
    exact ⟨rfl, rai_n E.out ⟨⟨_, _, rfl⟩, K2.out⟩⟩
  · have E0 : Hid (rdC (f + 1) u X = rdCl f u1 X1) := hide (by rw [HE.out, hr])
    have HN := hide (rai_some hr HP.out)
    obtain ⟨hsy, hs1, hs2⟩ := (rd_sh f).2.2.1 hr
    clear HE HP hr h hsy
    go_enter Tryz.func30, Tryz.ntmps30
    go_wp2_with fail
    refine HN.out.mono ?_
    rintro e w1 ⟨rfl, h1, k1⟩
    have H1 := hide h1
    have HB1 := hide k1
    clear h1 k1 HN
    go_wp2_with fail
    go_loopw [] (fun wr => ∃ (ul : List Int) (Xl : List Nd) (q : Nat), (ul.length ≤ n ∧ 4 * ul.length + 3 ≤ q ∧ Xl.length + 2 * ul.length ≤ 2001) ∧ Hid (RD (fun j => B ≤ j) B R wr ul Xl) ∧ Hid (Below B w wr) ∧ Hid (rdC (f + 1) u X = rdCl q ul Xl)) (fun wr => rsN R wr)
    case atStart => exact ⟨u1, X1, f, ⟨by omega, by omega, by omega⟩, H1, HB1, E0⟩
    case round =>
      clear H1 HB1 E0
      obtain ⟨ul, Xl, q, ⟨hb1, hb2, hb3⟩, HR, HB, HE⟩ := hrel
      have hmeas := rsN_of HR.out
      obtain ⟨q, rfl⟩ : ∃ p, q = p + 1 := ⟨q - 1, by omega⟩
      have HE1 : Hid (rdC (f + 1) u X = if ul.head? = some 124 then (match rdR q ul.tail Xl with
    | none => none
    | some (u1, X1) => rdCl q u1 (X1 ++ [orN ((Xl.length : Int) - 1) ((X1.length : Int) - 1)])) else some (ul, Xl)) := hide (by rw [HE.out, rdCl]; rfl)
      have HL := hide (i_last B R ul Xl wr (by omega) HR.out)
      clear HE
      by_cases hq : ul.head? = some 124
      · obtain ⟨y, rfl⟩ : ∃ y, ul = 124 :: y := ⟨_, tail_cons hq⟩
        have HT := hide (i_takesY B R 124 y Xl wr HR.out)
        have HE2 : Hid (rdC (f + 1) u X = match rdR q y Xl with
    | none => none
    | some (u1, X1) => rdCl q u1 (X1 ++ [orN ((Xl.length : Int) - 1) ((X1.length : Int) - 1)])) := hide (by rw [HE1.out, if_pos hq]; rfl)
        simp only [List.length_cons] at hb1 hb2 hb3 hmeas
        obtain ⟨a1, ha1⟩ : ∃ a1, (Xl.length : Int) - 1 = a1 := ⟨_, rfl⟩
        rw [ha1] at HE2 HL
        clear HE1 hq ha1
        go_wp2_with (first | (go_at_call 50; refine HL.out.mono ?_; rintro e w9 ⟨rfl, h9⟩; rw [h9]; clear h9 w9))
        refine HT.out.mono ?_
        rintro e w2 ⟨rfl, h2, k2⟩
        have HB2 := hide (HB.out.trans (rd_kpB HR.out k2))
        have HP := hide (hR B R y Xl w2 q (by omega) (by omega) (by omega) h2)
        clear h2 k2 HL HT HR HB
        rcases hr : rdR q y Xl with _ | ⟨u2, X2⟩
        · have E : Hid (rdC (f + 1) u X = none) := hide (by rw [HE2.out, hr])
          have HN := hide (rai_none hr HP.out)
          clear HE2 HP hr
          go_wp2_with fail
          refine HN.out.mono ?_
          rintro e w3 ⟨⟨tv, v, rfl⟩, k3⟩
          have K3 := hide (giv_bl HB2.out ⟨⟨tv, v, rfl⟩, k3⟩)
          clear k3
          go_wp2
          exact ⟨rfl, rai_n E.out K3.out⟩
        · have HE3 : Hid (rdC (f + 1) u X = rdCl q u2 (X2 ++ [orN a1 ((X2.length : Int) - 1)])) := hide (by rw [HE2.out, hr])
          have HN := hide (rai_some hr HP.out)
          obtain ⟨hsy, hs1, hs2⟩ := (rd_sh q).2.2.1 hr
          clear HE2 HP hr hsy
          go_wp2_with fail
          refine HN.out.mono ?_
          rintro e w3 ⟨rfl, h3, k3⟩
          have HB3 := hide (HB2.out.trans k3)
          have HL2 := hide (i_last B R u2 X2 w3 (by omega) h3)
          obtain ⟨a2, ha2⟩ : ∃ a2, (X2.length : Int) - 1 = a2 := ⟨_, rfl⟩
          rw [ha2] at HE3 HL2
          have HA := hide (i_addN 4 a1 a2 h3 (by omega))
          clear h3 k3 HN ha2
          go_wp2_with (first | (go_at_call 50; refine HL2.out.mono ?_; rintro e w9 ⟨rfl, h9⟩; rw [h9]; clear h9 w9))
          refine HA.out.mono ?_
          rintro e w4 ⟨rfl, h4, k4⟩
          have H4 := hide h4
          have HB4 := hide (HB3.out.trans k4)
          clear h4 k4 HA
          go_wp2
          go_roundw
          case rel => exact ⟨u2, X2 ++ [orN a1 a2], q, ⟨by omega, by omega, by simp; omega⟩, H4, HB4, HE3⟩
          case measure => rw [rsN_of H4.out, hmeas]; omega
      · have E : Hid (rdC (f + 1) u X = some (ul, Xl)) := hide (by rw [HE1.out, if_neg hq])
        have HT := hide (i_takesN B R 124 ul Xl wr HR.out hq)
        clear HE1 hq
        go_wp2_with (first | (go_at_call 50; refine HL.out.mono ?_; rintro e w9 ⟨rfl, h9⟩; rw [h9]; clear h9 w9) | (go_at_call 51; refine HT.out.mono ?_; rintro e w9 ⟨rfl, h9⟩; rw [h9]; clear h9 w9))
        go_end0
        exact rai_y E.out rfl HR.out HB.out
/-- Every choice of at most 400 characters. -/
theorem i_all : ∀ n, n ≤ 400 → ChC n := by
  intro n
  induction n using Nat.strongRecOn with
  | ind n ih =>
    intro hn
    exact i_choice n (i_row n (i_piece n (i_atom n (fun m hm => ih m hm (by omega)) hn)))
end Go.Proofs.YtibagghpimadfaaGreatDoor
