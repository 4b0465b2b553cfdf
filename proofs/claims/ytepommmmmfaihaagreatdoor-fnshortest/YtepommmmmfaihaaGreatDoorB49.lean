/-
  Texts put together: RrI, RrJ.
-/
import Derived.Test.YtepommmmmfaihaaGreatDoorB46
import Derived.Defers
import Derived.Recover
/-
  Contracts of the program's reader of expressions: a row, a choice.
-/
namespace Go.Proofs.YtepommmmmfaihaaGreatDoor
open Go.RowKit Go.Joins
set_option linter.unusedVariables false
set_option linter.unusedSimpArgs false
theorem i_addN {B R : Nat} {u : List Int} {X : List Nd} {w : World} (k : Int) (a b : Int) (h : RD (fun j => B ≤ j) B R w u X) (hX : X.length ≤ 5000) : Calls Tryz.prog 94 #[.pointer (some ⟨R, 0, none⟩), .agg #[.int .i64 k, .bool false, .slice none 0 0, .int .i64 a, .int .i64 b, .int .i64 0, .int .i64 0]] w fun e w' => e = .returned (.tuple #[]) ∧ RD (fun j => B ≤ j) B R w' u (X ++ [⟨k, false, [], a, b, 0, 0⟩]) ∧ Below B w w' :=
  i_add B R u X ⟨k, false, [], a, b, 0, 0⟩ none 0 w hX (by simp) h (fun j hj => hj) (World.ownsRow_nil _ _ _ _) (fun k hk => by cases hk)
set_option maxRecDepth 100000 in
set_option maxHeartbeats 8000000 in
theorem i_row (n : Nat) (hP : PcC n) : RwC n := by
  intro B R u X w g hu hg hX h
  obtain ⟨f, rfl⟩ : ∃ f, g = f + 1 := ⟨g - 1, by omega⟩
  have HE : Hid (rdR (f + 1) u X = if rwE u = true then some (u, X ++ [emN]) else match rdP f u X with
    | none => none
    | some (u1, X1) => rdRl f u1 X1) := hide (by rw [rdR]; rfl)
  have HR := hide (i_rowEnd B R u X w h)
  by_cases hq : rwE u = true
  · have E : Hid (rdR (f + 1) u X = some (u, X ++ [emN])) := hide (by rw [HE.out, if_pos hq])
    have HA := hide (i_addN 1 0 0 h (by omega))
    rw [hq] at HR
    clear h HE hq
    go_enter Tryz.func91, Tryz.ntmps91
    go_wp2_with (first | (go_at_call 103; refine HR.out.mono ?_; rintro e w9 ⟨rfl, h9⟩; rw [h9]; clear h9 w9))
    refine HA.out.mono ?_
    rintro e w2 ⟨rfl, h2, k2⟩
    have H2 := hide h2
    have HB2 := hide k2
    clear h2 k2 HA
    go_wp2
    go_end0
    exact rai_y E.out rfl H2.out HB2.out
  · have hqf : rwE u = false := by simpa using hq
    have HP := hide (hP B R u X w f hu (by omega) hX h)
    rw [hqf] at HR
    rcases hr : rdP f u X with _ | ⟨u1, X1⟩
    · have E : Hid (rdR (f + 1) u X = none) := hide (by rw [HE.out, if_neg hq, hr])
      have HN := hide (rai_none hr HP.out)
      clear HE HP hr h hq hqf
      go_enter Tryz.func91, Tryz.ntmps91
      go_wp2_with (first | (go_at_call 103; refine HR.out.mono ?_; rintro e w9 ⟨rfl, h9⟩; rw [h9]; clear h9 w9))
      refine HN.out.mono ?_
      rintro e w2 ⟨⟨tv, v, rfl⟩, k2⟩
      have K2 := hide k2
      clear k2
      go_wp2
      exact ⟨rfl, rai_n E.out ⟨⟨_, _, rfl⟩, K2.out⟩⟩
    · have E0 : Hid (rdR (f + 1) u X = rdRl f u1 X1) := hide (by rw [HE.out, if_neg hq, hr])
      have HN := hide (rai_some hr HP.out)
      obtain ⟨hsy, hs1, hs2⟩ := (rd_sh f).2.2.2.2.1 hr
      have hsl : X.length ≤ X1.length := by obtain ⟨Y, rfl⟩ := hsy; simp
      clear HE HP hr h hq hqf hsy
      go_enter Tryz.func91, Tryz.ntmps91
      go_wp2_with (first | (go_at_call 103; refine HR.out.mono ?_; rintro e w9 ⟨rfl, h9⟩; rw [h9]; clear h9 w9))
      refine HN.out.mono ?_
      rintro e w1 ⟨rfl, h1, k1⟩
      have H1 := hide h1
      have HB1 := hide k1
      clear h1 k1 HN HR
      go_wp2_with fail
      go_loopw [] (fun wr => ∃ (ul : List Int) (Xl : List Nd) (q : Nat), (ul.length ≤ n ∧ 4 * ul.length + 3 ≤ q ∧ Xl.length + 2 * ul.length ≤ 1999) ∧ Hid (RD (fun j => B ≤ j) B R wr ul Xl) ∧ Hid (Below B w wr) ∧ Hid (rdR (f + 1) u X = rdRl q ul Xl)) (fun wr => rsN R wr)
      case atStart => exact ⟨u1, X1, f, ⟨by omega, by omega, by omega⟩, H1, HB1, E0⟩
      case round =>
        clear H1 HB1 E0
        obtain ⟨ul, Xl, q, ⟨hb1, hb2, hb3⟩, HR, HB, HE⟩ := hrel
        have hmeas := rsN_of HR.out
        obtain ⟨q, rfl⟩ : ∃ p, q = p + 1 := ⟨q - 1, by omega⟩
        have HE1 : Hid (rdR (f + 1) u X = if rwE ul = true then some (ul, Xl) else match rdP q ul Xl with
    | none => none
    | some (u1, X1) => rdRl q u1 (X1 ++ [sqN ((Xl.length : Int) - 1) ((X1.length : Int) - 1)])) := hide (by rw [HE.out, rdRl]; rfl)
        have HQ := hide (i_rowEnd B R ul Xl wr HR.out)
        clear HE
        by_cases hq : rwE ul = true
        · have E : Hid (rdR (f + 1) u X = some (ul, Xl)) := hide (by rw [HE1.out, if_pos hq])
          rw [hq] at HQ
          clear HE1 hq
          go_wp2_with (first | (go_at_call 103; refine HQ.out.mono ?_; rintro e w9 ⟨rfl, h9⟩; rw [h9]; clear h9 w9))
          go_end0
          exact rai_y E.out rfl HR.out HB.out
        · have hqf : rwE ul = false := by simpa using hq
          have HP := hide (hP B R ul Xl wr q hb1 (by omega) (by omega) HR.out)
          have HL := hide (i_last B R ul Xl wr (by omega) HR.out)
          rw [hqf] at HQ
          rcases hr : rdP q ul Xl with _ | ⟨u2, X2⟩
          · have E : Hid (rdR (f + 1) u X = none) := hide (by rw [HE1.out, if_neg hq, hr])
            have HN := hide (rai_none hr HP.out)
            clear HE1 HP hr hq hqf
            go_wp2_with (first | (go_at_call 103; refine HQ.out.mono ?_; rintro e w9 ⟨rfl, h9⟩; rw [h9]; clear h9 w9) | (go_at_call 92; refine HL.out.mono ?_; rintro e w9 ⟨rfl, h9⟩; rw [h9]; clear h9 w9))
            refine HN.out.mono ?_
            rintro e w2 ⟨⟨tv, v, rfl⟩, k2⟩
            have K2 := hide (giv_bl HB.out ⟨⟨tv, v, rfl⟩, k2⟩)
            clear k2
            go_wp2
            exact ⟨rfl, rai_n E.out K2.out⟩
          · have HE2 : Hid (rdR (f + 1) u X = rdRl q u2 (X2 ++ [sqN ((Xl.length : Int) - 1) ((X2.length : Int) - 1)])) := hide (by rw [HE1.out, if_neg hq, hr])
            have HN := hide (rai_some hr HP.out)
            obtain ⟨hsy, hs1, hs2⟩ := (rd_sh q).2.2.2.2.1 hr
            have hsl : Xl.length ≤ X2.length := by obtain ⟨Y, rfl⟩ := hsy; simp
            obtain ⟨a1, ha1⟩ : ∃ a1, (Xl.length : Int) - 1 = a1 := ⟨_, rfl⟩
            rw [ha1] at HE2 HL
            clear HE1 HP hr hq hqf hsy
            go_wp2_with (first | (go_at_call 103; refine HQ.out.mono ?_; rintro e w9 ⟨rfl, h9⟩; rw [h9]; clear h9 w9) | (go_at_call 92; refine HL.out.mono ?_; rintro e w9 ⟨rfl, h9⟩; rw [h9]; clear h9 w9))
            refine HN.out.mono ?_
            rintro e w2 ⟨rfl, h2, k2⟩
            have HB2 := hide (HB.out.trans k2)
            have HL2 := hide (i_last B R u2 X2 w2 (by omega) h2)
            obtain ⟨a2, ha2⟩ : ∃ a2, (X2.length : Int) - 1 = a2 := ⟨_, rfl⟩
            rw [ha2] at HE2 HL2
            have HA := hide (i_addN 3 a1 a2 h2 (by omega))
            clear h2 k2 HL HQ HN ha1 ha2
            go_wp2_with (first | (go_at_call 92; refine HL2.out.mono ?_; rintro e w9 ⟨rfl, h9⟩; rw [h9]; clear h9 w9))
            refine HA.out.mono ?_
            rintro e w3 ⟨rfl, h3, k3⟩
            have H3 := hide h3
            have HB3 := hide (HB2.out.trans k3)
            clear h3 k3 HA
            go_wp2
            go_roundw
            case rel => exact ⟨u2, X2 ++ [sqN a1 a2], q, ⟨by omega, by omega, by simp; omega⟩, H3, HB3, HE2⟩
            case measure => rw [rsN_of H3.out, hmeas]; omega
set_option maxRecDepth 100000 in
set_option maxHeartbeats 8000000 in
theorem i_choice (n : Nat) (hR : RwC n) : ChC n := by
  intro B R u X w g hu hg hX h
  obtain ⟨f, rfl⟩ : ∃ f, g = f + 1 := ⟨g - 1, by omega⟩
  have HE : Hid (rdC (f + 1) u X = match rdR f u X with
    | none => none
    | some (u1, X1) => rdCl f u1 X1) := hide (by rw [rdC]; rfl)
  have HP := hide (hR B R u X w f hu (by omega) hX h)
  rcases hr : rdR f u X with _ | ⟨u1, X1⟩
  · have E : Hid (rdC (f + 1) u X = none) := hide (by rw [HE.out, hr])
    have HN := hide (rai_none hr HP.out)
    clear HE HP hr h
    go_enter Tryz.func78, Tryz.ntmps78
    go_wp2_with fail
    refine HN.out.mono ?_
    rintro e w2 ⟨⟨tv, v, rfl⟩, k2⟩
    have K2 := hide k2
    clear k2
    go_wp2
    exact ⟨rfl, rai_n E.out ⟨⟨_, _, rfl⟩, K2.out⟩⟩
  · have E0 : Hid (rdC (f + 1) u X = rdCl f u1 X1) := hide (by rw [HE.out, hr])
    have HN := hide (rai_some hr HP.out)
    obtain ⟨hsy, hs1, hs2⟩ := (rd_sh f).2.2.1 hr
    clear HE HP hr h hsy
    go_enter Tryz.func78, Tryz.ntmps78
    go_wp2_with fail
    refine HN.out.mono ?_
    rintro e w1 ⟨rfl, h1, k1⟩
    have H1 := hide h1
    have HB1 := hide k1
    clear h1 k1 HN
    go_wp2_with fail
    go_loopw [] (fun wr => ∃ (ul : List Int) (Xl : List Nd) (q : Nat), (ul.length ≤ n ∧ 4 * ul.length + 3 ≤ q ∧ Xl.length + 2 * ul.length ≤ 2001) ∧ Hid (RD (fun j => B ≤ j) B R wr ul Xl) ∧ Hid (Below B w wr) ∧ Hid (rdC (f + 1) u X = rdCl q ul Xl)) (fun wr => rsN R wr)
    case atStart => exact ⟨u1, X1, f, ⟨by omega, by omega, by omega⟩, H1, HB1, E0⟩
    case round =>
      clear H1 HB1 E0
      obtain ⟨ul, Xl, q, ⟨hb1, hb2, hb3⟩, HR, HB, HE⟩ := hrel
      have hmeas := rsN_of HR.out
      obtain ⟨q, rfl⟩ : ∃ p, q = p + 1 := ⟨q - 1, by omega⟩
      have HE1 : Hid (rdC (f + 1) u X = if ul.head? = some 124 then (match rdR q ul.tail Xl with
    | none => none
    | some (u1, X1) => rdCl q u1 (X1 ++ [orN ((Xl.length : Int) - 1) ((X1.length : Int) - 1)])) else some (ul, Xl)) := hide (by rw [HE.out, rdCl]; rfl)
      have HL := hide (i_last B R ul Xl wr (by omega) HR.out)
      clear HE
      by_cases hq : ul.head? = some 124
      · obtain ⟨y, rfl⟩ : ∃ y, ul = 124 :: y := ⟨_, tail_cons hq⟩
        have HT := hide (i_takesY B R 124 y Xl wr HR.out)
        have HE2 : Hid (rdC (f + 1) u X = match rdR q y Xl with
    | none => none
    | some (u1, X1) => rdCl q u1 (X1 ++ [orN ((Xl.length : Int) - 1) ((X1.length : Int) - 1)])) := hide (by rw [HE1.out, if_pos hq]; rfl)
        simp only [List.length_cons] at hb1 hb2 hb3 hmeas
        obtain ⟨a1, ha1⟩ : ∃ a1, (Xl.length : Int) - 1 = a1 := ⟨_, rfl⟩
        rw [ha1] at HE2 HL
        clear HE1 hq ha1
        go_wp2_with (first | (go_at_call 92; refine HL.out.mono ?_; rintro e w9 ⟨rfl, h9⟩; rw [h9]; clear h9 w9))
        refine HT.out.mono ?_
        rintro e w2 ⟨rfl, h2, k2⟩
        have HB2 := hide (HB.out.trans (rd_kpB HR.out k2))
        have HP := hide (hR B R y Xl w2 q (by omega) (by omega) (by omega) h2)
        clear h2 k2 HL HT HR HB
        rcases hr : rdR q y Xl with _ | ⟨u2, X2⟩
        · have E : Hid (rdC (f + 1) u X = none) := hide (by rw [HE2.out, hr])
          have HN := hide (rai_none hr HP.out)
          clear HE2 HP hr
          go_wp2_with fail
          refine HN.out.mono ?_
          rintro e w3 ⟨⟨tv, v, rfl⟩, k3⟩
          have K3 := hide (giv_bl HB2.out ⟨⟨tv, v, rfl⟩, k3⟩)
          clear k3
          go_wp2
          exact ⟨rfl, rai_n E.out K3.out⟩
        · have HE3 : Hid (rdC (f + 1) u X = rdCl q u2 (X2 ++ [orN a1 ((X2.length : Int) - 1)])) := hide (by rw [HE2.out, hr])
          have HN := hide (rai_some hr HP.out)
          obtain ⟨hsy, hs1, hs2⟩ := (rd_sh q).2.2.1 hr
          clear HE2 HP hr hsy
          go_wp2_with fail
          refine HN.out.mono ?_
          rintro e w3 ⟨rfl, h3, k3⟩
          have HB3 := hide (HB2.out.trans k3)
          have HL2 := hide (i_last B R u2 X2 w3 (by omega) h3)
          obtain ⟨a2, ha2⟩ : ∃ a2, (X2.length : Int) - 1 = a2 := ⟨_, rfl⟩
          rw [ha2] at HE3 HL2
          have HA := hide (i_addN 4 a1 a2 h3 (by omega))
          clear h3 k3 HN ha2
          go_wp2_with (first | (go_at_call 92; refine HL2.out.mono ?_; rintro e w9 ⟨rfl, h9⟩; rw [h9]; clear h9 w9))
          refine HA.out.mono ?_
          rintro e w4 ⟨rfl, h4, k4⟩
          have H4 := hide h4
          have HB4 := hide (HB3.out.trans k4)
          clear h4 k4 HA
          go_wp2
          go_roundw
          case rel => exact ⟨u2, X2 ++ [orN a1 a2], q, ⟨by omega, by omega, by simp; omega⟩, H4, HB4, HE3⟩
          case measure => rw [rsN_of H4.out, hmeas]; omega
      · have E : Hid (rdC (f + 1) u X = some (ul, Xl)) := hide (by rw [HE1.out, if_neg hq])
        have HT := hide (i_takesN B R 124 ul Xl wr HR.out hq)
        clear HE1 hq
        go_wp2_with (first | (go_at_call 92; refine HL.out.mono ?_; rintro e w9 ⟨rfl, h9⟩; rw [h9]; clear h9 w9) | (go_at_call 93; refine HT.out.mono ?_; rintro e w9 ⟨rfl, h9⟩; rw [h9]; clear h9 w9))
        go_end0
        exact rai_y E.out rfl HR.out HB.out
/-- Every choice of at most 400 characters. -/
theorem i_all : ∀ n, n ≤ 400 → ChC n := by
  intro n
  induction n using Nat.strongRecOn with
  | ind n ih =>
    intro hn
    exact i_choice n (i_row n (i_piece n (i_atom n (fun m hm => ih m hm (by omega)) hn)))
end Go.Proofs.YtepommmmmfaihaaGreatDoor

/-
  Contract of the program's reader of expressions: the whole text, where it gives up with a panic that is recovered.
-/
namespace Go.Proofs.YtepommmmmfaihaaGreatDoor
open Go.RowKit Go.Joins
set_option linter.unusedVariables false
set_option linter.unusedSimpArgs false
theorem catchR_panic (p q : Addr) (x y : Value) (t : TypeId) (pv : Value) (older : List PanicEntry) (w : World) (hc : w.cell? p = some x) (hz : w.frozen? p = false) (hd : (w.setCell p (.slice none 0 0)).cell? q = some y) (hy : (w.setCell p (.slice none 0 0)).frozen? q = false) :
    CallsD Tryz.prog 77 #[.pointer (some p), .pointer (some q)] (.panicking ({ v := .iface t pv, recovered := false } :: older)) w fun e u' w' =>
      e = .returned (.tuple #[]) ∧ u' = .panicking ({ v := .iface t pv, recovered := true } :: older) ∧ w' = (w.setCell p (.slice none 0 0)).setCell q (.bool false) := by
  refine callsD_of_wpS Tryz.func77 rfl fun c₀ cs hu => ?_
  apply wpS_seq
  apply wpS_region
  simp [wpOpsS, go_sem, recoverD, hu, Tryz.ntmps77, Exit.thenS]
  refine wpS_cond (t := true) (by simp [Act.eval, Array.replicate]) ?_
  simp only [if_true]
  apply wpS_region
  simp [wpOpsS, go_sem, hc, hz, hd, hy, bodyPostS, results, Tryz.results77]
theorem catchR_idle (p q : Addr) (w : World) :
    CallsD Tryz.prog 77 #[.pointer (some p), .pointer (some q)] .returning w fun e u' w' => e = .returned (.tuple #[]) ∧ u' = .returning ∧ w' = w := by
  refine callsD_of_wpS Tryz.func77 rfl fun c₀ cs hu => ?_
  apply wpS_seq
  apply wpS_region
  simp [wpOpsS, go_sem, recoverD, hu, Tryz.ntmps77, Exit.thenS]
  refine wpS_cond (t := false) (by simp [Act.eval, Array.replicate]) ?_
  simp only [Bool.false_eq_true, if_false]
  refine wpS_of_wp (wp_skip ?_)
  cases c₀
  simp_all [bodyPostS, results, Tryz.results77]
/-- The whole text. -/
def rdW (u : List Int) : Option (List Nd) := match rdC (4 * u.length + 4) u [] with
  | some ([], X) => some X
  | _ => none
theorem rdW_some {u : List Int} {X : List Nd} (h : rdC (4 * u.length + 4) u [] = some ([], X)) : rdW u = some X := by unfold rdW; rw [h]
theorem rdW_none {u : List Int} (h : rdC (4 * u.length + 4) u [] = none) : rdW u = none := by unfold rdW; rw [h]
theorem rdW_more {u r : List Int} {c : Int} {X : List Nd} (h : rdC (4 * u.length + 4) u [] = some (c :: r, X)) : rdW u = none := by unfold rdW; rw [h]
/-- What the whole text gives. -/
def RwX (o : Option (List Nd)) (w : World) (e : Ending) (w' : World) : Prop := match o with
  | some X => ∃ ad c, e = .returned (.tuple #[.slice ad X.length c, .bool true]) ∧ XOZ 500 w.heap.size (fun j => w.heap.size ≤ j) w' ad c X ∧ Below w.heap.size w w'
  | none => e = .returned (.tuple #[.slice none 0 0, .bool false]) ∧ Below w.heap.size w w'
/-- A box of one cell. -/
def BX (w : World) (L : Nat) (v : Value) (t : TypeId) : Prop := w.heap[L]? = some (.cells #[v] t (0, 0))
section
variable {w w' : World} {L : Nat} {v : Value} {t : TypeId}
theorem bx_cell (h : BX w L v t) : w.cell? ⟨L, 0, none⟩ = some v := by
  rw [cell_of_row w L 0 _ _ (0, 0) h]; rfl
theorem bx_frozen (h : BX w L v t) : w.frozen? ⟨L, 0, none⟩ = false := frozen_of_row w L 0 _ _ h
theorem bx_set (h : BX w L v t) (v' : Value) : BX (w.setCell ⟨L, 0, none⟩ v') L v' t := heap_setCell_same w L 0 _ _ v' h
theorem bx_kp {S : Nat → Prop} (h : BX w L v t) (k : Kp S w w') (hS : ¬ S L) : BX w' L v t := (k.block L (Array.getElem?_eq_some_iff.1 h).1 hS).trans h
theorem bx_bl {B : Nat} (h : BX w L v t) (k : Below B w w') (hS : L < B) : BX w' L v t := (k.block L hS).trans h
end
/-- The two boxes are set: the answer. -/
theorem bx_two {w : World} {L : Nat} {v1 v2 a b : Value} {t1 t2 : TypeId} (h1 : BX w L v1 t1) (h2 : BX w (L + 1) v2 t2) : BX ((w.setCell ⟨L, 0, none⟩ a).setCell ⟨L + 1, 0, none⟩ b) L a t1 ∧ BX ((w.setCell ⟨L, 0, none⟩ a).setCell ⟨L + 1, 0, none⟩ b) (L + 1) b t2 ∧ Kp (fun j => j = L ∨ j = L + 1) w ((w.setCell ⟨L, 0, none⟩ a).setCell ⟨L + 1, 0, none⟩ b) ∧ BX (w.setCell ⟨L, 0, none⟩ a) (L + 1) v2 t2 := by
  have a1 := bx_set h1 a
  have k1 : Kp (fun j => j = L) w (w.setCell ⟨L, 0, none⟩ a) := kp_set (S := fun j => j = L) _ _ _ rfl
  have a2 := bx_kp h2 k1 (by omega)
  have k2 : Kp (fun j => j = L + 1) (w.setCell ⟨L, 0, none⟩ a) ((w.setCell ⟨L, 0, none⟩ a).setCell ⟨L + 1, 0, none⟩ b) := kp_set (S := fun j => j = L + 1) _ _ _ rfl
  exact ⟨bx_kp a1 k2 (by omega), bx_set a2 b, ((Kp.refl (fun j => j = L ∨ j = L + 1) w).trans k1 (fun j _ hj => .inl hj)).trans k2 (fun j _ hj => .inr hj), a2⟩
theorem xo_lower {Z B B' : Nat} {S : Nat → Prop} {w : World} {ad : Option Addr} {c : Nat} {X : List Nd} (h : XOZ Z B S w ad c X) (hB : B' ≤ B) : XOZ Z B' S w ad c X := by
  obtain ⟨xs, ⟨h0, h1⟩, h2, h3⟩ := h
  refine ⟨xs, ⟨h0, ?_⟩, h2, h3⟩
  rcases h1 with h1 | ⟨g, cap, cur, hv, hg, rest⟩
  · exact .inl h1
  · exact .inr ⟨g, cap, cur, hv, Nat.le_trans hB hg, rest⟩
set_option maxRecDepth 100000 in
set_option maxHeartbeats 4000000 in
theorem i_readRx (u : List Int) (n : Nat) (ta : Option Addr) (tc : Nat) (w : World) (hn : u.length = n) (hu : n ≤ 400) (ht : Tx w.heap.size w ta tc u) : Calls Tryz.prog 53 #[.slice ta n tc] w (RwX (rdW u) w) := by
  have hmf : ∀ (fn : Fn) (first cap : Array Value) (w : World), (Instr.makeFunc fn first cap).run Tryz.prog w = .ok (.func fn first cap) w := fun _ _ _ _ => rfl
  have hwaD : ∃ wa, wa = (((w.alloc (.cells #[.slice none 0 0] 24)).alloc (.cells #[.bool false] 4)).alloc (.cells #[.slice ta n tc, .slice none 0 0] 107)) := ⟨_, rfl⟩
  obtain ⟨wa, hwa⟩ := hwaD
  have hsz : wa.heap.size = w.heap.size + 3 := by rw [hwa]; simp
  have HKA : Hid (Kp (fun _ => False) w wa) := hide (by
    rw [hwa]
    exact ((kp_alloc w _).trans (kp_alloc (S := fun _ => False) _ _) (fun _ _ x => x)).trans (kp_alloc (S := fun _ => False) _ _) (fun _ _ x => x))
  have HBA : Hid (Below w.heap.size w wa) := hide (kp_below HKA.out (Nat.le_refl _) (fun _ h9 => h9.elim))
  have HA : Hid (RD (fun j => w.heap.size + 1 + 1 ≤ j) (w.heap.size + 1 + 1) (w.heap.size + 1 + 1) wa u []) := hide (by
    refine ⟨Nat.le_refl _, ta, tc, none, 0, ?_, ?_, xo_nil _ _ _, fun k hk => (by cases hk)⟩
    · rw [hwa, hn]
      have := heap_alloc_new ((w.alloc (.cells #[.slice none 0 0] 24)).alloc (.cells #[.bool false] 4)) (.cells #[.slice ta n tc, .slice none 0 0] 107)
      rw [show ((w.alloc (.cells #[.slice none 0 0] 24)).alloc (.cells #[.bool false] 4)).heap.size = w.heap.size + 1 + 1 by simp] at this
      exact this
    · obtain ⟨t1, t2, t3, t4⟩ := tx_go ht HBA.out
      exact ⟨t1, t2, fun h9 => by obtain ⟨b, off, e, hb, hc⟩ := t3 h9; exact ⟨b, off, e, by omega, hc⟩, t4⟩)
  have HB1 : Hid (BX wa w.heap.size (.slice none 0 0) 24) := hide (by
    rw [hwa]
    exact bx_kp (bx_kp (w := w.alloc _) (heap_alloc_new w _) (kp_alloc (S := fun _ => False) _ _) (fun x => x)) (kp_alloc (S := fun _ => False) _ _) (fun x => x))
  have HB2 : Hid (BX wa (w.heap.size + 1) (.bool false) 4) := hide (by
    rw [hwa]
    have := heap_alloc_new (w.alloc (.cells #[.slice none 0 0] 24)) (.cells #[.bool false] 4)
    rw [show (w.alloc (.cells #[.slice none 0 0] 24)).heap.size = w.heap.size + 1 by simp] at this
    exact bx_kp this (kp_alloc (S := fun _ => False) _ _) (fun x => x))
  have HC := hide (i_all u.length (by omega) (w.heap.size + 1 + 1) (w.heap.size + 1 + 1) u [] wa (4 * u.length + 4) (Nat.le_refl _) (Nat.le_refl _) (by simp; omega) HA.out)
  clear ht hn
  go_enter_defers Tryz.func53, Tryz.ntmps53
  go_wp2_with fail
  rw [← hwa]
  clear hwa
  rcases hr : rdC (4 * u.length + 4) u [] with _ | ⟨u1, X1⟩
  · have HN := hide (rai_none hr HC.out)
    have HE := hide (rdW_none hr)
    clear HC hr
    refine HN.out.mono ?_
    rintro e w1 ⟨⟨tv, v, rfl⟩, hb⟩
    have b1 := bx_bl HB1.out hb (by omega)
    have b2 := bx_bl HB2.out hb (by omega)
    have HB := hide (HBA.out.trans (hb.mono (by omega)))
    have BB1 := hide b1
    have BB2 := hide b2
    clear hb b1 b2
    go_wp2
    refine leaves_cons (f := 77) (args := #[.pointer (some ⟨w.heap.size, 0, none⟩), .pointer (some ⟨w.heap.size + 1, 0, none⟩)]) (by simp) (by simp [go_sem]) ?_
    have g1 := BB1.out
    have g2 := BB2.out
    obtain ⟨q1, q2, q3, q4⟩ := bx_two (a := .slice none 0 0) (b := .bool false) g1 g2
    refine (catchR_panic ⟨w.heap.size, 0, none⟩ ⟨w.heap.size + 1, 0, none⟩ _ _ tv v [] w1 (bx_cell g1) (bx_frozen g1) (bx_cell q4) (bx_frozen q4)).mono ?_
    rintro e u9 w9 ⟨rfl, rfl, hw9⟩
    rw [← hw9] at q1 q2 q3
    clear hw9
    have d1 := bx_cell q1
    have d2 := bx_cell q2
    have HQ : Hid (RwX (rdW u) w (.returned (.tuple #[.slice none 0 0, .bool false])) w9) := hide (by rw [HE.out]; exact ⟨rfl, HB.out.trans (kp_below q3 HB.out.size (fun j hj => by omega))⟩)
    simp [Leaves, settle, results, Tryz.results53, go_sem, d1, d2]
    exact HQ.out
  · have HN := hide (rai_some hr HC.out)
    refine HN.out.mono ?_
    rintro e w1 ⟨rfl, h1, hb⟩
    have b1 := bx_bl HB1.out hb (by omega)
    have b2 := bx_bl HB2.out hb (by omega)
    have HB := hide (HBA.out.trans (hb.mono (by omega)))
    obtain ⟨h0, t1, tc1, ad, c, hx1, htx1, hxo, hxk⟩ := h1
    obtain ⟨r0, r1⟩ := xr_cells hx1
    have c1 := bx_cell b1
    have c2 := bx_cell b2
    have f1 := bx_frozen b1
    have f2 := bx_frozen b2
    have BB1 := hide b1
    have BB2 := hide b2
    have HXO := hide hxo
    clear hb b1 b2 hx1 htx1 hxo hxk HC HN
    cases u1 with
    | cons d r =>
      have HE := hide (rdW_more hr)
      have hl : (((d :: r).length : Int) == 0) = false := by simp only [List.length_cons, beq_eq_false_iff_ne, ne_eq]; omega
      clear hr
      go_wp2_with fail
      refine (i_wantN w1.heap.size _ _).mono ?_
      rintro e w2 ⟨⟨tv, v, rfl⟩, k2⟩
      have hs1 := HB.out.size
      have g1 := bx_bl BB1.out k2 (Array.getElem?_eq_some_iff.1 BB1.out).1
      have g2 := bx_bl BB2.out k2 (Array.getElem?_eq_some_iff.1 BB2.out).1
      have HB2 := hide (HB.out.trans (k2.mono hs1))
      obtain ⟨q1, q2, q3, q4⟩ := bx_two (a := .slice none 0 0) (b := .bool false) g1 g2
      have HQQ := hide (And.intro q1 (And.intro q2 (And.intro q3 q4)))
      have HG := hide (And.intro g1 g2)
      clear k2 c1 c2 f1 f2 r0 r1 g1 g2 q1 q2 q3 q4
      go_wp2
      refine leaves_cons (f := 77) (args := #[.pointer (some ⟨w.heap.size, 0, none⟩), .pointer (some ⟨w.heap.size + 1, 0, none⟩)]) (by simp) (by simp [go_sem]) ?_
      obtain ⟨q1, q2, q3, q4⟩ := HQQ.out
      obtain ⟨g1, g2⟩ := HG.out
      refine (catchR_panic ⟨w.heap.size, 0, none⟩ ⟨w.heap.size + 1, 0, none⟩ _ _ tv v [] w2 (bx_cell g1) (bx_frozen g1) (bx_cell q4) (bx_frozen q4)).mono ?_
      rintro e u9 w9 ⟨rfl, rfl, hw9⟩
      rw [← hw9] at q1 q2 q3
      clear hw9
      have d1 := bx_cell q1
      have d2 := bx_cell q2
      have HQ : Hid (RwX (rdW u) w (.returned (.tuple #[.slice none 0 0, .bool false])) w9) := hide (by rw [HE.out]; exact ⟨rfl, HB2.out.trans (kp_below q3 HB2.out.size (fun j hj => by omega))⟩)
      simp [Leaves, settle, results, Tryz.results53, go_sem, d1, d2]
      exact HQ.out
    | nil =>
      have HE := hide (rdW_some hr)
      clear hr
      go_wp2_with fail
      refine (i_wantY _ _).mono ?_
      rintro e w2 ⟨rfl, hw2⟩
      rw [hw2]
      clear hw2 w2
      go_wp2
      obtain ⟨q1, q2, q3, -⟩ := bx_two (a := .slice ad X1.length c) (b := .bool true) BB1.out BB2.out
      obtain ⟨wf, hwf⟩ : ∃ wf, (w1.setCell ⟨w.heap.size, 0, none⟩ (.slice ad X1.length c)).setCell ⟨w.heap.size + 1, 0, none⟩ (.bool true) = wf := ⟨_, rfl⟩
      rw [hwf] at q1 q2 q3
      rw [hwf]
      clear hwf
      have d1 := bx_cell q1
      have d2 := bx_cell q2
      have HQ : Hid (RwX (rdW u) w (.returned (.tuple #[.slice ad X1.length c, .bool true])) wf) := hide (by
        rw [HE.out]
        refine ⟨ad, c, rfl, xo_kp (xo_imp (xo_lower HXO.out (by omega)) (fun k _ hs => by have hs' : w.heap.size + 1 + 1 ≤ k := hs; omega)) q3 (fun j hj => ?_) (fun B' z n v ys j hv hj _ => ?_), HB.out.trans (kp_below q3 HB.out.size (fun j hj => by omega))⟩
        · obtain ⟨xs, hx, -⟩ := HXO.out
          rintro (e | e)
          · exact type_ne hx hj BB1.out (by decide) e
          · exact type_ne hx hj BB2.out (by decide) e
        · rintro (e | e)
          · exact type_ne hv hj BB1.out (by decide) e
          · exact type_ne hv hj BB2.out (by decide) e)
      refine leaves_cons (f := 77) (args := #[.pointer (some ⟨w.heap.size, 0, none⟩), .pointer (some ⟨w.heap.size + 1, 0, none⟩)]) (by simp) (by simp [go_sem]) ?_
      refine (catchR_idle ⟨w.heap.size, 0, none⟩ ⟨w.heap.size + 1, 0, none⟩ _).mono ?_
      rintro e u9 w9 ⟨rfl, rfl, rfl⟩
      simp [Leaves, settle, results, Tryz.results53, go_sem, d1, d2]
      exact HQ.out
end Go.Proofs.YtepommmmmfaihaaGreatDoor
