/-
  Contracts of the laws' helpers on rows of expression nodes: the marks of all nodes, and that they stand.
-/
import Derived.Test.YtckemldmdgmjjaaDoorLiM
namespace Go.Proofs.YtckemldmdgmjjaaDoor
open Go.RowKit Go.Joins
set_option linter.unusedVariables false
set_option linter.unusedSimpArgs false
/-- The mark that a node's first place has. -/
def cntN (X : List Nd) : Nat → Nat
  | 0 => 1
  | i + 1 => cntN X i + 6 + 2 * (ndAt X i).L.length
theorem cnt_pos (X : List Nd) : ∀ i, 1 ≤ cntN X i
  | 0 => Nat.le_refl _
  | i + 1 => by have := cnt_pos X i; show 1 ≤ cntN X i + 6 + _; omega
theorem cnt_le {X : List Nd} (h : ∀ (j : Nat) (nd : Nd), X[j]? = some nd → nd.L.length ≤ 100) : ∀ i, i ≤ X.length → cntN X i ≤ 1 + 206 * i
  | 0, _ => Nat.le_refl _
  | i + 1, hi => by
    have h1 := cnt_le h i (by omega)
    have h2 := h i X[i] (List.getElem?_eq_getElem (by omega))
    rw [← ndAt_of (X := X) (List.getElem?_eq_getElem (by omega))] at h2
    show cntN X i + 6 + 2 * _ ≤ _
    omega
def mkNd (K : Nat) (nd : Nd) : Nd := ⟨K, ((K : Int) + 1) % 3 == 0, mkR ((K : Int) + 1 + 1) nd.L nd.L.length, (K : Int) + 1 + 1 + 2 * (nd.L.length : Int), (K : Int) + 1 + 1 + 2 * (nd.L.length : Int) + 1, (K : Int) + 1 + 1 + 2 * (nd.L.length : Int) + 1 + 1, (K : Int) + 1 + 1 + 2 * (nd.L.length : Int) + 1 + 1 + 1⟩
/-- The first i nodes have their marks. -/
def mkP (X : List Nd) (i : Nat) : List Nd := X.mapIdx fun j nd => if j < i then mkNd (cntN X j) nd else nd
theorem mkP_len (X : List Nd) (i : Nat) : (mkP X i).length = X.length := by unfold mkP; simp
theorem mkP_zero (X : List Nd) : mkP X 0 = X := by
  unfold mkP
  apply List.ext_getElem?
  intro j
  rw [List.getElem?_mapIdx]
  cases X[j]? <;> simp
theorem mkP_at {X : List Nd} {i j : Nat} {nd : Nd} (h : X[j]? = some nd) : (mkP X i)[j]? = some (if j < i then mkNd (cntN X j) nd else nd) := by
  unfold mkP
  rw [List.getElem?_mapIdx, h]
  rfl
theorem mkP_next {X : List Nd} {i : Nat} {nd : Nd} (h : X[i]? = some nd) : (mkP X i).set i (mkNd (cntN X i) nd) = mkP X (i + 1) := by
  have hi := (List.getElem?_eq_some_iff.1 h).1
  apply List.ext_getElem?
  intro j
  by_cases e : i = j
  · subst e
    rw [List.getElem?_set_self (by rw [mkP_len]; exact hi), mkP_at h, if_pos (by omega)]
  · rw [List.getElem?_set_ne e]
    cases hj : X[j]? with
    | none => rw [List.getElem?_eq_none (by rw [mkP_len]; exact List.getElem?_eq_none_iff.1 hj), List.getElem?_eq_none (by rw [mkP_len]; exact List.getElem?_eq_none_iff.1 hj)]
    | some n =>
      rw [mkP_at hj, mkP_at hj]
      have : (j < i) ↔ (j < i + 1) := by omega
      simp only [this]
theorem xo_small {B : Nat} {S : Nat → Prop} {w : World} {ad : Option Addr} {c : Nat} {X : List Nd} (h : XO B S w ad c X) : ∀ (j : Nat) (nd : Nd), X[j]? = some nd → nd.L.length ≤ 100 := fun j nd hj => by
  obtain ⟨xs, -, h2, -⟩ := h
  obtain ⟨_, _, -, -, -, h4⟩ := h2 j nd hj
  exact h4
set_option maxRecDepth 100000 in
set_option maxHeartbeats 8000000 in
theorem l_markNs (B : Nat) (ad : Option Addr) (m c : Nat) (X : List Nd) (w : World) (hm : X.length = m) (hX : m ≤ 300) (hB : B ≤ w.heap.size) (hp : XO B (fun j => B ≤ j) w ad c X) :
    Calls Tryd.prog 7 #[.slice ad m c, .int .i64 1] w fun e w' => e = .returned (.int .i64 (cntN X m : Int)) ∧ XO B (fun j => B ≤ j) w' ad c (mkP X m) ∧ Below B w w' := by
  have HM := hide hm
  have HS := hide (xo_small hp)
  have HP0 : Hid (XO B (fun j => B ≤ j) w ad c (mkP X 0)) := hide (by rw [mkP_zero]; exact hp)
  clear hp hm
  go_enter Tryd.func7, Tryd.ntmps7
  go_wp2_with fail
  go_loopw [1, 5] (fun kv iv wr => ∃ i : Nat, i ≤ m ∧ iv = .int .i64 i ∧ kv = .int .i64 (cntN X i : Int) ∧ Hid (XO B (fun j => B ≤ j) wr ad c (mkP X i)) ∧ Hid (Below B w wr)) (fun _ iv _ => m - (intOf iv).toNat)
  case atStart => exact ⟨0, Nat.zero_le _, rfl, rfl, HP0, hide (Below.refl _ _)⟩
  case round =>
    clear HP0
    obtain ⟨i, hi, rfl, rfl, HP, HB⟩ := hrel
    have hks := cnt_le HS.out i (by rw [HM.out]; exact hi)
    have hkp := cnt_pos X i
    by_cases hlt : i < m
    · have hii : (i : Int) < (m : Int) := by omega
      have hil : i < X.length := by rw [HM.out]; exact hlt
      obtain ⟨nd, hnd⟩ : ∃ nd, X[i]? = some nd := ⟨_, List.getElem?_eq_getElem hil⟩
      have HN := hide (mkP_next hnd)
      have HC : Hid (cntN X (i + 1) = cntN X i + 6 + 2 * nd.L.length) := hide (by show cntN X i + 6 + 2 * (ndAt X i).L.length = _; rw [ndAt_of hnd])
      have hpi : (mkP X i)[i]? = some nd := by rw [mkP_at hnd, if_neg (by omega)]
      have hpl : (mkP X i).length = m := by rw [mkP_len, HM.out]
      have HL := hide (HS.out i nd hnd)
      clear hnd hil
      obtain ⟨P, hP⟩ : ∃ P, mkP X i = P := ⟨_, rfl⟩
      obtain ⟨K, hK⟩ : ∃ K, cntN X i = K := ⟨_, rfl⟩
      rw [hP] at HP HN hpi hpl
      rw [hK] at HN HC hks hkp
      rw [hK]
      clear hP hK
      have hip : i < P.length := by omega
      obtain ⟨g, rfl, hBg, hgl⟩ := xo_form HP.out (by omega)
      obtain ⟨kad, kc, b1, b2, b3, b4⟩ := xo_at7 HP.out hpi
      have c0 := b1 0 (by omega)
      have c1 := b1 1 (by omega)
      have c2 := b1 2 (by omega)
      have f0 := (xo_cell HP.out (i * 7 + 0) (by omega)).2
      have f1 := (xo_cell HP.out (i * 7 + 1) (by omega)).2
      simp only [ndV, Nat.add_zero] at c0 c1 c2 f0
      have c0' : wr.cell? ⟨g, i * 7, none⟩ = some (.int .i64 nd.k) := c0
      have c1' : wr.cell? ⟨g, i * 7 + 1, none⟩ = some (.bool nd.nt) := c1
      have c2' : wr.cell? ⟨g, i * 7 + 2, none⟩ = some (.slice kad nd.L.length kc) := c2
      have O1 := hide (xo_set (nd' := { nd with k := (K : Int) }) (o := 0) (v := .int .i64 (K : Int)) HP.out hpi (by omega) (by omega) rfl (fun _ _ => rfl))
      have O2 := hide (xo_set (nd' := { nd with k := (K : Int), nt := ((K : Int) + 1) % 3 == 0 }) (o := 1) (v := .bool (((K : Int) + 1) % 3 == 0)) O1.out (List.getElem?_set_self hip) (by omega) (by omega) rfl (fun _ _ => rfl))
      rw [List.set_set] at O2
      simp only [Nat.add_zero] at O2
      have hrow : ∃ xs, wr.ownsRow B 33 7 (.slice (some ⟨g, 0, none⟩) P.length c) P.length xs := by obtain ⟨xs, h1, -⟩ := HP.out; exact ⟨xs, h1⟩
      obtain ⟨xs, hrow⟩ := hrow
      have k1 : Kp (fun j => j = g) wr (wr.setCell ⟨g, i * 7, none⟩ (.int .i64 (K : Int))) := kp_set (S := fun j => j = g) _ _ _ rfl
      have k2 : Kp (fun j => j = g) wr ((wr.setCell ⟨g, i * 7, none⟩ (.int .i64 (K : Int))).setCell ⟨g, i * 7 + 1, none⟩ (.bool (((K : Int) + 1) % 3 == 0))) := k1.trans (kp_set (S := fun j => j = g) _ _ _ rfl) (fun j _ hj => hj)
      have HR2 := hide (own_kp b2 k2 (fun j hj e => own_ne b2 hj hrow (by rw [e]; rfl) (by decide) rfl))
      have c2B : ((wr.setCell ⟨g, i * 7, none⟩ (.int .i64 (K : Int))).setCell ⟨g, i * 7 + 1, none⟩ (.bool (((K : Int) + 1) % 3 == 0))).cell? ⟨g, i * 7 + 2, none⟩ = some (.slice kad nd.L.length kc) := by
        have ne0 : (⟨g, i * 7, none⟩ : Addr) ≠ ⟨g, i * 7 + 2, none⟩ := fun e => by simp only [Addr.mk.injEq] at e; omega
        have ne1 : (⟨g, i * 7 + 1, none⟩ : Addr) ≠ ⟨g, i * 7 + 2, none⟩ := fun e => by simp only [Addr.mk.injEq] at e; omega
        rw [World.cell?_setCell_other (h := ne1), World.cell?_setCell_other (h := ne0)]
        exact c2'
      have HC2 := hide c2B
      have HBB := hide ((HB.out.setCell (p := ⟨g, i * 7, none⟩) hBg (.int .i64 (K : Int))).setCell (p := ⟨g, i * 7 + 1, none⟩) hBg (.bool (((K : Int) + 1) % 3 == 0)))
      have HSB := hide b3
      have hl100 := HL.out
      clear c0 c1 c2 b1 b2 b3 b4 O1 hrow k1 k2 c2B
      go_wp2_with fail
      refine (l_markRs kad nd.L.length kc nd.L ((K : Int) + 1 + 1) _ rfl hl100 (by omega) (by omega) HR2.out).mono ?_
      rintro e w2 ⟨rfl, ho2, hk2⟩
      have O3 := hide (xo_L (nd := { nd with k := (K : Int), nt := ((K : Int) + 1) % 3 == 0 }) O2.out (List.getElem?_set_self hip) (mkR ((K : Int) + 1 + 1) nd.L nd.L.length) (mkR_len _ _ _) HC2.out hk2 ho2)
      rw [List.set_set] at O3
      obtain ⟨adx, cpx, d1, -⟩ := xo_at7 O3.out (List.getElem?_set_self hip)
      have e3 := d1 3 (by omega)
      have e4 := d1 4 (by omega)
      have e5 := d1 5 (by omega)
      have e6 := d1 6 (by omega)
      simp only [ndV] at e3 e4 e5 e6
      have e3' : w2.cell? ⟨g, i * 7 + 3, none⟩ = some (.int .i64 nd.a) := e3
      have e4' : w2.cell? ⟨g, i * 7 + 4, none⟩ = some (.int .i64 nd.b) := e4
      have e5' : w2.cell? ⟨g, i * 7 + 5, none⟩ = some (.int .i64 nd.mn) := e5
      have e6' : w2.cell? ⟨g, i * 7 + 6, none⟩ = some (.int .i64 nd.mx) := e6
      have g3 := (xo_cell O3.out (i * 7 + 3) (by rw [List.length_set]; omega)).2
      have g4 := (xo_cell O3.out (i * 7 + 4) (by rw [List.length_set]; omega)).2
      have g5 := (xo_cell O3.out (i * 7 + 5) (by rw [List.length_set]; omega)).2
      have g6 := (xo_cell O3.out (i * 7 + 6) (by rw [List.length_set]; omega)).2
      have O4 := hide (xo_set (nd' := { nd with k := (K : Int), nt := ((K : Int) + 1) % 3 == 0, L := mkR ((K : Int) + 1 + 1) nd.L nd.L.length, a := (K : Int) + 1 + 1 + 2 * (nd.L.length : Int) }) (o := 3) (v := .int .i64 ((K : Int) + 1 + 1 + 2 * (nd.L.length : Int))) O3.out (List.getElem?_set_self hip) (by omega) (by omega) rfl (fun _ _ => rfl))
      rw [List.set_set] at O4
      have O5 := hide (xo_set (nd' := { nd with k := (K : Int), nt := ((K : Int) + 1) % 3 == 0, L := mkR ((K : Int) + 1 + 1) nd.L nd.L.length, a := (K : Int) + 1 + 1 + 2 * (nd.L.length : Int), b := (K : Int) + 1 + 1 + 2 * (nd.L.length : Int) + 1 }) (o := 4) (v := .int .i64 ((K : Int) + 1 + 1 + 2 * (nd.L.length : Int) + 1)) O4.out (List.getElem?_set_self hip) (by omega) (by omega) rfl (fun _ _ => rfl))
      rw [List.set_set] at O5
      have O6 := hide (xo_set (nd' := { nd with k := (K : Int), nt := ((K : Int) + 1) % 3 == 0, L := mkR ((K : Int) + 1 + 1) nd.L nd.L.length, a := (K : Int) + 1 + 1 + 2 * (nd.L.length : Int), b := (K : Int) + 1 + 1 + 2 * (nd.L.length : Int) + 1, mn := (K : Int) + 1 + 1 + 2 * (nd.L.length : Int) + 1 + 1 }) (o := 5) (v := .int .i64 ((K : Int) + 1 + 1 + 2 * (nd.L.length : Int) + 1 + 1)) O5.out (List.getElem?_set_self hip) (by omega) (by omega) rfl (fun _ _ => rfl))
      rw [List.set_set] at O6
      have O7 := hide (xo_set (nd' := mkNd K nd) (o := 6) (v := .int .i64 ((K : Int) + 1 + 1 + 2 * (nd.L.length : Int) + 1 + 1 + 1)) O6.out (List.getElem?_set_self hip) (by omega) (by omega) rfl (fun _ _ => rfl))
      rw [List.set_set, HN.out] at O7
      clear d1 e3 e4 e5 e6 O4 O5 O6
      have HB3 := hide (HBB.out.trans (kp_below hk2 (Nat.le_trans hB HBB.out.size) (fun j hj => HSB.out j hj)))
      have HB7 := hide ((((HB3.out.setCell (p := ⟨g, i * 7 + 3, none⟩) hBg (.int .i64 ((K : Int) + 1 + 1 + 2 * (nd.L.length : Int)))).setCell (p := ⟨g, i * 7 + 4, none⟩) hBg (.int .i64 ((K : Int) + 1 + 1 + 2 * (nd.L.length : Int) + 1))).setCell (p := ⟨g, i * 7 + 5, none⟩) hBg (.int .i64 ((K : Int) + 1 + 1 + 2 * (nd.L.length : Int) + 1 + 1))).setCell (p := ⟨g, i * 7 + 6, none⟩) hBg (.int .i64 ((K : Int) + 1 + 1 + 2 * (nd.L.length : Int) + 1 + 1 + 1)))
      clear O2 O3 HP HB HBB HB3 HC2 HR2 c0' c1' c2' f0 f1 ho2 hk2
      go_wp2
      go_roundw
      case rel =>
        have hcc := HC.out
        refine ⟨i + 1, by omega, by go_num, ?_, O7, HB7⟩
        rw [hcc]
        first | (congr 1; omega) | (simp; omega) | (congr 1; push_cast; omega)
      case measure => simp [intOf]; omega
    · have hin : i = m := by omega
      subst hin
      have hii : ¬ (i : Int) < (i : Int) := by omega
      go_wp2
      go_ret
      exact ⟨rfl, HP.out, HB.out⟩
end Go.Proofs.YtckemldmdgmjjaaDoor
