/-
  Texts put together: LiM, LiN, LiH, RsW.
-/
import Derived.Test.YtibagghpimadfaaDoorQ5
import Derived.Test.YtibagghpimadfaaDoorQ27
/-
  Contracts of the laws' helpers on rows of expression nodes: the marks, and that they stand.
-/
namespace Go.Proofs.YtibagghpimadfaaDoor
open Go.RowKit Go.Joins
set_option linter.unusedVariables false
set_option linter.unusedSimpArgs false
/-- The first i ranges have their marks. -/
def mkR (k : Int) (L : List (Int × Int)) (i : Nat) : List (Int × Int) := L.mapIdx fun j p => if j < i then (k + 2 * (j : Int), k + 2 * (j : Int) + 1) else p
theorem mkR_len (k : Int) (L : List (Int × Int)) (i : Nat) : (mkR k L i).length = L.length := by unfold mkR; simp
theorem mkR_zero (k : Int) (L : List (Int × Int)) : mkR k L 0 = L := by
  unfold mkR
  apply List.ext_getElem?
  intro j
  rw [List.getElem?_mapIdx]
  cases L[j]? <;> simp
theorem mkR_next (k : Int) (L : List (Int × Int)) (i : Nat) : (mkR k L i).set i (k + 2 * (i : Int), k + 2 * (i : Int) + 1) = mkR k L (i + 1) := by
  unfold mkR
  apply List.ext_getElem?
  intro j
  rw [List.getElem?_mapIdx]
  by_cases e : i = j
  · subst e
    by_cases h : i < L.length
    · rw [List.getElem?_set_self (by simpa using h), List.getElem?_eq_getElem h]
      simp
    · rw [List.getElem?_eq_none (by simp; omega), List.getElem?_eq_none (by omega)]
      rfl
  · rw [List.getElem?_set_ne e, List.getElem?_mapIdx]
    cases L[j]? with
    | none => rfl
    | some p =>
      have : (j < i) ↔ (j < i + 1) := by omega
      simp only [Option.map_some, this]
theorem mkR_at {k : Int} {L : List (Int × Int)} {i : Nat} (h : i < L.length) : (mkR k L L.length)[i]? = some (k + 2 * (i : Int), k + 2 * (i : Int) + 1) := by
  unfold mkR
  rw [List.getElem?_mapIdx, List.getElem?_eq_getElem h]
  simp [h]
set_option maxHeartbeats 2000000 in
theorem l_markRs (kad : Option Addr) (n kc : Nat) (L : List (Int × Int)) (k0 : Int) (w : World) (hL : L.length = n) (hn : n ≤ 100) (h0 : 1 ≤ k0) (h1 : k0 ≤ 100000) (ho : w.ownsRow 0 55 2 (.slice kad n kc) n (prV L)) :
    Calls Tryd.prog 33 #[.slice kad n kc, .int .i64 k0] w fun e w' => e = .returned (.int .i64 (k0 + 2 * (n : Int))) ∧ w'.ownsRow 0 55 2 (.slice kad n kc) n (prV (mkR k0 L n)) ∧ Kp (fun j => (Value.slice kad n kc).ownBlock = some j) w w' := by
  have HO : Hid (w.ownsRow 0 55 2 (.slice kad n kc) n (prV (mkR k0 L 0))) := hide (by rw [mkR_zero]; exact ho)
  clear ho
  go_enter Tryd.func33, Tryd.ntmps33
  go_wp2_with fail
  go_loopw [1, 5] (fun kv iv wr => ∃ i : Nat, i ≤ n ∧ iv = .int .i64 i ∧ kv = .int .i64 (k0 + 2 * (i : Int)) ∧ Hid (wr.ownsRow 0 55 2 (.slice kad n kc) n (prV (mkR k0 L i))) ∧ Hid (Kp (fun j => (Value.slice kad n kc).ownBlock = some j) w wr)) (fun _ iv _ => n - (intOf iv).toNat)
  case atStart => exact ⟨0, Nat.zero_le _, rfl, by simp, HO, hide (Kp.refl _ _)⟩
  case round =>
    clear HO
    obtain ⟨i, hi, rfl, rfl, HO, HK⟩ := hrel
    by_cases hlt : i < n
    · have hii : (i : Int) < (n : Int) := by omega
      obtain ⟨g, cap, hv, -, hg⟩ := HO.out.form (by omega)
      simp only [Value.slice.injEq] at hv
      obtain ⟨rfl, -, rfl⟩ := hv
      have hp := prV_at (mkR k0 L i) i _ (List.getElem?_eq_getElem (by rw [mkR_len]; omega))
      have c1 := (HO.out.cellAt (i * 2) (by omega)).trans hp.1
      have c2 := (HO.out.cellAt (i * 2 + 1) (by omega)).trans hp.2
      have f1 := HO.out.frozenAt (i * 2)
      have f2 := HO.out.frozenAt (i * 2 + 1)
      have HO2 := hide ((HO.out.stored (i * 2) (.int .i64 (k0 + 2 * (i : Int)))).1.stored (i * 2 + 1) (.int .i64 (k0 + 2 * (i : Int) + 1))).1
      rw [prV_set, mkR_next] at HO2
      clear hp HO
      go_wp2
      go_roundw
      case rel =>
        refine ⟨i + 1, by omega, by go_num, by go_num, HO2, hide ((HK.out.trans (kp_set (S := fun j => j = g) _ _ _ rfl) (fun j _ hj => by rw [hj]; rfl)).trans (kp_set (S := fun j => j = g) _ _ _ rfl) (fun j _ hj => by rw [hj]; rfl))⟩
      case measure => simp [intOf]; omega
    · have hin : i = n := by omega
      subst hin
      have hii : ¬ (i : Int) < (i : Int) := by omega
      go_wp2
      go_ret
      exact ⟨rfl, HO.out, HK.out⟩
set_option maxHeartbeats 2000000 in
theorem l_heldRs (kad : Option Addr) (n kc : Nat) (L : List (Int × Int)) (k0 : Int) (w : World) (hL : L.length = n) (hn : n ≤ 100) (h0 : 1 ≤ k0) (h1 : k0 ≤ 100000) (ho : w.ownsRow 0 55 2 (.slice kad n kc) n (prV (mkR k0 L n))) :
    Calls Tryd.prog 34 #[.slice kad n kc, .int .i64 k0] w fun e w' => e = .returned (.int .i64 (k0 + 2 * (n : Int))) ∧ w' = w := by
  have HO := hide ho
  clear ho
  go_enter Tryd.func34, Tryd.ntmps34
  go_wp2_with fail
  go_loopw [1, 5] (fun kv iv wr => ∃ i : Nat, i ≤ n ∧ iv = .int .i64 i ∧ kv = .int .i64 (k0 + 2 * (i : Int)) ∧ wr = w) (fun _ iv _ => n - (intOf iv).toNat)
  case atStart => exact ⟨0, Nat.zero_le _, rfl, by simp, rfl⟩
  case round =>
    obtain ⟨i, hi, rfl, rfl, rfl⟩ := hrel
    by_cases hlt : i < n
    · have hii : (i : Int) < (n : Int) := by omega
      obtain ⟨g, cap, hv, -, hg⟩ := HO.out.form (by omega)
      simp only [Value.slice.injEq] at hv
      obtain ⟨rfl, -, rfl⟩ := hv
      have hp := prV_at (mkR k0 L n) i (k0 + 2 * (i : Int), k0 + 2 * (i : Int) + 1) (by rw [← hL]; exact mkR_at (by omega))
      have c1 := (HO.out.cellAt (i * 2) (by omega)).trans hp.1
      have c2 := (HO.out.cellAt (i * 2 + 1) (by omega)).trans hp.2
      simp only at c1 c2
      clear hp
      go_wp2
      go_roundw
      case rel => exact ⟨i + 1, by omega, by go_num, by go_num, by first | rfl | trivial⟩
      case measure => simp [intOf]; omega
    · have hin : i = n := by omega
      subst hin
      have hii : ¬ (i : Int) < (i : Int) := by omega
      go_wp2
      go_ret
      exact ⟨rfl, rfl⟩
end Go.Proofs.YtibagghpimadfaaDoor

/-
  Contracts of the laws' helpers on rows of expression nodes: the marks of all nodes, and that they stand.
-/
namespace Go.Proofs.YtibagghpimadfaaDoor
open Go.RowKit Go.Joins
set_option linter.unusedVariables false
set_option linter.unusedSimpArgs false
/-- The mark that a node's first place has. -/
def cntN (X : List Nd) : Nat → Nat
  | 0 => 1
  | i + 1 => cntN X i + 6 + 2 * (ndAt X i).L.length
theorem cnt_pos (X : List Nd) : ∀ i, 1 ≤ cntN X i
  | 0 => Nat.le_refl _
  | i + 1 => by have := cnt_pos X i; show 1 ≤ cntN X i + 6 + _; omega
theorem cnt_le {X : List Nd} (h : ∀ (j : Nat) (nd : Nd), X[j]? = some nd → nd.L.length ≤ 100) : ∀ i, i ≤ X.length → cntN X i ≤ 1 + 206 * i
  | 0, _ => Nat.le_refl _
  | i + 1, hi => by
    have h1 := cnt_le h i (by omega)
    have h2 := h i X[i] (List.getElem?_eq_getElem (by omega))
    rw [← ndAt_of (X := X) (List.getElem?_eq_getElem (by omega))] at h2
    show cntN X i + 6 + 2 * _ ≤ _
    omega
def mkNd (K : Nat) (nd : Nd) : Nd := ⟨K, ((K : Int) + 1) % 3 == 0, mkR ((K : Int) + 1 + 1) nd.L nd.L.length, (K : Int) + 1 + 1 + 2 * (nd.L.length : Int), (K : Int) + 1 + 1 + 2 * (nd.L.length : Int) + 1, (K : Int) + 1 + 1 + 2 * (nd.L.length : Int) + 1 + 1, (K : Int) + 1 + 1 + 2 * (nd.L.length : Int) + 1 + 1 + 1⟩
/-- The first i nodes have their marks. -/
def mkP (X : List Nd) (i : Nat) : List Nd := X.mapIdx fun j nd => if j < i then mkNd (cntN X j) nd else nd
theorem mkP_len (X : List Nd) (i : Nat) : (mkP X i).length = X.length := by unfold mkP; simp
theorem mkP_zero (X : List Nd) : mkP X 0 = X := by
  unfold mkP
  apply List.ext_getElem?
  intro j
  rw [List.getElem?_mapIdx]
  cases X[j]? <;> simp
theorem mkP_at {X : List Nd} {i j : Nat} {nd : Nd} (h : X[j]? = some nd) : (mkP X i)[j]? = some (if j < i then mkNd (cntN X j) nd else nd) := by
  unfold mkP
  rw [List.getElem?_mapIdx, h]
  rfl
theorem mkP_next {X : List Nd} {i : Nat} {nd : Nd} (h : X[i]? = some nd) : (mkP X i).set i (mkNd (cntN X i) nd) = mkP X (i + 1) := by
  have hi := (List.getElem?_eq_some_iff.1 h).1
  apply List.ext_getElem?
  intro j
  by_cases e : i = j
  · subst e
    rw [List.getElem?_set_self (by rw [mkP_len]; exact hi), mkP_at h, if_pos (by omega)]
  · rw [List.getElem?_set_ne e]
    cases hj : X[j]? with
    | none => rw [List.getElem?_eq_none (by rw [mkP_len]; exact List.getElem?_eq_none_iff.1 hj), List.getElem?_eq_none (by rw [mkP_len]; exact List.getElem?_eq_none_iff.1 hj)]
    | some n =>
      rw [mkP_at hj, mkP_at hj]
      have : (j < i) ↔ (j < i + 1) := by omega
      simp only [this]
theorem xo_small {B : Nat} {S : Nat → Prop} {w : World} {ad : Option Addr} {c : Nat} {X : List Nd} (h : XO B S w ad c X) : ∀ (j : Nat) (nd : Nd), X[j]? = some nd → nd.L.length ≤ 100 := fun j nd hj => by
  obtain ⟨xs, -, h2, -⟩ := h
  obtain ⟨_, _, -, -, -, h4⟩ := h2 j nd hj
  exact h4
set_option maxRecDepth 100000 in
set_option maxHeartbeats 8000000 in
theorem l_markNs (B : Nat) (ad : Option Addr) (m c : Nat) (X : List Nd) (w : World) (hm : X.length = m) (hX : m ≤ 300) (hB : B ≤ w.heap.size) (hp : XO B (fun j => B ≤ j) w ad c X) :
    Calls Tryd.prog 15 #[.slice ad m c, .int .i64 1] w fun e w' => e = .returned (.int .i64 (cntN X m : Int)) ∧ XO B (fun j => B ≤ j) w' ad c (mkP X m) ∧ Below B w w' := by
  have HM := hide hm
  have HS := hide (xo_small hp)
  have HP0 : Hid (XO B (fun j => B ≤ j) w ad c (mkP X 0)) := hide (by rw [mkP_zero]; exact hp)
  clear hp hm
  go_enter Tryd.func15, Tryd.ntmps15
  go_wp2_with fail
  go_loopw [1, 5] (fun kv iv wr => ∃ i : Nat, i ≤ m ∧ iv = .int .i64 i ∧ kv = .int .i64 (cntN X i : Int) ∧ Hid (XO B (fun j => B ≤ j) wr ad c (mkP X i)) ∧ Hid (Below B w wr)) (fun _ iv _ => m - (intOf iv).toNat)
  case atStart => exact ⟨0, Nat.zero_le _, rfl, rfl, HP0, hide (Below.refl _ _)⟩
  case round =>
    clear HP0
    obtain ⟨i, hi, rfl, rfl, HP, HB⟩ := hrel
    have hks := cnt_le HS.out i (by rw [HM.out]; exact hi)
    have hkp := cnt_pos X i
    by_cases hlt : i < m
    · have hii : (i : Int) < (m : Int) := by omega
      have hil : i < X.length := by rw [HM.out]; exact hlt
      obtain ⟨nd, hnd⟩ : ∃ nd, X[i]? = some nd := ⟨_, List.getElem?_eq_getElem hil⟩
      have HN := hide (mkP_next hnd)
      have HC : Hid (cntN X (i + 1) = cntN X i + 6 + 2 * nd.L.length) := hide (by show cntN X i + 6 + 2 * (ndAt X i).L.length = _; rw [ndAt_of hnd])
      have hpi : (mkP X i)[i]? = some nd := by rw [mkP_at hnd, if_neg (by omega)]
      have hpl : (mkP X i).length = m := by rw [mkP_len, HM.out]
      have HL := hide (HS.out i nd hnd)
      clear hnd hil
      obtain ⟨P, hP⟩ : ∃ P, mkP X i = P := ⟨_, rfl⟩
      obtain ⟨K, hK⟩ : ∃ K, cntN X i = K := ⟨_, rfl⟩
      rw [hP] at HP HN hpi hpl
      rw [hK] at HN HC hks hkp
      rw [hK]
      clear hP hK
      have hip : i < P.length := by omega
      obtain ⟨g, rfl, hBg, hgl⟩ := xo_form HP.out (by omega)
      obtain ⟨kad, kc, b1, b2, b3, b4⟩ := xo_at7 HP.out hpi
      have c0 := b1 0 (by omega)
      have c1 := b1 1 (by omega)
      have c2 := b1 2 (by omega)
      have f0 := (xo_cell HP.out (i * 7 + 0) (by omega)).2
      have f1 := (xo_cell HP.out (i * 7 + 1) (by omega)).2
      simp only [ndV, Nat.add_zero] at c0 c1 c2 f0
      have c0' : wr.cell? ⟨g, i * 7, none⟩ = some (.int .i64 nd.k) := c0
      have c1' : wr.cell? ⟨g, i * 7 + 1, none⟩ = some (.bool nd.nt) := c1
      have c2' : wr.cell? ⟨g, i * 7 + 2, none⟩ = some (.slice kad nd.L.length kc) := c2
      have O1 := hide (xo_set (nd' := { nd with k := (K : Int) }) (o := 0) (v := .int .i64 (K : Int)) HP.out hpi (by omega) (by omega) rfl (fun _ _ => rfl))
      have O2 := hide (xo_set (nd' := { nd with k := (K : Int), nt := ((K : Int) + 1) % 3 == 0 }) (o := 1) (v := .bool (((K : Int) + 1) % 3 == 0)) O1.out (List.getElem?_set_self hip) (by omega) (by omega) rfl (fun _ _ => rfl))
      rw [List.set_set] at O2
      simp only [Nat.add_zero] at O2
      have hrow : ∃ xs, wr.ownsRow B 53 7 (.slice (some ⟨g, 0, none⟩) P.length c) P.length xs := by obtain ⟨xs, h1, -⟩ := HP.out; exact ⟨xs, h1⟩
      obtain ⟨xs, hrow⟩ := hrow
      have k1 : Kp (fun j => j = g) wr (wr.setCell ⟨g, i * 7, none⟩ (.int .i64 (K : Int))) := kp_set (S := fun j => j = g) _ _ _ rfl
      have k2 : Kp (fun j => j = g) wr ((wr.setCell ⟨g, i * 7, none⟩ (.int .i64 (K : Int))).setCell ⟨g, i * 7 + 1, none⟩ (.bool (((K : Int) + 1) % 3 == 0))) := k1.trans (kp_set (S := fun j => j = g) _ _ _ rfl) (fun j _ hj => hj)
      have HR2 := hide (own_kp b2 k2 (fun j hj e => own_ne b2 hj hrow (by rw [e]; rfl) (by decide) rfl))
      have c2B : ((wr.setCell ⟨g, i * 7, none⟩ (.int .i64 (K : Int))).setCell ⟨g, i * 7 + 1, none⟩ (.bool (((K : Int) + 1) % 3 == 0))).cell? ⟨g, i * 7 + 2, none⟩ = some (.slice kad nd.L.length kc) := by
        have ne0 : (⟨g, i * 7, none⟩ : Addr) ≠ ⟨g, i * 7 + 2, none⟩ := fun e => by simp only [Addr.mk.injEq] at e; omega
        have ne1 : (⟨g, i * 7 + 1, none⟩ : Addr) ≠ ⟨g, i * 7 + 2, none⟩ := fun e => by simp only [Addr.mk.injEq] at e; omega
        rw [World.cell?_setCell_other (h := ne1), World.cell?_setCell_other (h := ne0)]
        exact c2'
      have HC2 := hide c2B
      have HBB := hide ((HB.out.setCell (p := ⟨g, i * 7, none⟩) hBg (.int .i64 (K : Int))).setCell (p := ⟨g, i * 7 + 1, none⟩) hBg (.bool (((K : Int) + 1) % 3 == 0)))
      have HSB := hide b3
      have hl100 := HL.out
      clear c0 c1 c2 b1 b2 b3 b4 O1 hrow k1 k2 c2B
      go_wp2_with fail
      refine (l_markRs kad nd.L.length kc nd.L ((K : Int) + 1 + 1) _ rfl hl100 (by omega) (by omega) HR2.out).mono ?_
      rintro e w2 ⟨rfl, ho2, hk2⟩
      have O3 := hide (xo_L (nd := { nd with k := (K : Int), nt := ((K : Int) + 1) % 3 == 0 }) O2.out (List.getElem?_set_self hip) (mkR ((K : Int) + 1 + 1) nd.L nd.L.length) (mkR_len _ _ _) HC2.out hk2 ho2)
      rw [List.set_set] at O3
      obtain ⟨adx, cpx, d1, -⟩ := xo_at7 O3.out (List.getElem?_set_self hip)
      have e3 := d1 3 (by omega)
      have e4 := d1 4 (by omega)
      have e5 := d1 5 (by omega)
      have e6 := d1 6 (by omega)
      simp only [ndV] at e3 e4 e5 e6
      have e3' : w2.cell? ⟨g, i * 7 + 3, none⟩ = some (.int .i64 nd.a) := e3
      have e4' : w2.cell? ⟨g, i * 7 + 4, none⟩ = some (.int .i64 nd.b) := e4
      have e5' : w2.cell? ⟨g, i * 7 + 5, none⟩ = some (.int .i64 nd.mn) := e5
      have e6' : w2.cell? ⟨g, i * 7 + 6, none⟩ = some (.int .i64 nd.mx) := e6
      have g3 := (xo_cell O3.out (i * 7 + 3) (by rw [List.length_set]; omega)).2
      have g4 := (xo_cell O3.out (i * 7 + 4) (by rw [List.length_set]; omega)).2
      have g5 := (xo_cell O3.out (i * 7 + 5) (by rw [List.length_set]; omega)).2
      have g6 := (xo_cell O3.out (i * 7 + 6) (by rw [List.length_set]; omega)).2
      have O4 := hide (xo_set (nd' := { nd with k := (K : Int), nt := ((K : Int) + 1) % 3 == 0, L := mkR ((K : Int) + 1 + 1) nd.L nd.L.length, a := (K : Int) + 1 + 1 + 2 * (nd.L.length : Int) }) (o := 3) (v := .int .i64 ((K : Int) + 1 + 1 + 2 * (nd.L.length : Int))) O3.out (List.getElem?_set_self hip) (by omega) (by omega) rfl (fun _ _ => rfl))
      rw [List.set_set] at O4
      have O5 := hide (xo_set (nd' := { nd with k := (K : Int), nt := ((K : Int) + 1) % 3 == 0, L := mkR ((K : Int) + 1 + 1) nd.L nd.L.length, a := (K : Int) + 1 + 1 + 2 * (nd.L.length : Int), b := (K : Int) + 1 + 1 + 2 * (nd.L.length : Int) + 1 }) (o := 4) (v := .int .i64 ((K : Int) + 1 + 1 + 2 * (nd.L.length : Int) + 1)) O4.out (List.getElem?_set_self hip) (by omega) (by omega) rfl (fun _ _ => rfl))
      rw [List.set_set] at O5
      have O6 := hide (xo_set (nd' := { nd with k := (K : Int), nt := ((K : Int) + 1) % 3 == 0, L := mkR ((K : Int) + 1 + 1) nd.L nd.L.length, a := (K : Int) + 1 + 1 + 2 * (nd.L.length : Int), b := (K : Int) + 1 + 1 + 2 * (nd.L.length : Int) + 1, mn := (K : Int) + 1 + 1 + 2 * (nd.L.length : Int) + 1 + 1 }) (o := 5) (v := .int .i64 ((K : Int) + 1 + 1 + 2 * (nd.L.length : Int) + 1 + 1)) O5.out (List.getElem?_set_self hip) (by omega) (by omega) rfl (fun _ _ => rfl))
      rw [List.set_set] at O6
      have O7 := hide (xo_set (nd' := mkNd K nd) (o := 6) (v := .int .i64 ((K : Int) + 1 + 1 + 2 * (nd.L.length : Int) + 1 + 1 + 1)) O6.out (List.getElem?_set_self hip) (by omega) (by omega) rfl (fun _ _ => rfl))
      rw [List.set_set, HN.out] at O7
      clear d1 e3 e4 e5 e6 O4 O5 O6
      have HB3 := hide (HBB.out.trans (kp_below hk2 (Nat.le_trans hB HBB.out.size) (fun j hj => HSB.out j hj)))
      have HB7 := hide ((((HB3.out.setCell (p := ⟨g, i * 7 + 3, none⟩) hBg (.int .i64 ((K : Int) + 1 + 1 + 2 * (nd.L.length : Int)))).setCell (p := ⟨g, i * 7 + 4, none⟩) hBg (.int .i64 ((K : Int) + 1 + 1 + 2 * (nd.L.length : Int) + 1))).setCell (p := ⟨g, i * 7 + 5, none⟩) hBg (.int .i64 ((K : Int) + 1 + 1 + 2 * (nd.L.length : Int) + 1 + 1))).setCell (p := ⟨g, i * 7 + 6, none⟩) hBg (.int .i64 ((K : Int) + 1 + 1 + 2 * (nd.L.length : Int) + 1 + 1 + 1)))
      clear O2 O3 HP HB HBB HB3 HC2 HR2 c0' c1' c2' f0 f1 ho2 hk2
      go_wp2
      go_roundw
      case rel =>
        have hcc := HC.out
        refine ⟨i + 1, by omega, by go_num, ?_, O7, HB7⟩
        rw [hcc]
        first | (congr 1; omega) | (simp; omega) | (congr 1; push_cast; omega)
      case measure => simp [intOf]; omega
    · have hin : i = m := by omega
      subst hin
      have hii : ¬ (i : Int) < (i : Int) := by omega
      go_wp2
      go_ret
      exact ⟨rfl, HP.out, HB.out⟩
end Go.Proofs.YtibagghpimadfaaDoor

/-
  Contract of the laws' helper on rows of expression nodes: the marks stand.
-/
namespace Go.Proofs.YtibagghpimadfaaDoor
open Go.RowKit Go.Joins
set_option linter.unusedVariables false
set_option linter.unusedSimpArgs false
set_option maxRecDepth 100000 in
set_option maxHeartbeats 8000000 in
theorem l_heldNs (B : Nat) (S : Nat → Prop) (ad : Option Addr) (m c : Nat) (X : List Nd) (w : World) (hm : X.length = m) (hX : m ≤ 300) (hS : ∀ (j : Nat) (nd : Nd), X[j]? = some nd → nd.L.length ≤ 100) (hp : XO B S w ad c (mkP X m)) :
    Calls Tryd.prog 16 #[.slice ad m c, .int .i64 1] w fun e w' => e = .returned (.int .i64 (cntN X m : Int)) ∧ w' = w := by
  have HM := hide hm
  have HS := hide hS
  have HP := hide hp
  clear hp hm hS
  go_enter Tryd.func16, Tryd.ntmps16
  go_wp2_with fail
  go_loopw [1, 5] (fun kv iv wr => ∃ i : Nat, i ≤ m ∧ iv = .int .i64 i ∧ kv = .int .i64 (cntN X i : Int) ∧ wr = w) (fun _ iv _ => m - (intOf iv).toNat)
  case atStart => exact ⟨0, Nat.zero_le _, rfl, rfl, rfl⟩
  case round =>
    obtain ⟨i, hi, rfl, rfl, rfl⟩ := hrel
    have hks := cnt_le HS.out i (by rw [HM.out]; exact hi)
    have hkp := cnt_pos X i
    by_cases hlt : i < m
    · have hii : (i : Int) < (m : Int) := by omega
      have hil : i < X.length := by rw [HM.out]; exact hlt
      obtain ⟨nd, hnd⟩ : ∃ nd, X[i]? = some nd := ⟨_, List.getElem?_eq_getElem hil⟩
      have HC : Hid (cntN X (i + 1) = cntN X i + 6 + 2 * nd.L.length) := hide (by show cntN X i + 6 + 2 * (ndAt X i).L.length = _; rw [ndAt_of hnd])
      have hpi : (mkP X m)[i]? = some (mkNd (cntN X i) nd) := by rw [mkP_at hnd, if_pos hlt]
      have hl100 := HS.out i nd hnd
      have hpl : (mkP X m).length = m := by rw [mkP_len, HM.out]
      obtain ⟨K, hK⟩ : ∃ K, cntN X i = K := ⟨_, rfl⟩
      rw [hK] at HC hks hkp hpi
      rw [hK]
      clear hnd hil hK
      obtain ⟨g, rfl, hBg, hgl⟩ := xo_form HP.out (by omega)
      obtain ⟨kad, kc, b1, b2, -, -⟩ := xo_at7 HP.out hpi
      have hll : (mkNd K nd).L.length = nd.L.length := mkR_len _ _ _
      rw [hll] at b2
      have c0 : wr.cell? ⟨g, i * 7, none⟩ = some (.int .i64 (K : Int)) := b1 0 (by omega)
      have c1 : wr.cell? ⟨g, i * 7 + 1, none⟩ = some (.bool (((K : Int) + 1) % 3 == 0)) := b1 1 (by omega)
      have c2 : wr.cell? ⟨g, i * 7 + 2, none⟩ = some (.slice kad nd.L.length kc) := by rw [← hll]; exact b1 2 (by omega)
      have c3 : wr.cell? ⟨g, i * 7 + 3, none⟩ = some (.int .i64 ((K : Int) + 1 + 1 + 2 * (nd.L.length : Int))) := b1 3 (by omega)
      have c4 : wr.cell? ⟨g, i * 7 + 4, none⟩ = some (.int .i64 ((K : Int) + 1 + 1 + 2 * (nd.L.length : Int) + 1)) := b1 4 (by omega)
      have c5 : wr.cell? ⟨g, i * 7 + 5, none⟩ = some (.int .i64 ((K : Int) + 1 + 1 + 2 * (nd.L.length : Int) + 1 + 1)) := b1 5 (by omega)
      have c6 : wr.cell? ⟨g, i * 7 + 6, none⟩ = some (.int .i64 ((K : Int) + 1 + 1 + 2 * (nd.L.length : Int) + 1 + 1 + 1)) := b1 6 (by omega)
      have CH := hide (l_heldRs kad nd.L.length kc nd.L ((K : Int) + 1 + 1) wr rfl hl100 (by omega) (by omega) b2)
      have hq : ¬ ((K : Int) + 1 + 1 + 2 * (nd.L.length : Int)) < 0 := by omega
      clear b1 b2 hll hpi hpl
      go_wp2_with fail
      refine CH.out.mono ?_
      rintro e w2 ⟨rfl, hw2⟩
      rw [hw2]
      clear hw2 CH
      go_wp2
      go_roundw
      case rel =>
        have hcc := HC.out
        refine ⟨i + 1, by omega, by go_num, ?_, by first | rfl | trivial⟩
        rw [hcc]
        first | (congr 1; omega) | (simp; omega) | (congr 1; push_cast; omega)
      case measure => simp [intOf]; omega
    · have hin : i = m := by omega
      subst hin
      have hii : ¬ (i : Int) < (i : Int) := by omega
      go_wp2
      go_ret
      exact ⟨rfl, rfl⟩
end Go.Proofs.YtibagghpimadfaaDoor

/-
  The walk of the law on the reading of expressions: at every text both answer the same nodes, and the program's answer owns its memory.
-/
namespace Go.Proofs.YtibagghpimadfaaDoor
open Go.RowKit Go.Joins
set_option linter.unusedVariables false
set_option linter.unusedSimpArgs false
set_option maxRecDepth 100000 in
set_option maxHeartbeats 8000000 in
theorem rg_walk (s : ByteArray) (w : World) (hs0 : s.size ≤ maxLen) (hT : Tabs w) :
    Calls Tryd.prog 4 #[.string s] w fun e w' => e = .returned (.bool true) ∧ Below w.heap.size w w' := by
  by_cases hbig : s.size ≤ 1048576
  · have hb1 : ¬ (1048576 : Int) < (s.size : Int) := by omega
    have HT := hide hT
    obtain ⟨V, ok, hkl, hcs, hci⟩ : ∃ V ok, V.length ≤ 120 ∧ (∀ W, Calls Tryd.prog 9 #[.string s] W (LtAns V ok W)) ∧ (∀ W, Tabs W → Calls Tryd.prog 8 #[.string s] W (LtAns V ok W)) := ⟨rgV (outL (rns s)) (rns s).isSome, rgO (outL (rns s)) (rns s).isSome, rgV_len _ _, fun W => s_readRegex s _ _ W hbig rfl rfl, fun W hW => i_readRegex s _ _ W hbig hW rfl rfl⟩
    have CS := hide hcs
    have CI := hide hci
    unfold LtAns at CS CI
    obtain ⟨vn, hvn⟩ : ∃ vn, V.length = vn := ⟨_, rfl⟩
    have HVN := hide hvn
    rw [hvn] at CS CI hkl
    clear hcs hci hT hvn
    go_enter Tryd.func4, Tryd.ntmps4
    go_wp2_with fail
    refine (CS.out _).mono ?_
    rintro e w1 ⟨adA, cA, rfl, hoA, hb1'⟩
    have HB1 := hide hb1'
    have OA := hide (xo_imp (T := fun j => j < w1.heap.size) hoA (fun j hj _ => hj))
    have HVS := hide (xo_small hoA)
    clear hoA hb1'
    go_wp2_with fail
    refine (CI.out _ (tabs_below HT.out HB1.out)).mono ?_
    rintro e w2 ⟨adB, cB, rfl, hoB, hb2⟩
    have HB2 := hide (HB1.out.trans (hb2.mono HB1.out.size))
    have hs12 := hb2.size
    have OB := hide hoB
    have OA2 := hide (xo_below OA.out hb2)
    have CE := hide (fun (W : World) (x y : Option Addr) (cx cy : Nat) (hx : RxAt W x (rxOf V) W.heap.size) (hy : RxAt W y (rxOf V) W.heap.size) => l_eqNs (rxOf V) vn x y cx cy W HVN.out (by omega) (fun j hj => by
      have hj' : j < V.length := by rw [HVN.out]; exact hj
      have h9 := HVS.out j V[j] (List.getElem?_eq_getElem hj')
      show (ndAt V j).L.length ≤ 1048576
      rw [ndAt_of (List.getElem?_eq_getElem hj')]
      omega) hx hy)
    clear hoB hb2
    go_wp2_with fail
    refine (CE.out _ adB adA cB cA (xo_rx OB.out) (xo_rx OA2.out)).mono ?_
    rintro e w3 ⟨rfl, hb3⟩
    have HB3 := hide (HB2.out.trans (hb3.mono HB2.out.size))
    have OA3 := hide (xo_below OA2.out hb3)
    have OB3 := hide (xo_below OB.out hb3)
    have hs3 : w1.heap.size ≤ w3.heap.size := Nat.le_trans hs12 hb3.size
    have hs1 := HB1.out.size
    clear hb3
    cases ok
    all_goals
      go_wp2_with fail
      refine (l_markNs w1.heap.size adB vn cB V w3 HVN.out (by omega) hs3 OB3.out).mono ?_
      rintro e w4 ⟨rfl, ho4, hb4⟩
      have O4 := hide ho4
      have OA4 : Hid (XO w.heap.size (fun j => j < w1.heap.size) w4 adA cA V) := hide (xo_kp (T := fun j => w1.heap.size ≤ j) OA3.out ⟨hb4.os, hb4.tape, hb4.output, hb4.size, fun j hj hn9 => hb4.block j (by omega)⟩ (fun j hj e9 => by
        obtain ⟨xs, hx, -⟩ := OA.out
        have h1 := (hx.lt j hj).2
        omega) (fun B' z n' v ys j hv hj hs9 e9 => by have h1 : j < w1.heap.size := hs9; have e9' : w1.heap.size ≤ j := e9; omega))
      have HB4 := hide (HB3.out.trans (hb4.mono hs1))
      have hkq := cnt_le (X := V) HVS.out vn (by rw [HVN.out]; exact Nat.le_refl _)
      have hq0 : ¬ ((cntN V vn : Nat) : Int) < 0 := by omega
      clear ho4 hb4
      go_wp2_with fail
      refine (l_heldNs w1.heap.size _ adB vn cB V _ HVN.out (by omega) HVS.out O4.out).mono ?_
      rintro e w5 ⟨rfl, hw5⟩
      rw [hw5]
      clear hw5 w5
      go_wp2_with fail
      refine (CI.out _ (tabs_below HT.out HB4.out)).mono ?_
      rintro e w6 ⟨adC, cC, rfl, hoC, hb6⟩
      have OC := hide hoC
      have HB6 := hide (HB4.out.trans (hb6.mono HB4.out.size))
      have OA6 := hide (xo_below OA4.out hb6)
      have O6 := hide (xo_below O4.out hb6)
      clear hoC hb6
      go_wp2_with fail
      refine (CE.out _ adC adA cC cA (xo_rx OC.out) (xo_rx OA6.out)).mono ?_
      rintro e w7 ⟨rfl, hb7⟩
      have HB7 := hide (HB6.out.trans (hb7.mono HB6.out.size))
      have O7 := hide (xo_below O6.out hb7)
      clear hb7
      go_wp2_with fail
      refine (l_heldNs w1.heap.size _ adB vn cB V _ HVN.out (by omega) HVS.out O7.out).mono ?_
      rintro e w8 ⟨rfl, hw8⟩
      rw [hw8]
      clear hw8 w8
      go_wp2
      go_ret
      exact ⟨rfl, HB7.out⟩
  · have hb1 : (1048576 : Int) < (s.size : Int) := by omega
    go_enter Tryd.func4, Tryd.ntmps4
    go_wp2
    go_ret
    exact ⟨rfl, Below.refl _ _⟩
end Go.Proofs.YtibagghpimadfaaDoor
