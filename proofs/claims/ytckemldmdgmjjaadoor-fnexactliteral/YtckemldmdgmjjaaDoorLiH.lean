/-
  Contract of the laws' helper on rows of expression nodes: the marks stand.
-/
import Derived.Test.YtckemldmdgmjjaaDoorLiN
namespace Go.Proofs.YtckemldmdgmjjaaDoor
open Go.RowKit Go.Joins
set_option linter.unusedVariables false
set_option linter.unusedSimpArgs false
set_option maxRecDepth 100000 in
set_option maxHeartbeats 8000000 in
theorem l_heldNs (B : Nat) (S : Nat → Prop) (ad : Option Addr) (m c : Nat) (X : List Nd) (w : World) (hm : X.length = m) (hX : m ≤ 300) (hS : ∀ (j : Nat) (nd : Nd), X[j]? = some nd → nd.L.length ≤ 100) (hp : XO B S w ad c (mkP X m)) :
    Calls Tryd.prog 8 #[.slice ad m c, .int .i64 1] w fun e w' => e = .returned (.int .i64 (cntN X m : Int)) ∧ w' = w := by
  have HM := hide hm
  have HS := hide hS
  have HP := hide hp
  clear hp hm hS
  go_enter Tryd.func8, Tryd.ntmps8
  go_wp2_with fail
  go_loopw [1, 5] (fun kv iv wr => ∃ i : Nat, i ≤ m ∧ iv = .int .i64 i ∧ kv = .int .i64 (cntN X i : Int) ∧ wr = w) (fun _ iv _ => m - (intOf iv).toNat)
  case atStart => exact ⟨0, Nat.zero_le _, rfl, rfl, rfl⟩
  case round =>
    obtain ⟨i, hi, rfl, rfl, rfl⟩ := hrel
    have hks := cnt_le HS.out i (by rw [HM.out]; exact hi)
    have hkp := cnt_pos X i
    by_cases hlt : i < m
    · have hii : (i : Int) < (m : Int) := by omega
      have hil : i < X.length := by rw [HM.out]; exact hlt
      obtain ⟨nd, hnd⟩ : ∃ nd, X[i]? = some nd := ⟨_, List.getElem?_eq_getElem hil⟩
      have HC : Hid (cntN X (i + 1) = cntN X i + 6 + 2 * nd.L.length) := hide (by show cntN X i + 6 + 2 * (ndAt X i).L.length = _; rw [ndAt_of hnd])
      have hpi : (mkP X m)[i]? = some (mkNd (cntN X i) nd) := by rw [mkP_at hnd, if_pos hlt]
      have hl100 := HS.out i nd hnd
      have hpl : (mkP X m).length = m := by rw [mkP_len, HM.out]
      obtain ⟨K, hK⟩ : ∃ K, cntN X i = K := ⟨_, rfl⟩
      rw [hK] at HC hks hkp hpi
      rw [hK]
      clear hnd hil hK
      obtain ⟨g, rfl, hBg, hgl⟩ := xo_form HP.out (by omega)
      obtain ⟨kad, kc, b1, b2, -, -⟩ := xo_at7 HP.out hpi
      have hll : (mkNd K nd).L.length = nd.L.length := mkR_len _ _ _
      rw [hll] at b2
      have c0 : wr.cell? ⟨g, i * 7, none⟩ = some (.int .i64 (K : Int)) := b1 0 (by omega)
      have c1 : wr.cell? ⟨g, i * 7 + 1, none⟩ = some (.bool (((K : Int) + 1) % 3 == 0)) := b1 1 (by omega)
      have c2 : wr.cell? ⟨g, i * 7 + 2, none⟩ = some (.slice kad nd.L.length kc) := by rw [← hll]; exact b1 2 (by omega)
      have c3 : wr.cell? ⟨g, i * 7 + 3, none⟩ = some (.int .i64 ((K : Int) + 1 + 1 + 2 * (nd.L.length : Int))) := b1 3 (by omega)
      have c4 : wr.cell? ⟨g, i * 7 + 4, none⟩ = some (.int .i64 ((K : Int) + 1 + 1 + 2 * (nd.L.length : Int) + 1)) := b1 4 (by omega)
      have c5 : wr.cell? ⟨g, i * 7 + 5, none⟩ = some (.int .i64 ((K : Int) + 1 + 1 + 2 * (nd.L.length : Int) + 1 + 1)) := b1 5 (by omega)
      have c6 : wr.cell? ⟨g, i * 7 + 6, none⟩ = some (.int .i64 ((K : Int) + 1 + 1 + 2 * (nd.L.length : Int) + 1 + 1 + 1)) := b1 6 (by omega)
      have CH := hide (l_heldRs kad nd.L.length kc nd.L ((K : Int) + 1 + 1) wr rfl hl100 (by omega) (by omega) b2)
      have hq : ¬ ((K : Int) + 1 + 1 + 2 * (nd.L.length : Int)) < 0 := by omega
      clear b1 b2 hll hpi hpl
      go_wp2_with fail
      refine CH.out.mono ?_
      rintro e w2 ⟨rfl, hw2⟩
      rw [hw2]
      clear hw2 CH
      go_wp2
      go_roundw
      case rel =>
        have hcc := HC.out
        refine ⟨i + 1, by omega, by go_num, ?_, by first | rfl | trivial⟩
        rw [hcc]
        first | (congr 1; omega) | (simp; omega) | (congr 1; push_cast; omega)
      case measure => simp [intOf]; omega
    · have hin : i = m := by omega
      subst hin
      have hii : ¬ (i : Int) < (i : Int) := by omega
      go_wp2
      go_ret
      exact ⟨rfl, rfl⟩
end Go.Proofs.YtckemldmdgmjjaaDoor
