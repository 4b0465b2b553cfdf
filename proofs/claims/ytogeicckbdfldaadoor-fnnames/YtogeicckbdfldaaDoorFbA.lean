/-
  Plain facts for the law on bindings: which attribute binds a prefix, and that the item above is one.
-/
import Derived.Test.YtogeicckbdfldaaDoorBnW
import Derived.Test.YtogeicckbdfldaaDoorFkA
namespace Go.Proofs.YtogeicckbdfldaaDoor
open Go.RowKit Go.Joins
set_option linter.unusedVariables false
set_option linter.unusedSimpArgs false
theorem qual_xmlns : qualB ⟨#[120, 109, 108, 110, 115, 58]⟩ = false := by
  have hc : colon ⟨#[120, 109, 108, 110, 115, 58]⟩ = 5 := by decide
  unfold qualB
  rw [spl, if_neg (by rw [hc]; decide), if_neg (fun h => ?_)]
  rw [post, hc] at h
  exact absurd h.2 (by decide)
theorem at_qual {D : Dc} (h : docokB D = true) {x k : Nat} (hx : x < D.n) (hk : k < D.AC x) : qualB (D.AN x k) = true := by
  have hi := (docok_facts h).2.1 x hx
  unfold itB at hi
  rw [Bool.and_eq_true] at hi
  have hp := hi.2
  unfold pB partB at hp
  by_cases he : (D.NM x).toList.isEmpty = true
  · rw [if_pos he] at hp
    simp only [Bool.and_eq_true, beq_iff_eq] at hp
    omega
  · rw [if_neg he] at hp
    simp only [Bool.and_eq_true] at hp
    have ha := hp.2.2
    unfold attrsB at ha
    rw [Bool.and_eq_true, List.all_eq_true] at ha
    have := ha.2 k (List.mem_range.2 hk)
    unfold atB at this
    rw [Bool.and_eq_true] at this
    exact this.1
theorem at_notx {D : Dc} (h : docokB D = true) {x k : Nat} (hx : x < D.n) (hk : k < D.AC x) : D.AN x k ≠ ⟨#[120, 109, 108, 110, 115, 58]⟩ := fun e => by
  have := at_qual h hx hk
  rw [e, qual_xmlns] at this
  cases this
theorem up_has {D : Dc} (h : docokB D = true) {x : Nat} (h1 : 1 ≤ x) (hx : x < D.n) : 0 ≤ D.U x ∧ D.U x < x ∧ hasB' D (D.U x) = true := by
  have hg := itB_good (docok_facts h).2.1
  have hd := docok_dec h
  have hr := place_rc (by omega) (hg x hx)
  have h0 := (rc_mem D.U (D.U x) (fun k hk => (hd k (by have := st_le (by omega) (good_less hg (by omega) : Good D x); omega)).2) hr).1
  have h2 := (hd x hx).2
  refine ⟨h0, h2, ?_⟩
  unfold hasB'
  rw [h, Bool.true_and]
  exact decide_eq_true ⟨h0, by omega⟩
theorem x_has {D : Dc} (h : docokB D = true) {x : Nat} (hx : x < D.n) : hasB' D (x : Int) = true := by
  unfold hasB'
  rw [h, Bool.true_and]
  exact decide_eq_true ⟨by omega, by omega⟩
/-- The first attribute that binds the prefix says what it is bound to. -/
theorem bn_first {D : Dc} (h : docokB D = true) {x i : Nat} {p : ByteArray} (hx : x < D.n) (hi : i < D.AC x) (hN : D.AN x i = bnN p) (hb : atF (D.AN x) (bnN p) (D.AC x - i) i = atF (D.AN x) (bnN p) (D.AC x) 0) (hp : (p.toList == [120, 109, 108]) = false) : baV D x p = D.AV x i ∧ baK D x p = (p.toList.isEmpty || !(D.AV x i).toList.isEmpty) := by
  have hr : bnR D (bnN p) x = some (D.AV x i) := bnR_hit (by rw [← hb]; exact atF_yes hi hN)
  obtain ⟨e1, e2⟩ := ba_yes (p := p) (x_has h hx)
  rw [e1, e2]
  unfold bnV bnK
  rw [hp, hr]
  exact ⟨rfl, rfl⟩
theorem bn_above {D : Dc} (h : docokB D = true) {x : Nat} {p : ByteArray} (h1 : 1 ≤ x) (hx : x < D.n) (hb : atF (D.AN x) (bnN p) (D.AC x) 0 = none) : baV D (D.U x) p = baV D x p ∧ baK D (D.U x) p = baK D x p := by
  obtain ⟨-, -, hh⟩ := up_has h h1 hx
  obtain ⟨e1, e2⟩ := ba_yes (p := p) hh
  obtain ⟨e3, e4⟩ := ba_yes (p := p) (x_has h hx)
  have hr : bnR D (bnN p) x = bnR D (bnN p) (D.U x) := bnR_up (n := D.n) (fun j hj => (docok_dec h j hj).2) hx hb
  rw [e1, e2, e3, e4]
  unfold bnV bnK
  rw [hr]
  exact ⟨rfl, rfl⟩
end Go.Proofs.YtogeicckbdfldaaDoor
