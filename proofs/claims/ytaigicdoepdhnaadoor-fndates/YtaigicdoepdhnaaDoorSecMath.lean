/-
  Plain facts on the seconds of a date, of no program: the days ahead of a year and of a month.
-/
import Derived.Test.YtaigicdoepdhnaaDoorDates
namespace Go.Proofs.YtaigicdoepdhnaaDoor
open Go.RowKit
/-- The days ahead of a year's first one. -/
def dby (y : Int) : Int := 365 * (y - 1) + (y - 1) / 4 - (y - 1) / 100 + (y - 1) / 400
theorem dby_bd {y : Int} (h1 : 1 ≤ y) (h2 : y ≤ 10000) : 0 ≤ dby y ∧ dby y ≤ 3652059 := by unfold dby; omega
/-- The days of a year's first k months. -/
def cumN (y : Int) : Nat → Int
  | 0 => 0
  | k + 1 => cumN y k + dim y (k + 1)
theorem cumN_bd {y : Int} (hy : 1 ≤ y ∧ y ≤ 9999) (k : Nat) (hk : k ≤ 12) : 0 ≤ cumN y k ∧ cumN y k ≤ 31 * k := by
  induction k with
  | zero => simp [cumN]
  | succ k ih =>
    have := ih (by omega)
    have h1 := dim_lo (y := y) (m := (k : Int) + 1) hy (by omega)
    have h2 := (dim_bd y ((k : Int) + 1)).2
    simp only [cumN]; omega
/-- What the clocks of the date's own zone show. -/
def lsec (y mo d h mi s : Int) : Int := 86400 * (dby y + d - 1 + cumN y (mo - 1).toNat) + 3600 * h + 60 * mi + s
def secs (y mo d h mi s : Int) (z : Int) : Int := lsec y mo d h mi s - 60 * z
structure Rt (y mo d h mi s : Int) (g : Bool) (z : Int) : Prop where
  y1 : 1 ≤ y
  y2 : y ≤ 9999
  m1 : 1 ≤ mo
  m2 : mo ≤ 12
  d1 : 1 ≤ d
  d2 : d ≤ dim y mo
  h1 : 0 ≤ h
  h2 : h ≤ 23
  n1 : 0 ≤ mi
  n2 : mi ≤ 59
  s1 : 0 ≤ s
  s2 : s ≤ 59
  z1 : -840 ≤ z
  z2 : z ≤ 840
  gz : g = true ∨ z = 0
theorem rt_of {y mo d h mi s : Int} {g : Bool} {z : Int} (hx : dateB y mo d h mi s g z = true) : Rt y mo d h mi s g z := by
  simp only [dateB, Bool.and_eq_true, Bool.or_eq_true, decide_eq_true_eq] at hx
  obtain ⟨a, b, c, e, f, k, l, m⟩ := hx
  have a := inB_of a
  have b := inB_of b
  have c := inB_of c
  have e := inB_of e
  have f := inB_of f
  have k := inB_of k
  have l := inB_of l
  exact ⟨a.1, a.2, b.1, b.2, c.1, c.2, e.1, e.2, f.1, f.2, k.1, k.2, l.1, l.2, m⟩
theorem dateB_of {y mo d h mi s : Int} {g : Bool} {z : Int} (r : Rt y mo d h mi s g z) : dateB y mo d h mi s g z = true := by
  simp only [dateB, Bool.and_eq_true, Bool.or_eq_true, decide_eq_true_eq]
  exact ⟨inB_t ⟨r.y1, r.y2⟩, inB_t ⟨r.m1, r.m2⟩, inB_t ⟨r.d1, r.d2⟩, inB_t ⟨r.h1, r.h2⟩, inB_t ⟨r.n1, r.n2⟩, inB_t ⟨r.s1, r.s2⟩, inB_t ⟨r.z1, r.z2⟩, r.gz⟩
theorem lsec_bd {y mo d h mi s : Int} {g : Bool} {z : Int} (r : Rt y mo d h mi s g z) : 0 ≤ lsec y mo d h mi s ∧ lsec y mo d h mi s ≤ 86400 * (3652059 + 31 + 372) + 86400 := by
  have a := dby_bd r.y1 (by have := r.y2; omega)
  have b := cumN_bd ⟨r.y1, r.y2⟩ (mo - 1).toNat (by have := r.m2; omega)
  have c := (dim_bd y mo).2
  obtain ⟨_, _, _, _, _, _, _, _, _, _, _, _, _, _, _⟩ := r
  unfold lsec; omega
theorem secs_bd {y mo d h mi s : Int} {g : Bool} {z : Int} (r : Rt y mo d h mi s g z) : -60000 ≤ secs y mo d h mi s z ∧ secs y mo d h mi s z ≤ 400000000000 := by
  have := lsec_bd r
  obtain ⟨_, _, _, _, _, _, _, _, _, _, _, _, _, _, _⟩ := r
  unfold secs; omega
end Go.Proofs.YtaigicdoepdhnaaDoor
