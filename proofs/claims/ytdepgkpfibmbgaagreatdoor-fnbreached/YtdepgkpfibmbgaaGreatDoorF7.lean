/-
  Plans: rows of them, and the place of the first one with a name.
-/
import Derived.Test.YtdepgkpfibmbgaaGreatDoorF4
import Derived.Test.YtdepgkpfibmbgaaGreatDoorF6
namespace Go.Proofs.YtdepgkpfibmbgaaGreatDoor
open Go.RowKit Go.Joins
set_option linter.unusedVariables false
set_option linter.unusedSimpArgs false
/-- A plan: the key, and what was worked out of it. -/
structure Pl where
  k : Ky
  af : Option Addr
  cf : Nat
  d : Bool
  a1 : Option Addr
  n1 : Nat
  c1 : Nat
  fa : Option Addr
  fc : Nat
  r : Int
def plV (p : Pl) : List Value := [.string p.k.nm, .int .i64 p.k.kd, .string p.k.on, .string p.k.pa, .slice p.af p.k.fl.length p.cf, .string p.k.re, .bool p.d, .slice p.a1 p.n1 p.c1, .slice p.fa p.k.fl.length p.fc, .int .i64 p.r]
def pl0 : Pl := ⟨ky0, none, 0, false, none, 0, 0, none, 0, 0⟩
def plA (Ps : List Pl) (j : Nat) : Pl := Ps[j]?.getD pl0
theorem plV_len (p : Pl) : (plV p).length = 10 := rfl
theorem pl_flat : ∀ (Ps : List Pl) (j i : Nat), i < 10 → j < Ps.length → (Ps.flatMap plV)[j * 10 + i]? = (plV (plA Ps j))[i]?
  | [], j, i, _, h => by simp at h
  | p :: Ps, 0, i, hi, _ => by
    rw [List.flatMap_cons, Nat.zero_mul, Nat.zero_add, List.getElem?_append_left (by rw [plV_len]; exact hi)]
    rfl
  | p :: Ps, j + 1, i, hi, h => by
    rw [List.flatMap_cons, List.getElem?_append_right (by rw [plV_len]; omega), plV_len]
    rw [show (j + 1) * 10 + i - 10 = j * 10 + i by omega]
    rw [pl_flat Ps j i hi (by simp at h; omega)]
    rfl
/-- A row of plans of one's own. -/
def PlO (B : Nat) (w : World) (ad : Option Addr) (m c : Nat) (Ps : List Pl) : Prop := Ps.length = m ∧ w.ownsRow B 59 10 (.slice ad m c) m (Ps.flatMap plV)
theorem plO_cell {B : Nat} {w : World} {ad : Option Addr} {m c : Nat} {Ps : List Pl} (h : PlO B w ad m c Ps) (j : Nat) (hj : j < m) : ∃ g, ad = some ⟨g, 0, none⟩ ∧ B ≤ g ∧ g < w.heap.size ∧ ∀ i, i < 10 → w.cell? ⟨g, j * 10 + i, none⟩ = (plV (plA Ps j))[i]? := by
  obtain ⟨hl, h1, ⟨e, h0⟩ | ⟨g, cap, cur, e, hB, hg, hle, hm, hz, ht⟩⟩ := h
  · omega
  · cases e
    refine ⟨g, rfl, hB, (Array.getElem?_eq_some_iff.1 hg).1, fun i hi => ?_⟩
    rw [cell_of_row w g (j * 10 + i) cur _ (0, 0) hg, ← pl_flat Ps j i hi (by omega), ← ht, List.getElem?_take_of_lt (by omega)]
    simp
theorem plO_go {B : Nat} {w w' : World} {ad : Option Addr} {m c : Nat} {Ps : List Pl} (h : PlO B w ad m c Ps) (hb : Below w.heap.size w w') : PlO B w' ad m c Ps := ⟨h.1, gOwn_after h.2 hb⟩
/-- r is the first place of the name, or -1. -/
def FirstN (Ps : List Pl) (m : Nat) (t : ByteArray) (r : Int) : Prop := (r = -1 ∧ ∀ j, j < m → (plA Ps j).k.nm ≠ t) ∨ (∃ j : Nat, r = j ∧ j < m ∧ (plA Ps j).k.nm = t)
set_option maxHeartbeats 2000000 in
theorem i_keyAt1 (p : Pl) (Q : Nat) (t : ByteArray) (w : World) (hq : w.cell? ⟨Q, 0, none⟩ = some (.string t)) :
    Calls Tryz.prog 100 #[.agg (plV p).toArray, .pointer (some ⟨Q, 0, none⟩)] w fun e w' => e = .returned (.bool (p.k.nm.toList == t.toList)) ∧ Below w.heap.size w w' := by
  have hl : Q < w.heap.size := World.block_lt_of_cell? _ _ hq
  unfold plV
  obtain ⟨⟨nm, kd, on, pa, fl, re⟩, af, cf, d, a1, n1, c1, fa, fc, r⟩ := p
  simp only
  go_enter Tryz.func100, Tryz.ntmps100
  go_wp2
  go_ret
  exact ⟨rfl, (Below.refl _ _).alloc (Nat.le_refl _) _⟩
set_option maxRecDepth 100000 in
set_option maxHeartbeats 4000000 in
theorem i_indexF (B : Nat) (ad : Option Addr) (m c : Nat) (Ps : List Pl) (Q : Nat) (t : ByteArray) (w : World) (hP : PlO B w ad m c Ps) (hm : m ≤ 1048576) (hq : w.cell? ⟨Q, 0, none⟩ = some (.string t)) :
    Calls Tryz.prog 99 #[.slice ad m c, .func (.func 100) #[] #[.pointer (some ⟨Q, 0, none⟩)]] w fun e w' => (∃ r, e = .returned (.int .i64 r) ∧ FirstN Ps m t r) ∧ Below w.heap.size w w' := by
  have HP := hide hP
  have HQ := hide hq
  have hl : Q < w.heap.size := World.block_lt_of_cell? _ _ hq
  clear hP hq
  go_enter Tryz.func99, Tryz.ntmps99
  go_wp2
  go_loopw [8] (fun i wr => ∃ k : Nat, k ≤ m ∧ i = .int .i64 k ∧ Hid (Below w.heap.size w wr) ∧ Hid (∀ j, j < k → (plA Ps j).k.nm ≠ t)) (fun i _ => m - (intOf i).toNat)
  case atStart => exact ⟨0, Nat.zero_le _, rfl, Below.refl _ _, fun j h => by omega⟩
  case round =>
    obtain ⟨k, hk, rfl, HB, HA⟩ := hrel
    by_cases hlt : k < m
    · have hki : (k : Int) < m := by omega
      obtain ⟨g, rfl, hBg, hg, hc⟩ := plO_cell HP.out k hlt
      have hc2 : ∀ i, i < 10 → wr.cell? ⟨g, k * 10 + i, none⟩ = (plV (plA Ps k))[i]? := fun i hi => (HB.out.cell (p := ⟨g, k * 10 + i, none⟩) hg).trans (hc i hi)
      have CC := hide (i_keyAt1 (plA Ps k) Q t wr ((HB.out.cell (p := ⟨Q, 0, none⟩) hl).trans HQ.out))
      obtain ⟨p, hp⟩ : ∃ p, plA Ps k = p := ⟨_, rfl⟩
      have HPP := hide hp
      rw [hp] at hc2 CC
      obtain ⟨⟨nm, kd, on, pa, fl, re⟩, af, cf, d, a1, n1, c1, fa, fc, r⟩ := p
      obtain ⟨fm, hfm⟩ : ∃ fm, fl.length = fm := ⟨_, rfl⟩
      have q0 : wr.cell? ⟨g, k * 10, none⟩ = some (.string nm) := hc2 0 (by decide)
      have q1 : wr.cell? ⟨g, k * 10 + 1, none⟩ = some (.int .i64 kd) := hc2 1 (by decide)
      have q2 : wr.cell? ⟨g, k * 10 + 2, none⟩ = some (.string on) := hc2 2 (by decide)
      have q3 : wr.cell? ⟨g, k * 10 + 3, none⟩ = some (.string pa) := hc2 3 (by decide)
      have q4 : wr.cell? ⟨g, k * 10 + 4, none⟩ = some (.slice af fl.length cf) := hc2 4 (by decide)
      have q5 : wr.cell? ⟨g, k * 10 + 5, none⟩ = some (.string re) := hc2 5 (by decide)
      have q6 : wr.cell? ⟨g, k * 10 + 6, none⟩ = some (.bool d) := hc2 6 (by decide)
      have q7 : wr.cell? ⟨g, k * 10 + 7, none⟩ = some (.slice a1 n1 c1) := hc2 7 (by decide)
      have q8 : wr.cell? ⟨g, k * 10 + 8, none⟩ = some (.slice fa fl.length fc) := hc2 8 (by decide)
      have q9 : wr.cell? ⟨g, k * 10 + 9, none⟩ = some (.int .i64 r) := hc2 9 (by decide)
      unfold plV at CC
      simp only at CC
      rw [hfm] at q4 q8 CC
      clear hc2 hc hfm hp
      cases he : (nm.toList == t.toList)
      · have HA2 : Hid (∀ j, j < k + 1 → (plA Ps j).k.nm ≠ t) := hide (fun j hj => by
          by_cases e : j = k
          · subst e; rw [HPP.out]; exact ba_ne he
          · exact HA.out j (by omega))
        rw [he] at CC
        go_wp2_with (go_at_call 100; refine CC.out.mono ?_; rintro e w2 ⟨rfl, hb2⟩; have HB2 := hide (HB.out.trans (hb2.mono HB.out.size)); clear hb2)
        go_roundw
        case rel => exact ⟨k + 1, by omega, by go_num, HB2, HA2⟩
        case measure => simp [intOf]; omega
      · have HE := hide ((ba_eq _ _).1 he)
        rw [he] at CC
        go_wp2_with (go_at_call 100; refine CC.out.mono ?_; rintro e w2 ⟨rfl, hb2⟩; have HB2 := hide (HB.out.trans (hb2.mono HB.out.size)); clear hb2)
        go_ret
        exact ⟨⟨_, rfl, .inr ⟨k, rfl, hlt, by rw [HPP.out]; exact HE.out⟩⟩, HB2.out⟩
    · have hkm : k = m := by omega
      subst hkm
      go_wp2
      go_ret
      exact ⟨⟨_, rfl, .inl ⟨rfl, HA.out⟩⟩, HB.out⟩
set_option maxHeartbeats 2000000 in
theorem i_keyAt (B : Nat) (ad : Option Addr) (m c : Nat) (Ps : List Pl) (t : ByteArray) (w : World) (hP : PlO B w ad m c Ps) (hm : m ≤ 1048576) :
    Calls Tryz.prog 65 #[.slice ad m c, .string t] w fun e w' => (∃ r, e = .returned (.int .i64 r) ∧ FirstN Ps m t r) ∧ Below w.heap.size w w' := by
  have C := hide (i_indexF B ad m c Ps w.heap.size t (w.alloc (.cells #[.string t] 9)) (plO_go hP ((Below.refl _ _).alloc (Nat.le_refl _) _)) hm (by rw [cell_of_row _ w.heap.size 0 #[.string t] 9 (0, 0) (heap_alloc_new w _)]; rfl))
  clear hP
  go_enter Tryz.func65, Tryz.ntmps65
  go_wp2_with fail
  refine C.out.mono ?_
  rintro e w2 ⟨⟨r, rfl, hr⟩, hb⟩
  have HR := hide hr
  have HB := hide (gBox_below hb)
  clear hr hb
  go_wp2
  go_ret
  exact ⟨⟨r, rfl, HR.out⟩, HB.out⟩
end Go.Proofs.YtdepgkpfibmbgaaGreatDoor
