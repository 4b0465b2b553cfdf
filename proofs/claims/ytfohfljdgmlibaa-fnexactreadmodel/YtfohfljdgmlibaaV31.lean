/-
  Contracts of the specification's reader of models, with what stands there: one sign, how often.
-/
import Derived.Test.YtfohfljdgmlibaaV11
import Derived.Test.YtfohfljdgmlibaaV30
namespace Go.Proofs.Ytfohfljdgmlibaa
open Go.RowKit Go.Joins
set_option linter.unusedVariables false
set_option linter.unusedSimpArgs false
/-- What is left of a text. -/
def dr (s : ByteArray) (p : Nat) : List UInt8 := s.data.toList.drop p
theorem dr_at (s : ByteArray) (p : Nat) (h : p < s.size) : dr s p = s[p] :: dr s (p + 1) := by
  unfold dr
  rw [List.drop_eq_getElem_cons (by simpa using h)]
  rfl
theorem dr_end (s : ByteArray) (p : Nat) (h : s.size ≤ p) : dr s p = [] := List.drop_eq_nil_of_le (by simpa using h)
/-- What one look at a sign leaves. -/
def IsAnx (R : Nat) (s : ByteArray) (p : Nat) (bd : Bool) (ad : Option Addr) (m c : Nat) (ch : UInt8) (w : World) (e : Ending) (w' : World) : Prop :=
  ∃ (b : Bool) (p' : Nat), e = .returned (.bool b) ∧ L8 w' R s p' bd ad m c ∧ Kp (fun k => k = R) w w' ∧ ((b = true ∧ bd = false ∧ p' = p + 1 ∧ p + 1 ≤ s.size ∧ dr s p = ch :: dr s (p + 1)) ∨ (b = false ∧ p' = p ∧ (bd = false → (dr s p).head? ≠ some ch)))
set_option maxHeartbeats 2000000 in
theorem x_is (R : Nat) (s : ByteArray) (p : Nat) (bd : Bool) (ad : Option Addr) (m c : Nat) (ch : UInt8) (ci : Int) (hci : (ch.toNat : Int) = ci) (w : World) (h : L8 w R s p bd ad m c) (hp : p ≤ s.size) (hs : s.size ≤ 20000) :
    Calls Try.prog 61 #[.pointer (some ⟨R, 0, none⟩), .int .u8 ci] w (IsAnx R s p bd ad m c ch w) := by
  have HH := hide h
  have HC := hide hci
  obtain ⟨c0, c1, c2, c3⟩ := l8_cells h
  have f1 := l8_frozen h 1
  clear h hci
  cases bd
  · by_cases hlt : p < s.size
    · have hd : decide ((p : Int) ≥ (s.size : Int)) = false := decide_eq_false (by omega)
      have hi0 : (0 : Int) ≤ (p : Int) := by omega
      have hi1 : (p : Int) < (s.size : Int) := by omega
      have hi2 : ¬ (s.size : Int) ≤ (p : Int) := by omega
      cases hb : (((s[p].toNat : Int)) != ci)
      · have HE : Hid (dr s p = ch :: dr s (p + 1)) := hide (by
          rw [dr_at s p hlt]
          congr 1
          rw [← HC.out] at hb
          simp at hb
          exact UInt8.toNat_inj.1 (by omega))
        go_enter Try.func61, Try.ntmps61
        go_wp2
        go_quiet (fail)
        go_wp2
        go_ret
        exact ⟨true, p + 1, rfl, l8_p HH.out (p + 1), (kp_drewN w _).trans (kp_set (S := fun k => k = R) _ _ _ rfl) (fun j _ hj => hj), .inl ⟨rfl, rfl, rfl, by omega, HE.out⟩⟩
      · have HE : Hid ((dr s p).head? ≠ some ch) := hide (by
          rw [dr_at s p hlt]
          rw [← HC.out] at hb
          intro e
          simp at e
          rw [e] at hb
          simp at hb)
        go_enter Try.func61, Try.ntmps61
        go_wp2
        go_quiet (fail)
        go_wp2
        go_ret
        exact ⟨false, p, rfl, HH.out, kp_drewN w _, .inr ⟨rfl, rfl, fun _ => HE.out⟩⟩
    · have hd : decide ((p : Int) ≥ (s.size : Int)) = true := decide_eq_true (by omega)
      have hi2 : (s.size : Int) ≤ (p : Int) := by omega
      have HE : Hid ((dr s p).head? ≠ some ch) := hide (by rw [dr_end s p (by omega)]; simp)
      go_enter Try.func61, Try.ntmps61
      go_wp2
      go_quiet (fail)
      go_wp2
      go_ret
      exact ⟨false, p, rfl, HH.out, kp_drewN w _, .inr ⟨rfl, rfl, fun _ => HE.out⟩⟩
  · go_enter Try.func61, Try.ntmps61
    go_wp2
    go_quiet (fail)
    go_wp2
    go_ret
    exact ⟨false, p, rfl, HH.out, kp_drewN w _, .inr ⟨rfl, rfl, fun h => (by cases h)⟩⟩
def OccAnx (R : Nat) (s : ByteArray) (p : Nat) (bd : Bool) (ad : Option Addr) (m c : Nat) (w : World) (e : Ending) (w' : World) : Prop :=
  ∃ (x : Int) (p' : Nat), e = .returned (.int .i64 x) ∧ L8 w' R s p' bd ad m c ∧ Kp (fun k => k = R) w w' ∧ (p ≤ p' ∧ p' ≤ s.size) ∧ (bd = false → ocP x (dr s p) (dr s p'))
theorem occx_of {R : Nat} {s : ByteArray} {p p' : Nat} {bd : Bool} {ad : Option Addr} {m c : Nat} {w w' : World} (x : Int) (h : L8 w' R s p' bd ad m c) (k : Kp (fun k => k = R) w w') (h1 : p ≤ p' ∧ p' ≤ s.size) (h2 : bd = false → ocP x (dr s p) (dr s p')) : OccAnx R s p bd ad m c w (.returned (.int .i64 x)) w' := ⟨x, p', rfl, h, k, h1, h2⟩
set_option maxHeartbeats 2000000 in
theorem x_occur (R : Nat) (s : ByteArray) (p : Nat) (bd : Bool) (ad : Option Addr) (m c : Nat) (w : World) (h : L8 w R s p bd ad m c) (hp : p ≤ s.size) (hs : s.size ≤ 20000) :
    Calls Try.prog 63 #[.pointer (some ⟨R, 0, none⟩)] w (OccAnx R s p bd ad m c w) := by
  have HH := hide h
  clear h
  go_enter Try.func63, Try.ntmps63
  go_wp2_with fail
  refine (x_is R s p bd ad m c 63 63 rfl w HH.out hp hs).mono ?_
  rintro e w1 ⟨b1, p1, rfl, h1, k1, o1⟩
  have H1 := hide h1
  have K1 := hide k1
  have O1 := hide o1
  have hp1 : p ≤ p1 ∧ p1 ≤ s.size := by rcases o1 with ⟨-, -, h1, h2, -⟩ | ⟨-, h1, -⟩ <;> omega
  clear h1 k1 o1
  cases b1
  case true =>
    go_wp2
    go_ret
    refine occx_of _ H1.out K1.out hp1 (fun _ => ?_)
    rcases O1.out with ⟨-, -, e, -, h⟩ | ⟨h, -⟩
    · rw [e]; exact .inl ⟨rfl, h⟩
    · cases h
  case false =>
    have O1' : Hid (p1 = p ∧ (bd = false → (dr s p).head? ≠ some 63)) := hide (by rcases O1.out with ⟨h, -⟩ | ⟨-, h⟩; cases h; exact h)
    clear O1
    go_wp2_with fail
    refine (x_is R s p1 bd ad m c 42 42 rfl w1 H1.out hp1.2 hs).mono ?_
    rintro e w2 ⟨b2, p2, rfl, h2, k2, o2⟩
    have H2 := hide h2
    have K2 := hide (K1.out.trans k2 (fun j _ hj => hj))
    have O2 := hide o2
    have hp2 : p ≤ p2 ∧ p2 ≤ s.size := by rcases o2 with ⟨-, -, h1, h2, -⟩ | ⟨-, h1, -⟩ <;> omega
    clear h2 k2 o2
    cases b2
    case true =>
      go_wp2
      go_ret
      refine occx_of _ H2.out K2.out hp2 (fun _ => ?_)
      rcases O2.out with ⟨-, -, e, -, h⟩ | ⟨h, -⟩
      · rw [e]; rw [O1'.out.1] at h ⊢; exact .inr (.inl ⟨rfl, h⟩)
      · cases h
    case false =>
      have O2' : Hid (p2 = p1 ∧ (bd = false → (dr s p1).head? ≠ some 42)) := hide (by rcases O2.out with ⟨h, -⟩ | ⟨-, h⟩; cases h; exact h)
      clear O2
      go_wp2_with fail
      refine (x_is R s p2 bd ad m c 43 43 rfl w2 H2.out hp2.2 hs).mono ?_
      rintro e w3 ⟨b3, p3, rfl, h3, k3, o3⟩
      have H3 := hide h3
      have K3 := hide (K2.out.trans k3 (fun j _ hj => hj))
      have O3 := hide o3
      have hp3 : p ≤ p3 ∧ p3 ≤ s.size := by rcases o3 with ⟨-, -, h1, h2, -⟩ | ⟨-, h1, -⟩ <;> omega
      clear h3 k3 o3
      have e1 := O1'.out.1
      have e2 := O2'.out.1
      have HE1 := hide e1
      have HE2 := hide e2
      clear e1 e2
      cases b3
      · go_wp2
        go_ret
        refine occx_of _ H3.out K3.out hp3 (fun hbd => ?_)
        rcases O3.out with ⟨h, -⟩ | ⟨-, e, h⟩
        · cases h
        · have a1 := O1'.out.2 hbd
          have a2 := O2'.out.2 hbd
          have a3 := h hbd
          rw [e]
          rw [HE2.out, HE1.out] at a3 ⊢
          rw [HE1.out] at a2
          exact .inr (.inr (.inr ⟨rfl, rfl, a1, a2, a3⟩))
      · go_wp2
        go_ret
        refine occx_of _ H3.out K3.out hp3 (fun hbd => ?_)
        rcases O3.out with ⟨-, -, e, -, h⟩ | ⟨h, -⟩
        · rw [e]
          rw [HE2.out, HE1.out] at h ⊢
          exact .inr (.inr (.inl ⟨rfl, h⟩))
        · cases h
end Go.Proofs.Ytfohfljdgmlibaa
