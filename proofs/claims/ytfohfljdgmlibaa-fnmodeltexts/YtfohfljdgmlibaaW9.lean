/-
  Contracts of the reader of models: one sign, how often.
-/
import Derived.Test.YtfohfljdgmlibaaW4
import Derived.Test.YtfohfljdgmlibaaW8
namespace Go.Proofs.Ytfohfljdgmlibaa
open Go.RowKit Go.Joins
set_option linter.unusedVariables false
set_option linter.unusedSimpArgs false
/-- What one look at a sign leaves. -/
def IsAns (R : Nat) (s : ByteArray) (p : Nat) (bd : Bool) (ad : Option Addr) (m c : Nat) (w : World) (e : Ending) (w' : World) : Prop :=
  ∃ (b : Bool) (p' : Nat), e = .returned (.bool b) ∧ L8 w' R s p' bd ad m c ∧ Kp (fun k => k = R) w w' ∧ ((b = true ∧ bd = false ∧ p' = p + 1 ∧ p + 1 ≤ s.size) ∨ (b = false ∧ p' = p))
set_option maxHeartbeats 2000000 in
theorem r_is (R : Nat) (s : ByteArray) (p : Nat) (bd : Bool) (ad : Option Addr) (m c : Nat) (ch : Int) (w : World) (h : L8 w R s p bd ad m c) (hp : p ≤ s.size) (hs : s.size ≤ 20000) :
    Calls Try.prog 61 #[.pointer (some ⟨R, 0, none⟩), .int .u8 ch] w (IsAns R s p bd ad m c w) := by
  have HH := hide h
  obtain ⟨c0, c1, c2, c3⟩ := l8_cells h
  have f1 := l8_frozen h 1
  clear h
  cases bd
  · by_cases hlt : p < s.size
    · have hd : decide ((p : Int) ≥ (s.size : Int)) = false := decide_eq_false (by omega)
      have hi0 : (0 : Int) ≤ (p : Int) := by omega
      have hi1 : (p : Int) < (s.size : Int) := by omega
      have hi2 : ¬ (s.size : Int) ≤ (p : Int) := by omega
      cases hb : (((s[p].toNat : Int)) != ch)
      · go_enter Try.func61, Try.ntmps61
        go_wp2
        go_quiet (fail)
        go_wp2
        go_ret
        exact ⟨true, p + 1, rfl, l8_p HH.out (p + 1), (kp_drewN w _).trans (kp_set (S := fun k => k = R) _ _ _ rfl) (fun j _ hj => hj), .inl ⟨rfl, rfl, rfl, by omega⟩⟩
      · go_enter Try.func61, Try.ntmps61
        go_wp2
        go_quiet (fail)
        go_wp2
        go_ret
        exact ⟨false, p, rfl, HH.out, kp_drewN w _, .inr ⟨rfl, rfl⟩⟩
    · have hd : decide ((p : Int) ≥ (s.size : Int)) = true := decide_eq_true (by omega)
      have hi2 : (s.size : Int) ≤ (p : Int) := by omega
      go_enter Try.func61, Try.ntmps61
      go_wp2
      go_quiet (fail)
      go_wp2
      go_ret
      exact ⟨false, p, rfl, HH.out, kp_drewN w _, .inr ⟨rfl, rfl⟩⟩
  · go_enter Try.func61, Try.ntmps61
    go_wp2
    go_quiet (fail)
    go_wp2
    go_ret
    exact ⟨false, p, rfl, HH.out, kp_drewN w _, .inr ⟨rfl, rfl⟩⟩
def OccAns (R : Nat) (s : ByteArray) (p : Nat) (bd : Bool) (ad : Option Addr) (m c : Nat) (w : World) (e : Ending) (w' : World) : Prop :=
  ∃ (x : Int) (p' : Nat), e = .returned (.int .i64 x) ∧ L8 w' R s p' bd ad m c ∧ Kp (fun k => k = R) w w' ∧ p ≤ p' ∧ p' ≤ s.size
theorem occ_of {R : Nat} {s : ByteArray} {p p' : Nat} {bd : Bool} {ad : Option Addr} {m c : Nat} {w w' : World} (x : Int) (h : L8 w' R s p' bd ad m c) (k : Kp (fun k => k = R) w w') (h1 : p ≤ p') (h2 : p' ≤ s.size) : OccAns R s p bd ad m c w (.returned (.int .i64 x)) w' := ⟨x, p', rfl, h, k, h1, h2⟩
set_option maxHeartbeats 2000000 in
theorem r_occur (R : Nat) (s : ByteArray) (p : Nat) (bd : Bool) (ad : Option Addr) (m c : Nat) (w : World) (h : L8 w R s p bd ad m c) (hp : p ≤ s.size) (hs : s.size ≤ 20000) :
    Calls Try.prog 63 #[.pointer (some ⟨R, 0, none⟩)] w (OccAns R s p bd ad m c w) := by
  have HH := hide h
  clear h
  go_enter Try.func63, Try.ntmps63
  go_wp2_with fail
  refine (r_is R s p bd ad m c 63 w HH.out hp hs).mono ?_
  rintro e w1 ⟨b1, p1, rfl, h1, k1, o1⟩
  have H1 := hide h1
  have K1 := hide k1
  have hp1 : p ≤ p1 ∧ p1 ≤ s.size := by omega
  clear h1 k1 o1
  cases b1
  case true =>
    go_wp2
    go_ret
    exact occ_of _ H1.out K1.out hp1.1 hp1.2
  case false =>
    go_wp2_with fail
    refine (r_is R s p1 bd ad m c 42 w1 H1.out hp1.2 hs).mono ?_
    rintro e w2 ⟨b2, p2, rfl, h2, k2, o2⟩
    have H2 := hide h2
    have K2 := hide (K1.out.trans k2 (fun j _ hj => hj))
    have hp2 : p ≤ p2 ∧ p2 ≤ s.size := by omega
    clear h2 k2 o2
    cases b2
    case true =>
      go_wp2
      go_ret
      exact occ_of _ H2.out K2.out hp2.1 hp2.2
    case false =>
      go_wp2_with fail
      refine (r_is R s p2 bd ad m c 43 w2 H2.out hp2.2 hs).mono ?_
      rintro e w3 ⟨b3, p3, rfl, h3, k3, o3⟩
      have H3 := hide h3
      have K3 := hide (K2.out.trans k3 (fun j _ hj => hj))
      have hp3 : p ≤ p3 ∧ p3 ≤ s.size := by omega
      clear h3 k3 o3
      cases b3
      all_goals
        go_wp2
        go_ret
        exact occ_of _ H3.out K3.out hp3.1 hp3.2
end Go.Proofs.Ytfohfljdgmlibaa
