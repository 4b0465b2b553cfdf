/-
  Contracts: a fork more, one place or another, what may be left out.
-/
import Derived.Test.YtbijilnbbbicmaaDoorMaA
namespace Go.Proofs.YtbijilnbbbicmaaDoor
open Go.RowKit Go.Joins
set_option linter.unusedVariables false
set_option linter.unusedSimpArgs false
set_option maxRecDepth 100000 in
set_option maxHeartbeats 4000000 in
theorem i_addFork (B R : Nat) (v0 v2 v3 : Value) (M : List Sp) (m : Nat) (w : World) (hM : M.length = m) (hX : m ≤ 400000) (h : MA B w R v0 v2 v3 M) :
    Calls Tryd.prog 27 #[.pointer (some ⟨R, 0, none⟩)] w fun e w' => e = .returned (.int .i64 m) ∧ MA B w' R v0 v2 v3 (M ++ [⟨true, 0, m, m⟩]) ∧ Bf B R w w' := by
  have C := hide (i_addM B R v0 v2 v3 M ⟨true, 0, m, m⟩ m w hM hX h)
  obtain ⟨sa, sc, d0, d1, d2, d3, -⟩ := ma_at h
  rw [hM] at d1
  clear h hM
  go_enter Tryd.func27, Tryd.ntmps27
  go_wp2_with (go_at_call 39; refine C.out.mono ?_; rintro e w2 ⟨rfl, h2, hb2⟩; have H2 := hide h2; have HB2 := hide hb2; clear h2 hb2)
  go_ret
  exact ⟨rfl, H2.out, HB2.out⟩
/-- What either leaves. -/
def EiP (M2 : List Sp) (p q r : Nat) (M3 : List Sp) : Prop := (p = q ∧ r = p ∧ M3 = M2) ∨ (p ≠ q ∧ (∃ cs nx, M2[p]? = some ⟨true, cs, nx, q⟩) ∧ r = p ∧ M3 = M2) ∨ (p ≠ q ∧ r = M2.length ∧ M3 = M2 ++ [⟨true, 0, p, q⟩])
def EiA (B R : Nat) (v0 v2 v3 : Value) (M : List Sp) (p q : Nat) (w : World) (e : Ending) (w' : World) : Prop := ∃ r M3, e = .returned (.int .i64 (r : Nat)) ∧ EiP M p q r M3 ∧ MA B w' R v0 v2 v3 M3 ∧ Bf B R w w'
set_option maxRecDepth 100000 in
set_option maxHeartbeats 8000000 in
theorem i_either (B R : Nat) (v0 v2 v3 : Value) (M : List Sp) (p q m : Nat) (w : World) (hM : M.length = m) (hX : m ≤ 400000) (hp : p < m) (hq : q < m) (h : MA B w R v0 v2 v3 M) :
    Calls Tryd.prog 40 #[.pointer (some ⟨R, 0, none⟩), .int .i64 p, .int .i64 q] w (EiA B R v0 v2 v3 M p q w) := by
  obtain ⟨s, hs⟩ : ∃ s, M[p]? = some s := ⟨_, List.getElem?_eq_getElem (by omega)⟩
  have HS := hide hs
  have hB := ma_lt h
  have HB0 := hide hB.1
  have bA : ∀ o, Hid (Bf B R w (w.alloc o)) := fun o => hide (bf_alloc hB.1 _)
  have mA : ∀ o, Hid (MA B (w.alloc o) R v0 v2 v3 M) := fun o => hide (ma_go h ((Below.refl w.heap.size w).alloc (Nat.le_refl _) o))
  have CA := hide (fun w h => i_addM B R v0 v2 v3 M ⟨true, 0, p, q⟩ m w hM hX h)
  obtain ⟨sa, sc, d0, d1, d2, d3, hat⟩ := ma_at h
  obtain ⟨g, rfl, hg, s0, s1, s2, s3⟩ := hat p s hs
  obtain ⟨fk, cs, nx, ot⟩ := s
  simp only at s0 s1 s2 s3
  have HM := hide hM
  rw [hM] at d1
  have hi : (p : Int) < (m : Int) := by omega
  have hi0 : (0 : Int) ≤ (p : Int) := by omega
  clear h hM hs hat hB
  by_cases e : p = q
  · subst e
    go_enter Tryd.func40, Tryd.ntmps40
    go_wp2
    go_ret
    exact ⟨p, M, rfl, .inl ⟨rfl, rfl, rfl⟩, (mA _).out, (bA _).out⟩
  · have e1 : ((p : Int) == (q : Int)) = false := by rw [beq_eq_false_iff_ne]; omega
    by_cases e2 : fk = true ∧ ot = q
    · obtain ⟨rfl, rfl⟩ := e2
      go_enter Tryd.func40, Tryd.ntmps40
      go_wp2
      go_ret
      exact ⟨p, M, rfl, .inr (.inl ⟨e, ⟨cs, nx, HS.out⟩, rfl, rfl⟩), (mA _).out, (bA _).out⟩
    · cases fk
      · go_enter Tryd.func40, Tryd.ntmps40
        go_wp2_with (go_at_call 39; refine (CA.out _ (mA _).out).mono ?_; rintro e w2 ⟨rfl, h2, hb2⟩; have H2 := hide h2; have HB2 := hide (bf_trans (bA _).out hb2); clear h2 hb2)
        go_ret
        exact ⟨m, _, rfl, .inr (.inr ⟨e, HM.out.symm, rfl⟩), H2.out, HB2.out⟩
      · have e3 : ((ot : Int) == (q : Int)) = false := by
          rw [beq_eq_false_iff_ne]
          intro x
          exact e2 ⟨rfl, by omega⟩
        clear e2
        go_enter Tryd.func40, Tryd.ntmps40
        go_wp2_with (go_at_call 39; refine (CA.out _ (mA _).out).mono ?_; rintro e w2 ⟨rfl, h2, hb2⟩; have H2 := hide h2; have HB2 := hide (bf_trans (bA _).out hb2); clear h2 hb2)
        go_ret
        exact ⟨m, _, rfl, .inr (.inr ⟨e, HM.out.symm, rfl⟩), H2.out, HB2.out⟩
def lfB (kd mn mx : Int) : Bool := decide (kd = 5) && decide (mn = 0) && (decide (mx = 1) || decide (mx = -1))
set_option maxRecDepth 100000 in
set_option maxHeartbeats 4000000 in
theorem i_left (kd : Int) (nt : Bool) (a : Option Addr) (n c : Nat) (A B mn mx : Int) (w : World) :
    Calls Tryd.prog 49 #[.agg #[.int .i64 kd, .bool nt, .slice a n c, .int .i64 A, .int .i64 B, .int .i64 mn, .int .i64 mx]] w fun e w' => e = .returned (.bool (lfB kd mn mx)) ∧ Below w.heap.size w w' := by
  have st : ∀ o, Hid (Below w.heap.size w (w.alloc o)) := fun o => hide ((Below.refl _ _).alloc (Nat.le_refl _) _)
  by_cases h5 : kd = 5
  · subst h5
    by_cases h0 : mn = 0
    · subst h0
      by_cases h1 : mx = 1
      · subst h1
        go_enter Tryd.func49, Tryd.ntmps49
        go_wp2
        go_ret
        exact ⟨rfl, (st _).out⟩
      · have e1 : (mx == 1) = false := by rw [beq_eq_false_iff_ne]; exact h1
        by_cases h2 : mx = -1
        · subst h2
          go_enter Tryd.func49, Tryd.ntmps49
          go_wp2
          go_ret
          exact ⟨rfl, (st _).out⟩
        · have e2 : (mx == -1) = false := by rw [beq_eq_false_iff_ne]; exact h2
          have HV : Hid (lfB 5 0 mx = false) := hide (by simp [lfB, h1, h2])
          clear h1 h2
          go_enter Tryd.func49, Tryd.ntmps49
          go_wp2
          go_ret
          exact ⟨ret_bool HV.out.symm, (st _).out⟩
    · have e0 : (mn == 0) = false := by rw [beq_eq_false_iff_ne]; exact h0
      have HV : Hid (lfB 5 mn mx = false) := hide (by simp [lfB, h0])
      clear h0
      go_enter Tryd.func49, Tryd.ntmps49
      go_wp2
      go_ret
      exact ⟨ret_bool HV.out.symm, (st _).out⟩
  · have e0 : (kd == 5) = false := by rw [beq_eq_false_iff_ne]; exact h5
    have HV : Hid (lfB kd mn mx = false) := hide (by simp [lfB, h5])
    clear h5
    go_enter Tryd.func49, Tryd.ntmps49
    go_wp2
    go_ret
    exact ⟨ret_bool HV.out.symm, (st _).out⟩
end Go.Proofs.YtbijilnbbbicmaaDoor
