/-
  Contracts: what is repeated as often as one likes.
-/
import Derived.Test.YtepommmmmfaihaaDoorC19
namespace Go.Proofs.YtepommmmmfaihaaDoor
open Go.RowKit Go.Joins
set_option linter.unusedVariables false
set_option linter.unusedSimpArgs false
def EnA (X : Rx) (B R : Nat) (v0 v2 v3 : Value) (M : List Sp) (n next : Nat) (w : World) (e : Ending) (w' : World) : Prop := ∃ p M', e = .returned (.int .i64 (p : Nat)) ∧ Ent X M (fun c => tkX X c n) next p M' ∧ M'.length ≤ M.length + tsX X n ∧ MA B w' R v0 v2 v3 M' ∧ Bf B R w w'
/-- Entering a node. -/
def EnC (X : Rx) (len b off cap B n : Nat) : Prop := ∀ (R : Nat) (v2 v3 : Value) (M : List Sp) (next : Nat) (w : World), RxRow w b off X B → b < B → MA B w R (.slice (some ⟨b, off, none⟩) len cap) v2 v3 M → M ≠ [] → next < M.length → M.length + tsX X n ≤ 300000 →
  Calls Tryd.prog 39 #[.pointer (some ⟨R, 0, none⟩), .int .i64 n, .int .i64 next] w (EnA X B R (.slice (some ⟨b, off, none⟩) len cap) v2 v3 M n next w)
def LoA (X : Rx) (B R : Nat) (v0 v2 v3 : Value) (M : List Sp) (n next : Nat) (w : World) (e : Ending) (w' : World) : Prop := ∃ M', e = .returned (.int .i64 (M.length : Nat)) ∧ Ent X M (fun c => stR (tkX X c n)) next M.length M' ∧ M'.length ≤ M.length + tsX X n + 1 ∧ MA B w' R v0 v2 v3 M' ∧ Bf B R w w'
/-- What stands below a node that is repeated. -/
def LfR (X : Rx) (n0 n : Nat) : Prop := n ≤ n0 ∧ (∃ f, trX X n = some f) ∧ tsX X n ≤ tsX X n0 ∧ ∀ c i j, stR (tkX X c n) i j ↔ stR (tkX X c n0) i j
theorem lf_refl {X : Rx} {n f : Nat} (h : trX X n = some f) : LfR X n n := ⟨Nat.le_refl _, ⟨f, h⟩, Nat.le_refl _, fun _ _ _ => Iff.rfl⟩
theorem lf_true {kd mn mx : Int} (h : lfB kd mn mx = true) : kd = 5 ∧ mn = 0 ∧ (mx = 1 ∨ mx = -1) := by
  unfold lfB at h
  simp only [Bool.and_eq_true, Bool.or_eq_true, decide_eq_true_iff] at h
  exact ⟨h.1.1, h.1.2, h.2⟩
theorem lf_next {X : Rx} {n0 n : Nat} (h : LfR X n0 n) (hl : lfB (X.K n) (X.MN n) (X.MX n) = true) : X.A n = ((n - 1 : Nat) : Int) ∧ n - 1 < n ∧ LfR X n0 (n - 1) := by
  obtain ⟨h1, ⟨f, h2⟩, h3, h4⟩ := h
  obtain ⟨k5, hmn, hmx⟩ := lf_true hl
  obtain ⟨hA, ha, t1⟩ := tr_part1 h2 k5
  refine ⟨hA, ha, by omega, ⟨f, t1⟩, ?_, fun c i j => ?_⟩
  · rw [ts_cnt k5 hA ha] at h3
    refine Nat.le_trans ?_ h3
    have hm := muX_ge X n
    have : 1 * (tsX X (n - 1) + 1) ≤ (muX X n).toNat * (tsX X (n - 1) + 1) := Nat.mul_le_mul (by omega) (Nat.le_refl _)
    omega
  · rw [← h4, tk_cnt k5 hA ha, hmn]
    exact (st_left hmx i j).symm
theorem ma_set {B R g sc k : Nat} {v0 v2 v3 : Value} {M : List Sp} {w : World} (h : MA B w R v0 v2 v3 M) (hc : w.cell? ⟨R, 1, none⟩ = some (.slice (some ⟨g, 0, none⟩) M.length sc)) (s : Sp) (hk : k < M.length) :
    MA B ((((w.setCell ⟨g, k * 4, none⟩ (.bool s.fk)).setCell ⟨g, k * 4 + 1, none⟩ (.int .i64 s.cs)).setCell ⟨g, k * 4 + 2, none⟩ (.int .i64 s.nx)).setCell ⟨g, k * 4 + 3, none⟩ (.int .i64 s.ot)) R v0 v2 v3 (M.set k s) ∧
    Bf B R w ((((w.setCell ⟨g, k * 4, none⟩ (.bool s.fk)).setCell ⟨g, k * 4 + 1, none⟩ (.int .i64 s.cs)).setCell ⟨g, k * 4 + 2, none⟩ (.int .i64 s.nx)).setCell ⟨g, k * 4 + 3, none⟩ (.int .i64 s.ot)) := by
  have hlt := ma_lt h
  obtain ⟨h0, sa, sc', h1, h2⟩ := h
  rw [(mx_cells h1).2.1] at hc
  simp only [Option.some.injEq, Value.slice.injEq] at hc
  obtain ⟨rfl, -, rfl⟩ := hc
  have hne : g ≠ R := type_ne h2 rfl h1 (by decide)
  have hgB := (h2.lt g rfl).1
  have ks : ∀ (u : World) (i : Nat) (v : Value), Kp (fun j => j = g) u (u.setCell ⟨g, i, none⟩ v) := fun u i v => kp_set (S := fun j => j = g) _ _ _ rfl
  have kk := (((ks w (k * 4) (.bool s.fk)).trans (ks _ (k * 4 + 1) (.int .i64 s.cs)) (fun _ _ e => e)).trans (ks _ (k * 4 + 2) (.int .i64 s.nx)) (fun _ _ e => e)).trans (ks _ (k * 4 + 3) (.int .i64 s.ot)) (fun _ _ e => e)
  have o1 := (h2.stored (k * 4) (.bool s.fk)).1
  have o2 := (o1.stored (k * 4 + 1) (.int .i64 s.cs)).1
  have o3 := (o2.stored (k * 4 + 2) (.int .i64 s.nx)).1
  have o4 := (o3.stored (k * 4 + 3) (.int .i64 s.ot)).1
  refine ⟨⟨h0, some ⟨g, 0, none⟩, sc', ?_, ?_⟩, kp_below kk hlt.1 (fun j hj => by have hj' : j = g := hj; omega), ⟨kk.os, kk.tape, kk.output, kk.size, fun j hj hs => kk.block j hj (fun e => hs (.inr (by have e' : j = g := e; subst e'; exact own_type h2 rfl)))⟩⟩
  · rw [List.length_set]
    exact (kk.block R hlt.2 (fun e => hne e.symm)).trans h1
  · rw [List.length_set, spV_set M k s hk]
    exact o4
theorem lo_cells {X : Rx} {B R m p : Nat} {v0 v2 v3 : Value} {M M' : List Sp} {w : World} {Q : (Nat → Nat → Bool) → Nat → Nat → Prop} (hM : M.length = m) (he : Ent X (M ++ [⟨true, 0, m, m⟩]) Q m p M') (h : MA B w R v0 v2 v3 M') : ∃ sc g : Nat, w.cell? ⟨R, 1, none⟩ = some (.slice (some ⟨g, 0, none⟩) M'.length sc) ∧ (m : Int) < (M'.length : Int) ∧ g < w.heap.size ∧ w.frozen? ⟨g, m * 4, none⟩ = false ∧ w.frozen? ⟨g, m * 4 + 1, none⟩ = false ∧ w.frozen? ⟨g, m * 4 + 2, none⟩ = false ∧ w.frozen? ⟨g, m * 4 + 3, none⟩ = false ∧ w.cell? ⟨g, m * 4, none⟩ = some (.bool true) ∧ w.cell? ⟨g, m * 4 + 1, none⟩ = some (.int .i64 0) ∧ w.cell? ⟨g, m * 4 + 2, none⟩ = some (.int .i64 m) ∧ w.cell? ⟨g, m * 4 + 3, none⟩ = some (.int .i64 m) := by
  obtain ⟨⟨E, rfl⟩, -, -⟩ := he
  have hat := ma_at h
  obtain ⟨h0, sa, sc, h1, h2⟩ := h
  have hl : m < (M ++ [⟨true, 0, m, m⟩] ++ E : List Sp).length := by simp; omega
  rcases h2.2 with ⟨-, hz⟩ | ⟨g, cap, cur, hv, hg⟩
  · omega
  · have hv' := hv
    simp only [Value.slice.injEq] at hv'
    obtain ⟨rfl, -, -⟩ := hv'
    refine ⟨sc, g, (mx_cells h1).2.1, by omega, (h2.lt g rfl).2, h2.frozenAt _, h2.frozenAt _, h2.frozenAt _, h2.frozenAt _, ?_⟩
    obtain ⟨sa', sc', -, e1, -, -, ha⟩ := hat
    rw [(mx_cells h1).2.1] at e1
    obtain ⟨g', rfl, -, a0, a1, a2, a3⟩ := ha m ⟨true, 0, m, m⟩ (by rw [List.getElem?_append_left (by simp; omega), ← hM]; simp)
    simp only [Option.some.injEq, Value.slice.injEq, Addr.mk.injEq] at e1
    obtain ⟨⟨rfl, -⟩, -⟩ := e1
    exact ⟨a0, a1, a2, a3⟩
set_option maxRecDepth 100000 in
set_option maxHeartbeats 8000000 in
theorem i_loop (X : Rx) (len : Nat) (hX : X.len = len) (hlen : len ≤ 120) (b off cap B n0 f0 : Nat) (hn0 : n0 < len) (hf : trX X n0 = some f0) (CE : ∀ n f, n ≤ n0 → trX X n = some f → EnC X len b off cap B n)
    (R : Nat) (v2 v3 : Value) (M : List Sp) (m next : Nat) (w : World) (hr : RxRow w b off X B) (hb : b < B) (h : MA B w R (.slice (some ⟨b, off, none⟩) len cap) v2 v3 M) (hM : M.length = m) (h0 : M ≠ []) (hx : next < m) (hz : m + tsX X n0 + 1 ≤ 300000) :
    Calls Tryd.prog 62 #[.pointer (some ⟨R, 0, none⟩), .int .i64 n0, .int .i64 next] w (LoA X B R (.slice (some ⟨b, off, none⟩) len cap) v2 v3 M n0 next w) := by
  have HC := hide CE
  have HR := hide hr
  have HM := hide h
  have HL0 := hide (lf_refl hf)
  have hB := (ma_lt h).1
  have HMM := hide hM
  have HXL := hide hX
  have HN := hide h0
  clear CE hr h hf hM hX h0
  go_enter Tryd.func62, Tryd.ntmps62
  go_wp2
  go_loopw [1] (fun v wr => ∃ n : Nat, v = .int .i64 n ∧ Hid (LfR X n0 n) ∧ Hid (Below w.heap.size w wr)) (fun v _ => (intOf v).toNat)
  case atStart => exact ⟨n0, rfl, HL0, hide (Below.refl _ _)⟩
  case round =>
    obtain ⟨n, rfl, HL, HB⟩ := hrel
    have hn : n ≤ n0 := HL.out.1
    obtain ⟨ad, cp, hc, -⟩ := (rxRow_go HR.out hb (HB.out.mono hB)) n (by rw [HXL.out]; omega)
    obtain ⟨c0, c1, c2, c3, c4, c5, c6⟩ := hc
    have HMr := hide (ma_go HM.out HB.out)
    obtain ⟨sa, sc, d0, d1, d2, d3, -⟩ := ma_at HMr.out
    have hi : (n : Int) < (len : Int) := by omega
    have hi0 : (0 : Int) ≤ (n : Int) := by omega
    have CL := hide (i_left (X.K n) (X.NT n) ad (X.NR n) cp (X.A n) (X.B n) (X.MN n) (X.MX n) wr)
    cases hlf : lfB (X.K n) (X.MN n) (X.MX n)
    · rw [hlf] at CL
      clear hlf
      go_wp2_with (go_at_call 64; refine CL.out.mono ?_; rintro e w2 ⟨rfl, hb2⟩; have HB2 := hide (HB.out.trans (hb2.mono HB.out.size)); have HM2 := hide (ma_go HMr.out hb2); clear hb2)
      refine (i_addFork B R _ v2 v3 M m w2 HMM.out (by omega) HM2.out).mono ?_
      rintro e w3 ⟨rfl, hm3, hb3⟩
      have HM3 := hide hm3
      have HB3 := hide (bf_trans (bf_go (R := R) hB HB2.out) hb3)
      clear hm3 hb3
      have hl3 : (M ++ [(⟨true, 0, m, m⟩ : Sp)]).length = m + 1 := by rw [List.length_append, HMM.out]; rfl
      have CE2 := hide (HC.out n _ hn (Classical.choose_spec HL.out.2.1) R v2 v3 (M ++ [⟨true, 0, m, m⟩]) m w3 (rxRow_go HR.out hb HB3.out.1) hb HM3.out (by simp) (by omega) (by have := HL.out.2.2.1; omega))
      clear hl3
      go_wp2_with (go_at_call 39; refine CE2.out.mono ?_; rintro e w4 ⟨p, M4, rfl, he4, hl4, hm4, hb4⟩; have HE4 := hide he4; have HL4 := hide hl4; have HM4 := hide hm4; have HB4 := hide (bf_trans HB3.out hb4); obtain ⟨k1, k2, k3, k4, k5, k6, k7, k8, k9, a0, a1, a2, a3⟩ := lo_cells HMM.out he4 hm4; clear he4 hl4 hm4 hb4)
      go_ret
      have hm4 : m < M4.length := by omega
      obtain ⟨hm9, hb9⟩ := ma_set HM4.out k3 ⟨true, 0, p, next⟩ hm4
      have hE := ent_loop HN.out (by rw [HMM.out]; exact hx) (by rw [HMM.out]; exact HE4.out)
      rw [HMM.out] at hE
      refine ⟨M4.set m ⟨true, 0, p, next⟩, by rw [HMM.out]; rfl, ?_, ?_, hm9, bf_trans HB4.out hb9⟩
      · rw [HMM.out]
        exact ent_congr hE (fun c i j => HL.out.2.2.2 c i j)
      · rw [List.length_set, HMM.out]
        have h9 := HL4.out
        rw [List.length_append, HMM.out] at h9
        have := HL.out.2.2.1
        simp at h9
        omega
    · obtain ⟨hA, ha, hL⟩ := lf_next HL.out hlf
      rw [hlf] at CL
      rw [hA] at c3 CL
      have HL2 := hide hL
      clear hlf hL hA
      go_wp2_with (go_at_call 64; refine CL.out.mono ?_; rintro e w2 ⟨rfl, hb2⟩; have HB2 := hide (HB.out.trans (hb2.mono HB.out.size)); have HM2 := hide (ma_go HMr.out hb2); have e3 : w2.cell? ⟨b, off + n * 7 + 3, none⟩ = some (.int .i64 ((n - 1 : Nat) : Int)) := (hb2.cell (p := ⟨b, off + n * 7 + 3, none⟩) (Nat.lt_of_lt_of_le hb (Nat.le_trans hB HB.out.size))).trans c3; obtain ⟨sa, sc, q0, q1, q2, q3, -⟩ := ma_at HM2.out; clear hb2)
      go_roundw
      case rel => exact ⟨n - 1, rfl, HL2, HB2⟩
      case measure => simp [intOf]; omega
end Go.Proofs.YtepommmmmfaihaaDoor
