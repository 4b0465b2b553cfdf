/-
  The draw of FnBreached; contracts of the laws' helpers: like rows of places, of texts; is a place among them?
-/
import Derived.Test.YtdepgkpfibmbgaaGreatDoorF21
import Derived.Test.YtdepgkpfibmbgaaGreatDoorF42
import Derived.Test.YtdepgkpfibmbgaaGreatDoorF15
import Derived.BigQuiet
namespace Go.Proofs.YtdepgkpfibmbgaaGreatDoor
open Go.RowKit Go.Joins
set_option linter.unusedVariables false
set_option linter.unusedSimpArgs false
def DbAns (w : World) (e : Ending) (w' : World) : Prop := ∃ ad m c D ka km kc, ∃ K : List Ky, e = .returned (.tuple #[.slice ad m c, .slice ka km kc]) ∧ D.n = m ∧ (1 ≤ m ∧ m ≤ 15) ∧ dcTot D ≤ 1048576 ∧ DcAt w' ad D w'.heap.size ∧ K.length = km ∧ km ≤ 4 ∧ KyFew K ∧ KyAt w' ka K w'.heap.size ∧ Below w.heap.size w w'
set_option maxRecDepth 100000 in
set_option maxHeartbeats 4000000 in
theorem d_brs (a : Option Addr) (n cap : Nat) (zs : List Int) (w : World) (hl : zs.length = n) (hz : ∀ x ∈ zs, 0 ≤ x ∧ x ≤ 255) (hn : n ≤ 1048576) (hs : SrcAt w a zs w.heap.size) :
    Calls Tryz.prog 12 #[.slice a n cap] w (DbAns w) := by
  have HS := hide hs
  have HL := hide hl
  have HZ := hide hz
  clear hs hl hz
  go_enter Tryz.func12, Tryz.ntmps12
  go_wp2_with fail
  refine (d_open a n cap zs w HL.out HZ.out hn HS.out).mono ?_
  rintro e w1 ⟨rfl, hrd, hb1⟩
  have HRD := hide hrd
  have HB1 := hide hb1
  clear hrd hb1
  go_wp2_with fail
  refine (d_flat w.heap.size a n cap zs _ HRD.out).mono ?_
  rintro e w2 ⟨ad, m, c, D, rfl, hg, hm1, hm2⟩
  have HGS := hide hg
  clear hg
  go_wp2_with fail
  refine (d_keys w.heap.size a n cap zs _ HGS.out.1).mono ?_
  rintro e w3 ⟨ka, km, kc, Q, rfl, hk4, hko, hkq, hd⟩
  have HKO := hide hko
  have HKQ := hide hkq
  have HG3 := hide (gs_drew HGS.out hd)
  clear hko hkq hd
  go_wp2
  go_ret2
  exact ⟨ad, m, c, D, ka, km, kc, Q.map Kq.k, rfl, (drIt_dc HG3.out.2.1).1, ⟨hm1, hm2⟩, drIt_tot HG3.out.2.1 (by omega), (drIt_dc HG3.out.2.1).2, by rw [List.length_map]; exact HKO.out.1, hk4, kq_few HKQ.out (by rw [HKO.out.1]; omega), kyAt_kq HKO.out, HB1.out.trans HG3.out.2.2.1⟩
set_option maxHeartbeats 1000000 in
theorem l_sameInts (a1 a2 : Option Addr) (n m c1 c2 : Nat) (xs ys : List Int) (w : World) (hx : xs.length = n) (hy : ys.length = m) (hn : n ≤ 1048576) (hm : m ≤ 1048576) (h1 : RowAt .i64 w a1 xs w.heap.size) (h2 : RowAt .i64 w a2 ys w.heap.size) :
    Calls Tryz.prog 14 #[.slice a1 n c1, .slice a2 m c2] w fun e w' => e = .returned (.bool (decide (xs = ys))) ∧ ∃ q, w' = w.drewN q := by
  have HX : Hid (xs.length = n) := hx
  have HY : Hid (ys.length = m) := hy
  have H1 : Hid (RowAt .i64 w a1 xs w.heap.size) := h1
  have H2 : Hid (RowAt .i64 w a2 ys w.heap.size) := h2
  clear hx hy h1 h2
  by_cases hnm : n = m
  · subst hnm
    go_enter Tryz.func14, Tryz.ntmps14
    go_wp2
    go_loopw [5] (fun i wr => ∃ k : Nat, k ≤ n ∧ i = .int .i64 k ∧ (∃ q, wr = w.drewN q) ∧ ∀ j, j < k → xs[j]?.getD 0 = ys[j]?.getD 0) (fun i _ => n - (intOf i).toNat)
    case atStart => exact ⟨0, Nat.zero_le _, rfl, ⟨0, rfl⟩, fun j h => by omega⟩
    case round =>
      obtain ⟨k, hk, rfl, ⟨q, rfl⟩, hsame⟩ := hrel
      have HS := hide hsame
      clear hsame
      by_cases hlt : k < n
      · obtain ⟨b, off, rfl, hbs, hc⟩ := rowAt_cell H1.out k (by rw [HX.out]; exact hlt)
        obtain ⟨b', off', rfl, hbs', hc'⟩ := rowAt_cell H2.out k (by rw [HY.out]; exact hlt)
        have hc1 := hc k (by rw [HX.out]; exact hlt)
        have hc2 := hc' k (by rw [HY.out]; exact hlt)
        have hi : (k : Int) < (n : Int) := by omega
        have hi0 : (0 : Int) ≤ (k : Int) := by omega
        clear hc hc'
        cases hb : (xs[k]?.getD 0 != ys[k]?.getD 0)
        · go_wp2
          go_quiet (fail)
          go_wp2
          go_roundw
          case rel =>
            refine ⟨k + 1, by omega, by go_num, ⟨q + nq, by simp⟩, fun j hj => ?_⟩
            by_cases e : j = k
            · subst e; simpa using hb
            · exact HS.out j (by omega)
          case measure => simp [intOf]; omega
        · go_wp2
          go_quiet (fail)
          go_wp2
          go_ret
          exact ⟨ret_bool (eqB_f _ _ (fun e => by rw [e] at hb; simp at hb)), q + nq, by simp⟩
      · go_wp2
        go_ret
        exact ⟨ret_bool (eqB_t _ _ (get_ext xs ys (by rw [HX.out, HY.out]) (fun j hj => HS.out j (by have := HX.out; omega)))), _, rfl⟩
  · have hne : ((n : Int) != (m : Int)) = true := by simp; omega
    go_enter Tryz.func14, Tryz.ntmps14
    go_wp2
    go_ret
    exact ⟨ret_bool (eqB_f _ _ (fun e => by have := HX.out; have := HY.out; subst e; omega)), 0, rfl⟩

set_option linter.unusedSimpArgs false
set_option maxHeartbeats 2000000 in
theorem l_has (ad : Option Addr) (n c : Nat) (L : List Int) (z : Int) (w : World) (hn : L.length = n) (hx : n ≤ 163840000000) (hr : RowAt .i64 w ad L w.heap.size) :
    Calls Tryz.prog 18 #[.slice ad n c, .int .i64 z] w fun r w' => r = .returned (.bool (decide (z ∈ L))) ∧ w' = w := by
  have HN := hide hn
  have HR := hide hr
  clear hr hn
  go_enter Tryz.func18, Tryz.ntmps18
  go_wp2
  go_loopw [5] (fun mv wr => ∃ (m : Nat), m ≤ n ∧ mv = .int .i64 m ∧ Hid (wr = w) ∧ Hid (∀ j, j < m → L[j]?.getD 0 ≠ z)) (fun mv _ => n - (intOf mv).toNat)
  case atStart => exact ⟨0, Nat.zero_le _, rfl, hide rfl, hide (fun j hj => by omega)⟩
  case round =>
    obtain ⟨m, hm, rfl, HW, HA⟩ := hrel
    by_cases hlt : m < n
    · obtain ⟨b, off, rfl, hb, hc⟩ := rowAt_cell HR.out m (by rw [HN.out]; exact hlt)
      have k0 : wr.cell? ⟨b, off + m, none⟩ = some (.int .i64 (L[m]?.getD 0)) := by rw [HW.out]; exact hc m (by rw [HN.out]; exact hlt)
      have hmL : m < L.length := by rw [HN.out]; exact hlt
      have HMM : Hid (L[m]?.getD 0 ∈ L) := hide (by rw [List.getElem?_eq_getElem hmL]; exact List.getElem_mem hmL)
      obtain ⟨v, hv⟩ : ∃ v, L[m]?.getD 0 = v := ⟨_, rfl⟩
      have HV := hide hv
      rw [hv] at k0 HMM
      have hmi : (m : Int) < (n : Int) := by omega
      have hm0 : (0 : Int) ≤ (m : Int) := by omega
      clear hc hv hmL
      by_cases he : v = z
      · have HD : Hid (decide (z ∈ L) = true) := hide (decide_eq_true (he ▸ HMM.out))
        subst he
        go_wp2
        go_ret
        exact ⟨ret_bool HD.out.symm, HW.out⟩
      · have heq : (v == z) = false := by rw [beq_eq_false_iff_ne]; exact he
        have HA2 : Hid (∀ j, j < m + 1 → L[j]?.getD 0 ≠ z) := hide (fun j hj => by
          by_cases e : j = m
          · subst e; rw [HV.out]; exact he
          · exact HA.out j (by omega))
        clear he
        go_wp2
        go_roundw
        case rel => exact ⟨m + 1, by omega, by go_num, HW, HA2⟩
        case measure => simp [intOf]; omega
    · have HD : Hid (decide (z ∈ L) = false) := hide (decide_eq_false (fun h => by
        obtain ⟨j, hj, e⟩ := List.mem_iff_getElem.1 h
        exact HA.out j (by rw [HN.out] at hj; omega) (by rw [List.getElem?_eq_getElem hj]; exact e)))
      go_wp2
      go_ret
      exact ⟨ret_bool HD.out.symm, HW.out⟩

set_option maxHeartbeats 4000000 in
theorem l_sameTb (a1 a2 : Option Addr) (n c1 c2 : Nat) (L M : List ByteArray) (w : World) (hL : L.length = n) (hM : M.length = n) (hn : n ≤ 1048576) (h1 : TxAt w a1 L w.heap.size) (h2 : TxAt w a2 M w.heap.size) :
    Calls Tryz.prog 11 #[.slice a1 n c1, .slice a2 n c2] w fun e w' => (∃ V : Bool, e = .returned (.bool V) ∧ (V = true ↔ L = M)) ∧ Below w.heap.size w w' := by
  have HL := hide hL
  have HM := hide hM
  have H1 := hide h1
  have H2 := hide h2
  clear hL hM h1 h2
  go_enter Tryz.func11, Tryz.ntmps11
  go_wp2
  go_loopw [5] (fun i wr => ∃ k : Nat, k ≤ n ∧ i = .int .i64 k ∧ Hid (∀ q, q < k → L[q]?.getD ⟨#[]⟩ = M[q]?.getD ⟨#[]⟩) ∧ Below w.heap.size w wr) (fun i _ => n - (intOf i).toNat)
  case atStart => exact ⟨0, Nat.zero_le _, rfl, hide (fun q h => absurd h (Nat.not_lt_zero _)), Below.refl _ _⟩
  case round =>
    obtain ⟨k, hk, rfl, HA, hb⟩ := hrel
    by_cases hlt : k < n
    · have hlt2 : k < L.length := by rw [HL.out]; exact hlt
      have hlt3 : k < M.length := by rw [HM.out]; exact hlt
      obtain ⟨b, off, rfl, hbs, hc⟩ := H1.out (fun h => by rw [h] at hlt2; exact absurd hlt2 (Nat.not_lt_zero _))
      obtain ⟨b', off', rfl, hbs', hc'⟩ := H2.out (fun h => by rw [h] at hlt3; exact absurd hlt3 (Nat.not_lt_zero _))
      have k1 := (hb.cell (p := ⟨b, off + k, none⟩) hbs).trans (hc k hlt2)
      have k2 := (hb.cell (p := ⟨b', off' + k, none⟩) hbs').trans (hc' k hlt3)
      have hi : (k : Int) < (n : Int) := by omega
      have hi0 : (0 : Int) ≤ (k : Int) := by omega
      have HB := hide hb
      obtain ⟨X, hX⟩ : ∃ X, L[k]?.getD ⟨#[]⟩ = X := ⟨_, rfl⟩
      obtain ⟨Y, hY⟩ : ∃ Y, M[k]?.getD ⟨#[]⟩ = Y := ⟨_, rfl⟩
      have HXX := hide hX
      have HYY := hide hY
      rw [hX] at k1
      rw [hY] at k2
      clear hc hc' hb hX hY
      cases he : (X.toList == Y.toList)
      · have he2 : (X.toList != Y.toList) = true := by rw [bne, he]; rfl
        have HNO : Hid (¬ L = M) := hide (fun e => by
          have h9 := HXX.out
          rw [e, HYY.out] at h9
          exact ba_ne he h9.symm)
        go_wp2
        go_quiet (fail)
        go_wp2
        go_ret
        exact ⟨⟨false, rfl, ⟨fun h => (by cases h), fun h => absurd h HNO.out⟩⟩, ba_drewN HB.out _⟩
      · have he2 : (X.toList != Y.toList) = false := by rw [bne, he]; rfl
        have HA2 : Hid (∀ q, q < k + 1 → L[q]?.getD ⟨#[]⟩ = M[q]?.getD ⟨#[]⟩) := hide (fun q hq => by
          by_cases e : q = k
          · subst e; rw [HXX.out, HYY.out]; exact (ba_eq _ _).1 he
          · exact HA.out q (by omega))
        go_wp2
        go_quiet (fail)
        go_wp2
        go_roundw
        case rel => exact ⟨k + 1, by omega, by go_num, HA2, ba_drewN HB.out _⟩
        case measure => simp [intOf]; omega
    · have hkn : k = n := by omega
      subst hkn
      have HYES : Hid (L = M) := hide (by
        refine List.ext_getElem (by rw [HL.out, HM.out]) (fun i h1 h2 => ?_)
        have h9 := HA.out i (by rw [← HL.out]; exact h1)
        rw [List.getElem?_eq_getElem h1, List.getElem?_eq_getElem h2] at h9
        exact h9)
      go_wp2
      go_ret
      exact ⟨⟨true, rfl, ⟨fun _ => HYES.out, fun _ => rfl⟩⟩, hb⟩
end Go.Proofs.YtdepgkpfibmbgaaGreatDoor
