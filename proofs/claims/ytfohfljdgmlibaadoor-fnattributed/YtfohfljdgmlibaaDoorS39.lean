/-
  Texts put together: AbW, TabOf, TzTab.
-/
import Derived.Test.YtfohfljdgmlibaaDoorS20
import Derived.Test.YtfohfljdgmlibaaDoorS35
import Derived.Test.YtfohfljdgmlibaaDoorS38
import Derived.Test.YtfohfljdgmlibaaDoorS37
import Derived.WalkKit
import Derived.ProofKit
import Derived.Below
import Derived.Lib.SmallJoins
import Derived.Lib.LaidIn
import Derived.Lib.LaidU8T
import Derived.Test.YtfohfljdgmlibaaDoorS1
import Derived.Lib.LaidTab
/-
  The walk of FnAttributed: whatever the code is, in a clear model each name of the drawn row has its position, just where the row is taken; and no other one fits there.
-/
namespace Go.Proofs.YtfohfljdgmlibaaDoor
open Go.RowKit Go.Joins
set_option linter.unusedVariables false
set_option linter.unusedSimpArgs false
set_option maxHeartbeats 1000000 in
theorem l_sameInts (a1 a2 : Option Addr) (n m c1 c2 : Nat) (xs ys : List Int) (w : World) (hx : xs.length = n) (hy : ys.length = m) (hn : n ≤ 1048576) (hm : m ≤ 1048576) (h1 : RowAt .i64 w a1 xs w.heap.size) (h2 : RowAt .i64 w a2 ys w.heap.size) :
    Calls Tryd.prog 21 #[.slice a1 n c1, .slice a2 m c2] w fun e w' => e = .returned (.bool (decide (xs = ys))) ∧ ∃ q, w' = w.drewN q := by
  have HX : Hid (xs.length = n) := hx
  have HY : Hid (ys.length = m) := hy
  have H1 : Hid (RowAt .i64 w a1 xs w.heap.size) := h1
  have H2 : Hid (RowAt .i64 w a2 ys w.heap.size) := h2
  clear hx hy h1 h2
  by_cases hnm : n = m
  · subst hnm
    go_enter Tryd.func21, Tryd.ntmps21
    go_wp2
    go_loopw [5] (fun i wr => ∃ k : Nat, k ≤ n ∧ i = .int .i64 k ∧ (∃ q, wr = w.drewN q) ∧ ∀ j, j < k → xs[j]?.getD 0 = ys[j]?.getD 0) (fun i _ => n - (intOf i).toNat)
    case atStart => exact ⟨0, Nat.zero_le _, rfl, ⟨0, rfl⟩, fun j h => by omega⟩
    case round =>
      obtain ⟨k, hk, rfl, ⟨q, rfl⟩, hsame⟩ := hrel
      have HS := hide hsame
      clear hsame
      by_cases hlt : k < n
      · obtain ⟨b, off, rfl, hbs, hc⟩ := rowAt_cell H1.out k (by rw [HX.out]; exact hlt)
        obtain ⟨b', off', rfl, hbs', hc'⟩ := rowAt_cell H2.out k (by rw [HY.out]; exact hlt)
        have hc1 := hc k (by rw [HX.out]; exact hlt)
        have hc2 := hc' k (by rw [HY.out]; exact hlt)
        have hi : (k : Int) < (n : Int) := by omega
        have hi0 : (0 : Int) ≤ (k : Int) := by omega
        clear hc hc'
        cases hb : (xs[k]?.getD 0 != ys[k]?.getD 0)
        · go_wp2
          go_quiet (fail)
          go_wp2
          go_roundw
          case rel =>
            refine ⟨k + 1, by omega, by go_num, ⟨q + nq, by simp⟩, fun j hj => ?_⟩
            by_cases e : j = k
            · subst e; simpa using hb
            · exact HS.out j (by omega)
          case measure => simp [intOf]; omega
        · go_wp2
          go_quiet (fail)
          go_wp2
          go_ret
          exact ⟨ret_bool (eqB_f _ _ (fun e => by rw [e] at hb; simp at hb)), q + nq, by simp⟩
      · go_wp2
        go_ret
        exact ⟨ret_bool (eqB_t _ _ (get_ext xs ys (by rw [HX.out, HY.out]) (fun j hj => HS.out j (by have := HX.out; omega)))), _, rfl⟩
  · have hne : ((n : Int) != (m : Int)) = true := by simp; omega
    go_enter Tryd.func21, Tryd.ntmps21
    go_wp2
    go_ret
    exact ⟨ret_bool (eqB_f _ _ (fun e => by have := HX.out; have := HY.out; subst e; omega)), 0, rfl⟩

set_option maxRecDepth 100000 in
set_option maxHeartbeats 16000000 in
theorem attr_walk (a : Option Addr) (n cap : Nat) (zs : List Int) (w : World) (hl : zs.length = n) (hz : ∀ x ∈ zs, 0 ≤ x ∧ x ≤ 255) (hn : n ≤ 1048576) (hs : SrcAt w a zs w.heap.size) (hT : TzT w) :
    Calls Tryd.prog 4 #[.slice a n cap] w fun e w' => e = .returned (.bool true) ∧ Below w.heap.size w w' := by
  have HS := hide hs
  have HL := hide hl
  have HZ := hide hz
  have HT := hide hT
  have hn' : ¬ (1048576 : Int) < (n : Int) := by omega
  clear hs hl hz hT
  go_enter Tryd.func4, Tryd.ntmps4
  go_wp2_with (go_at_call 7; go_in)
  refine (d_attribute a n cap zs _ HL.out HZ.out hn HS.out).mono ?_
  rintro e w1 ⟨ad, m, c, D, sa, sc, W, rfl, hD, hW6, -, hTx, hb1⟩
  have HR1 : Hid (PoR w w1 ad m D sa W none []) := hide ⟨hD, hTx, fun h => absurd rfl h, hb1⟩
  have hm40 := hD.2.2.1
  have HDn := hide hD.1
  clear hD hTx hb1
  go_wp2_with fail
  refine (i_attr D m ad c W W.length sa sc _ HR1.out.dm.1 HR1.out.dm.2.1 HR1.out.dm.2.2.2 rfl (by omega) HR1.out.tx (tzT_go HT.out HR1.out.be (Nat.le_refl _))).mono ?_
  rintro e w2 ⟨la, lc, rfl, hlo, hb2⟩
  have HR2 : Hid (PoR w w2 ad m D sa W la ((arA D W).getD [])) := hide ⟨dm_go HR1.out.dm hb2, tx_up (tx_go HR1.out.tx hb2) hb2.size, own_rowAt9 hlo, HR1.out.be.trans (hb2.mono HR1.out.be.size)⟩
  clear hlo hb2 HR1
  go_wp2_with fail
  refine (s_attr D m ad c W W.length sa sc _ HR2.out.dm.1 HR2.out.dm.2.1 HR2.out.dm.2.2.2 rfl (by omega) HR2.out.tx).mono ?_
  rintro e w3 ⟨ka, kc, rfl, hko, hb3⟩
  have HR3 := hide (por_go HR2.out hb3)
  have HK3 := hide (own_rowAt9 hko)
  clear hko hb3 HR2
  have hLl : ((arA D W).getD []).length ≤ 6 := by
    cases har : arA D W with
    | none => simp
    | some L =>
      have hc : clB D = true := by
        cases hc : clB D with
        | true => rfl
        | false => rw [ar_not hc] at har; cases har
      rw [Option.getD_some, (ar_some hc (by omega) har).1]
      exact hW6
  have HAC : Hid (clB D = true → ((arA D W).isSome = true ↔ AcP D W)) := hide (fun hc => ar_ac hc (by omega))
  have HAN : Hid (clB D = false → (arA D W).isSome = false) := hide (fun hc => by rw [ar_not hc]; rfl)
  have HAS : Hid (clB D = true → (arA D W).isSome = true → ((arA D W).getD []).length = W.length ∧ (∀ z ∈ (arA D W).getD [], posB D z = true) ∧ StF D W ((arA D W).getD [])) := hide (fun hc hs9 => by
    cases har : arA D W with
    | none => rw [har] at hs9; cases hs9
    | some L => rw [Option.getD_some]; exact ar_some hc (by omega) har)
  obtain ⟨L, hL⟩ : ∃ L, (arA D W).getD [] = L := ⟨_, rfl⟩
  obtain ⟨ok, hok⟩ : ∃ ok, (arA D W).isSome = ok := ⟨_, rfl⟩
  rw [hL] at HR3 HK3 hLl HAS
  rw [hok] at HAC HAN HAS
  rw [hL, hok]
  clear hL hok
  have hoo : (ok != ok) = false := by simp
  go_wp2_with fail
  refine (l_sameInts la ka L.length L.length lc kc L L _ rfl rfl (by omega) (by omega) HR3.out.nw HK3.out).mono ?_
  rintro e w4 ⟨rfl, q4, hw4⟩
  have HR4 := hide (por_go HR3.out (show Below w3.heap.size w3 w4 from by rw [hw4]; exact ⟨rfl, rfl, rfl, Nat.le_refl _, fun _ _ => rfl⟩))
  have hdl : decide (L = L) = true := decide_eq_true rfl
  rw [hdl]
  clear hw4 HR3 HK3 hdl
  go_wp2_with fail
  refine (i_clear D m ad c _ HR4.out.dm.1 HR4.out.dm.2.1 HR4.out.dm.2.2.2 (tzT_go HT.out HR4.out.be (Nat.le_refl _))).mono ?_
  rintro e w5 ⟨rfl, hb5⟩
  have HR5 := hide (por_go HR4.out hb5)
  clear hb5 HR4
  go_wp2_with fail
  refine (s_clear D m ad c _ HR5.out.dm.1 HR5.out.dm.2.1 HR5.out.dm.2.2.2).mono ?_
  rintro e w6 ⟨rfl, hb6⟩
  have HR6 := hide (por_go HR5.out hb6)
  clear hb6 HR5
  have hcc : (clB D != clB D) = false := by simp
  obtain ⟨cl, hcl⟩ : ∃ cl, clB D = cl := ⟨_, rfl⟩
  have HCL := hide hcl
  rw [hcl] at hcc
  rw [hcl]
  clear hcl
  go_wp2_with fail
  refine (i_clear D m ad c _ HR6.out.dm.1 HR6.out.dm.2.1 HR6.out.dm.2.2.2 (tzT_go HT.out HR6.out.be (Nat.le_refl _))).mono ?_
  rintro e w7 ⟨rfl, hb7⟩
  have HR7 := hide (por_go HR6.out hb7)
  clear hb7 HR6
  rw [HCL.out]
  cases cl
  · have hof : ok = false := HAN.out HCL.out
    subst hof
    go_wp2
    go_ret
    exact ⟨rfl, HR7.out.be⟩
  · have HAQ := hide (HAC.out HCL.out)
    have HAZ := hide (HAS.out HCL.out)
    clear HAC HAN HAS
    go_wp2_with fail
    refine (i_accepts D m ad c W W.length sa sc _ HR7.out.dm.1 HR7.out.dm.2.1 HR7.out.dm.2.2.2 rfl (by omega) HR7.out.tx (tzT_go HT.out HR7.out.be (Nat.le_refl _))).mono ?_
    rintro e w8 ⟨B, rfl, hB, hb8⟩
    have hBB : B = ok := by
      have h1 := HAQ.out
      cases B <;> cases ok <;> simp_all
    subst hBB
    have HR8 := hide (por_go HR7.out hb8)
    clear hb8 HR7
    cases B
    · go_wp2_with fail
      refine (i_accepts D m ad c W W.length sa sc _ HR8.out.dm.1 HR8.out.dm.2.1 HR8.out.dm.2.2.2 rfl (by omega) HR8.out.tx (tzT_go HT.out HR8.out.be (Nat.le_refl _))).mono ?_
      rintro e w9 ⟨B9, rfl, hB9, hb9⟩
      have hBf : B9 = false := by
        have h1 := HAQ.out
        cases B9
        · rfl
        · exact absurd (h1.2 (hB9.1 rfl)) (by simp)
      subst hBf
      have HR9 := hide (por_go HR8.out hb9)
      clear hb9
      go_wp2
      go_ret
      exact ⟨rfl, HR9.out.be⟩
    · obtain ⟨hlen, hpos, hstf⟩ := HAZ.out rfl
      have HPOS := hide hpos
      have HSTF := hide hstf
      have HPK := hide (clB_pk HCL.out)
      have HSP := hide (fun (o : Option Int) (z : Int) (hz : z ∈ stp D o) => stp_pos HPK.out o z hz)
      have HLEN := hide hlen
      clear hpos hstf HAQ HAZ hB hlen
      go_wp2_with fail
      refine (i_firstOf D m ad c _ HR8.out.dm.1 HR8.out.dm.2.1 HR8.out.dm.2.2.2 (tzT_go HT.out HR8.out.be (Nat.le_refl _))).mono ?_
      rintro e w9 ⟨na0, nc0, rfl, hni, hb9⟩
      have HR9 := hide (por_go HR8.out hb9)
      have HN9 : Hid (RowAt .i64 w9 na0 (stp D none) w9.heap.size) := hide (own_rowAt9 hni)
      have e0 : foV D = stp D (L.take 0).getLast? := rfl
      rw [e0]
      clear hni hb9 HR8 e0
      go_wp2_with fail
      go_loopw [9, 10, 11] (fun v9 v10 v11 wr => ∃ (na : Option Addr) (nc t : Nat), v9 = .slice na (stp D (L.take t).getLast?).length nc ∧ v10 = .int .i64 t ∧ t ≤ L.length ∧ Hid (PoR w wr ad m D sa W la L) ∧ Hid (RowAt .i64 wr na (stp D (L.take t).getLast?) wr.heap.size)) (fun _ v10 _ _ => L.length - (intOf v10).toNat)
      case atStart => exact ⟨na0, nc0, 0, rfl, rfl, Nat.zero_le _, HR9, HN9⟩
      case round =>
        clear HR9 HN9
        obtain ⟨na, nc, t, rfl, rfl, ht, HR, HN⟩ := hrel
        by_cases hlt : t < L.length
        · have hti : (t : Int) < (L.length : Int) := by omega
          have ht0 : (0 : Int) ≤ (t : Int) := by omega
          obtain ⟨hm1, hm2⟩ := HSTF.out t hlt
          have hN40 : (stp D (L.take t).getLast?).length ≤ 40 := stp_len D _
          have hsn : (L.take (t + 1)).getLast? = some (L[t]?.getD 0) := by
            rw [List.take_succ_eq_append_getElem hlt, List.getLast?_append, List.getElem?_eq_getElem hlt]
            simp
          have HSN := hide hsn
          have hxp := HPOS.out (L[t]?.getD 0) (by rw [List.getElem?_eq_getElem hlt]; exact List.getElem_mem hlt)
          obtain ⟨S, hS⟩ : ∃ S, stp D (L.take t).getLast? = S := ⟨_, rfl⟩
          have HSS : Hid (∀ z ∈ S, posB D z = true) := hide (fun z hz => HSP.out _ z (by rw [hS]; exact hz))
          rw [hS] at hm1 hm2 hN40 HN
          rw [hS]
          obtain ⟨s, hs9⟩ : ∃ s, W[t]?.getD ⟨#[]⟩ = s := ⟨_, rfl⟩
          have HS9 := hide hs9
          rw [hs9] at hm2
          obtain ⟨x, hx⟩ : ∃ x, L[t]?.getD 0 = x := ⟨_, rfl⟩
          have HX := hide hx
          rw [hx] at hm1 hm2 hxp HSN
          have HM1 := hide hm1
          have HM2 := hide hm2
          have HXP := hide hxp
          clear hS hs9 hx hsn hm1 hm2 hxp
          go_upto_block 2 with fail
          go_cut [11] (fun v11 wx => Hid (Below wr.heap.size wr wx))
          case first =>
            go_wp2_with fail
            go_loopw [11] (fun v11 wx => ∃ k : Nat, v11 = .int .i64 k ∧ k ≤ S.length ∧ Hid (Below wr.heap.size wr wx)) (fun v11 _ => S.length - (intOf v11).toNat)
            case atStart => exact ⟨0, rfl, Nat.zero_le _, hide (Below.refl _ _)⟩
            case round =>
              obtain ⟨k, rfl, hk, HBW⟩ := hrel
              by_cases hlt2 : k < S.length
              · have hki : (k : Int) < (S.length : Int) := by omega
                have hk0 : (0 : Int) ≤ (k : Int) := by omega
                have HR9 := hide (por_go HR.out HBW.out)
                have HN9 := hide (rwAt_up (rwAt_go HN.out HBW.out) HBW.out.size)
                have hzm : S[k]?.getD 0 ∈ S := by rw [List.getElem?_eq_getElem hlt2]; exact List.getElem_mem hlt2
                have hzf := HM2.out _ hzm
                have hzp := HSS.out _ hzm
                obtain ⟨nb, noff, hna, hnb, hnc⟩ := rowAt_cell HN9.out k hlt2
                have c1 := hnc k hlt2
                obtain ⟨z, hz⟩ : ∃ z, S[k]?.getD 0 = z := ⟨_, rfl⟩
                rw [hz] at c1 hzf hzp
                obtain ⟨hz0, hzn, -⟩ := of_pos hzp
                obtain ⟨q, rfl⟩ : ∃ q : Nat, z = q := ⟨z.toNat, by omega⟩
                have hqn : q < D.n := by omega
                have hqm : q < m := by rw [← HDn.out]; exact hqn
                obtain ⟨pb, poff, hpa, hpb, hprow⟩ := HR9.out.dm.2.2.2 (by omega)
                obtain ⟨kad, kcp, ⟨p0, p1, p2, p3⟩, -⟩ := hprow q hqn
                have htW : t < W.length := by rw [← HLEN.out]; exact hlt
                obtain ⟨tb, toff, hta, htb, htc⟩ := tx_cell HR9.out.tx t htW
                have n1 := htc t htW
                rw [HS9.out] at n1
                obtain ⟨lb, loff, hlaa, hlb, hlc⟩ := rowAt_cell HR9.out.nw t hlt
                have l1 := hlc t hlt
                rw [HX.out] at l1
                subst hna hpa hta hlaa
                have hqi : (q : Int) < (m : Int) := by omega
                have htw : (t : Int) < (W.length : Int) := by omega
                have CF := hide (fun (W9 : World) => l_fits (D.K q) (D.NM q) kad (D.KL q).length kcp (D.OC q) s W9)
                rw [fit_mt hqn, mz_mt hzp, hzf] at CF
                have hdd : ((decide ((q : Int) = x)) != ((q : Int) == x)) = false := by
                  by_cases e : (q : Int) = x
                  · simp [e]
                  · simp [e]
                obtain ⟨bt, hbt⟩ : ∃ bt, decide ((q : Int) = x) = bt := ⟨_, rfl⟩
                rw [hbt] at CF hdd
                clear hz hnc hprow htc hlc hbt hzf hzm
                go_upto_region 19 with fail
                go_cut [101] (fun v wx => v = .bool false ∧ Hid (Below wr.heap.size wr wx))
                case first =>
                  have HKS : Hid (∀ W9, Below wr.heap.size wr W9 → Below wr.heap.size wr W9 ∧ W9.cell? ⟨nb, noff + k, none⟩ = some (.int .i64 (q : Int)) ∧ W9.cell? ⟨pb, poff + q * 4, none⟩ = some (.int .i64 (D.K q)) ∧ W9.cell? ⟨pb, poff + q * 4 + 1, none⟩ = some (.string (D.NM q)) ∧ W9.cell? ⟨pb, poff + q * 4 + 2, none⟩ = some (.slice kad (D.KL q).length kcp) ∧ W9.cell? ⟨pb, poff + q * 4 + 3, none⟩ = some (.int .i64 (D.OC q)) ∧ W9.cell? ⟨tb, toff + t, none⟩ = some (.string s) ∧ W9.cell? ⟨lb, loff + t, none⟩ = some (.int .i64 x)) := hide (fun W9 h9 => ⟨h9, (h9.cell (p := ⟨nb, noff + k, none⟩) hnb).trans c1, (h9.cell (p := ⟨pb, poff + q * 4, none⟩) hpb).trans p0, (h9.cell (p := ⟨pb, poff + q * 4 + 1, none⟩) hpb).trans p1, (h9.cell (p := ⟨pb, poff + q * 4 + 2, none⟩) hpb).trans p2, (h9.cell (p := ⟨pb, poff + q * 4 + 3, none⟩) hpb).trans p3, (h9.cell (p := ⟨tb, toff + t, none⟩) htb).trans n1, (h9.cell (p := ⟨lb, loff + t, none⟩) hlb).trans l1⟩)
                  have XX : Hid (Below wr.heap.size wr wr) := hide (Below.refl _ _)
                  clear c1 p0 p1 p2 p3 n1 l1
                  go_region_held3 (fun W9 => Below wr.heap.size wr W9 ∧ W9.cell? ⟨nb, noff + k, none⟩ = some (.int .i64 (q : Int)) ∧ W9.cell? ⟨pb, poff + q * 4, none⟩ = some (.int .i64 (D.K q)) ∧ W9.cell? ⟨pb, poff + q * 4 + 1, none⟩ = some (.string (D.NM q)) ∧ W9.cell? ⟨pb, poff + q * 4 + 2, none⟩ = some (.slice kad (D.KL q).length kcp) ∧ W9.cell? ⟨pb, poff + q * 4 + 3, none⟩ = some (.int .i64 (D.OC q)) ∧ W9.cell? ⟨tb, toff + t, none⟩ = some (.string s) ∧ W9.cell? ⟨lb, loff + t, none⟩ = some (.int .i64 x)) (first | assumption | exact HKS.out _ (XX.out.drew) | exact HKS.out _ XX.out) (first | (go_at_call 14; refine (CF.out _).mono ?_; rintro e w9 ⟨rfl, hb9⟩; have X2 : Hid (Below wr.heap.size wr w9) := hide ⟨hb9.os, hb9.tape, hb9.output, hb9.size, hb9.block⟩; replace XX := X2; clear X2 hb9))
                  all_goals
                    go_wp2
                    go_meet
                    exact ⟨congrArg Value.bool hdd, XX⟩
                case rest =>
                  obtain ⟨rfl, HB9⟩ := hcut
                  have HB10 := hide (HBW.out.trans (HB9.out.mono HBW.out.size))
                  clear c1 p0 p1 p2 p3 n1 l1
                  go_wp2
                  go_roundw
                  case rel => exact ⟨k + 1, by go_num, by omega, HB10⟩
                  case measure => simp [intOf]; omega
              · have hki : ¬ (k : Int) < (S.length : Int) := by omega
                go_wp2
                go_meet
                exact HBW
          case rest =>
            have HBW := hcut
            have HR9 := hide (por_go HR.out HBW.out)
            have HN9 := hide (rwAt_up (rwAt_go HN.out HBW.out) HBW.out.size)
            obtain ⟨lb, loff, hlaa, hlb, hlc⟩ := rowAt_cell HR9.out.nw t hlt
            have l1 := hlc t hlt
            rw [HX.out] at l1
            subst hlaa
            have CH := hide (l_has na S.length nc S x _ rfl (by omega) HN9.out)
            have hmm : decide (x ∈ S) = true := decide_eq_true HM1.out
            rw [hmm] at CH
            clear hlc hmm hcut
            go_wp2_with fail
            refine CH.out.mono ?_
            rintro e w9 ⟨rfl, h9⟩
            rw [h9]
            clear h9 w9
            go_wp2_with fail
            refine (i_followOf D m ad c x _ HR9.out.dm.1 HR9.out.dm.2.1 HR9.out.dm.2.2.2 (tzT_go HT.out HR9.out.be (Nat.le_refl _))).mono ?_
            rintro e w8 ⟨fa, fc, rfl, hfo, hb8⟩
            have HR8 := hide (por_go HR9.out hb8)
            have HFO := hide (own_rowAt9 hfo)
            have hst : flV D x = stp D (L.take (t + 1)).getLast? := by rw [HSN.out]; rfl
            rw [hst] at HFO
            rw [hst]
            clear hfo hb8 hst l1
            go_wp2
            go_roundw
            case rel => exact ⟨fa, fc, t + 1, rfl, by go_num, by omega, HR8, HFO⟩
            case measure => simp [intOf]; omega
        · have hti : ¬ (t : Int) < (L.length : Int) := by omega
          have hee : (((L.length : Nat) : Int) == ((W.length : Nat) : Int)) = true := by rw [HLEN.out]; simp
          go_wp2
          go_ret
          exact ⟨by first | rfl | exact ret_bool hee, HR.out.be⟩
end Go.Proofs.YtfohfljdgmlibaaDoor

/-
  A table of numbers that lies as its initialiser laid it, as a list: of no program.
-/
namespace Go.Proofs.YtfohfljdgmlibaaDoor
open Go.RowKit Go.Joins
theorem tabis_of {P : Program} {W : World} {name : String} {k : IntKind} {zs : List Int} {g : Nat} {t e : TypeId} {n : Nat} (hg : P.globalNamed name = some g) (hty : (P.globals[g]?).map (·.type) = some t) (ht : P.underlying t = some (.array n e)) (he : P.underlying e = some (.int k)) (hce : P.cellsOf e = 1) (hct : P.cellsOf t = n)
    (h : Lib.VarReads P W name (Lib.tabData k zs)) : Lib.TabIs P W name k zs := by
  obtain ⟨g', t', cs, fuel, p, hg', ht', hvar, hd⟩ := h
  obtain rfl := Option.some.inj (hg.symm.trans hg')
  obtain rfl := Option.some.inj (hty.symm.trans ht')
  have e := Lib.cells_of_tab ht he hce hct hd
  unfold Lib.TabIs
  rw [hvar]; congr 1; cases cs; simp at e; rw [e]
end Go.Proofs.YtfohfljdgmlibaaDoor

/-
  The library's table of places of bits, as its initialiser lays it.
-/
namespace Go.Proofs.YtfohfljdgmlibaaDoor
open Go.RowKit Go.Joins
theorem tz_of {w : World} (h : Lib.TabIs Tryd.prog w "math/bits.deBruijn64tab" .u8 (Lib.deBruijn64tab.map Int.ofNat)) : TzT w := fun j hj => by
  have hc := Lib.TabIs.cell h (g := 0) (by kernel_rfl) j (by rw [List.length_map]; exact hj)
  rw [hc]
  congr 2
  rw [List.getD_eq_getElem?_getD, List.getD_eq_getElem?_getD, List.getElem?_map, List.getElem?_eq_getElem hj]
  rfl
end Go.Proofs.YtfohfljdgmlibaaDoor
