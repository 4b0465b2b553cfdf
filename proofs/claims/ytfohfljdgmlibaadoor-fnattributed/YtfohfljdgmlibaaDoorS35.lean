/-
  The walk of FnPositions: whatever the code is, a model takes the drawn row of names just where positions lead from the first ones, by what may follow, to the last ones.
-/
import Derived.Test.YtfohfljdgmlibaaDoorS27
import Derived.Test.YtfohfljdgmlibaaDoorS19
import Derived.Test.YtfohfljdgmlibaaDoorS18
import Derived.Test.YtfohfljdgmlibaaDoorS30
import Derived.Test.YtfohfljdgmlibaaDoorS34
import Derived.Deep.DeepCutAuto
import Derived.Deep.RegionHeld3
import Derived.Deep.CutBlock
namespace Go.Proofs.YtfohfljdgmlibaaDoor
open Go.RowKit Go.Joins
set_option linter.unusedVariables false
set_option linter.unusedSimpArgs false
set_option maxHeartbeats 2000000 in
theorem l_has (ad : Option Addr) (n c : Nat) (L : List Int) (z : Int) (w : World) (hn : L.length = n) (hx : n ≤ 163840000000) (hr : RowAt .i64 w ad L w.heap.size) :
    Calls Tryd.prog 17 #[.slice ad n c, .int .i64 z] w fun r w' => r = .returned (.bool (decide (z ∈ L))) ∧ w' = w := by
  have HN := hide hn
  have HR := hide hr
  clear hr hn
  go_enter Tryd.func17, Tryd.ntmps17
  go_wp2
  go_loopw [5] (fun mv wr => ∃ (m : Nat), m ≤ n ∧ mv = .int .i64 m ∧ Hid (wr = w) ∧ Hid (∀ j, j < m → L[j]?.getD 0 ≠ z)) (fun mv _ => n - (intOf mv).toNat)
  case atStart => exact ⟨0, Nat.zero_le _, rfl, hide rfl, hide (fun j hj => by omega)⟩
  case round =>
    obtain ⟨m, hm, rfl, HW, HA⟩ := hrel
    by_cases hlt : m < n
    · obtain ⟨b, off, rfl, hb, hc⟩ := rowAt_cell HR.out m (by rw [HN.out]; exact hlt)
      have k0 : wr.cell? ⟨b, off + m, none⟩ = some (.int .i64 (L[m]?.getD 0)) := by rw [HW.out]; exact hc m (by rw [HN.out]; exact hlt)
      have hmL : m < L.length := by rw [HN.out]; exact hlt
      have HMM : Hid (L[m]?.getD 0 ∈ L) := hide (by rw [List.getElem?_eq_getElem hmL]; exact List.getElem_mem hmL)
      obtain ⟨v, hv⟩ : ∃ v, L[m]?.getD 0 = v := ⟨_, rfl⟩
      have HV := hide hv
      rw [hv] at k0 HMM
      have hmi : (m : Int) < (n : Int) := by omega
      have hm0 : (0 : Int) ≤ (m : Int) := by omega
      clear hc hv hmL
      by_cases he : v = z
      · have HD : Hid (decide (z ∈ L) = true) := hide (decide_eq_true (he ▸ HMM.out))
        subst he
        go_wp2
        go_ret
        exact ⟨ret_bool HD.out.symm, HW.out⟩
      · have heq : (v == z) = false := by rw [beq_eq_false_iff_ne]; exact he
        have HA2 : Hid (∀ j, j < m + 1 → L[j]?.getD 0 ≠ z) := hide (fun j hj => by
          by_cases e : j = m
          · subst e; rw [HV.out]; exact he
          · exact HA.out j (by omega))
        clear he
        go_wp2
        go_roundw
        case rel => exact ⟨m + 1, by omega, by go_num, HW, HA2⟩
        case measure => simp [intOf]; omega
    · have HD : Hid (decide (z ∈ L) = false) := hide (decide_eq_false (fun h => by
        obtain ⟨j, hj, e⟩ := List.mem_iff_getElem.1 h
        exact HA.out j (by rw [HN.out] at hj; omega) (by rw [List.getElem?_eq_getElem hj]; exact e)))
      go_wp2
      go_ret
      exact ⟨ret_bool HD.out.symm, HW.out⟩

def fitB (k : Int) (nm s : ByteArray) : Bool := decide (k = 4) || (decide (k = 1) && (nm.toList == s.toList))
theorem fit_mt {D : Pn} {s : ByteArray} {q : Nat} (hq : q < D.n) : fitB (D.K q) (D.NM q) s = mtP D s q := by
  unfold fitB mtP
  rw [decide_eq_true hq, Bool.true_and]
set_option maxHeartbeats 2000000 in
theorem l_fits (k : Int) (nm : ByteArray) (ad : Option Addr) (n c : Nat) (oc : Int) (s : ByteArray) (w : World) :
    Calls Tryd.prog 14 #[.agg #[.int .i64 k, .string nm, .slice ad n c, .int .i64 oc], .string s] w fun e w' => e = .returned (.bool (fitB k nm s)) ∧ Below w.heap.size w w' := by
  have HB := hide (fun (o : Obj) => (Below.refl w.heap.size w).alloc (Nat.le_refl _) o)
  by_cases h4 : k = 4
  · have e : fitB k nm s = true := by unfold fitB; rw [decide_eq_true h4]; rfl
    have HE := hide e
    have hb : (k == 4) = true := by rw [h4]; rfl
    clear e
    go_enter Tryd.func14, Tryd.ntmps14
    go_wp2
    go_ret
    exact ⟨ret_bool HE.out.symm, HB.out _⟩
  · have hb : (k == 4) = false := by simp [h4]
    by_cases h1 : k = 1
    · have e : fitB k nm s = (nm.toList == s.toList) := by unfold fitB; rw [decide_eq_false h4, decide_eq_true h1]; simp
      have HE := hide e
      have hb1 : (k == 1) = true := by rw [h1]; rfl
      clear e
      go_enter Tryd.func14, Tryd.ntmps14
      go_wp2
      go_ret
      exact ⟨ret_bool HE.out.symm, HB.out _⟩
    · have e : fitB k nm s = false := by unfold fitB; rw [decide_eq_false h4, decide_eq_false h1]; rfl
      have HE := hide e
      have hb1 : (k == 1) = false := by simp [h1]
      clear e
      go_enter Tryd.func14, Tryd.ntmps14
      go_wp2
      go_ret
      exact ⟨ret_bool HE.out.symm, HB.out _⟩
/-- While a round goes: the names at, those next. -/
structure PoI (b0 : Nat) (wr w : World) (aa : Option Addr) (ac : Nat) (A : List Int) (xa : Option Addr) (xc : Nat) (X : List Int) : Prop where
  at_ : IntR b0 w aa ac A
  nx : IntR b0 w xa xc X
  ne : ∀ j, (Value.slice aa A.length ac).ownBlock = some j → (Value.slice xa X.length xc).ownBlock ≠ some j
  be : Below b0 wr w
  le : b0 ≤ w.heap.size
section
variable {b0 : Nat} {wr w w1 : World} {aa : Option Addr} {ac : Nat} {A : List Int} {xa : Option Addr} {xc : Nat} {X : List Int}
theorem po_go (h : PoI b0 wr w aa ac A xa xc X) (hb : Below w.heap.size w w1) : PoI b0 wr w1 aa ac A xa xc X := ⟨gOwn_after h.at_ hb, gOwn_after h.nx hb, h.ne, h.be.trans (hb.mono h.le), Nat.le_trans h.le hb.size⟩
theorem po_at_app {o : Obj} {gg c9 : Nat} {z : Int} (h : PoI b0 wr w aa ac A xa xc X) (ho : w1.ownsRow b0 2 1 (.slice (some ⟨gg, 0, none⟩) (A.length + 1) c9) (A.length + 1) (A.map (Value.int .i64) ++ [.int .i64 z])) (hg : (w.alloc o).grownBy w1 (Value.slice aa A.length ac).ownBlock) (hat : (Value.slice aa A.length ac).ownBlock = some gg ∨ gg = w.heap.size + 1) :
    PoI b0 wr w1 (some ⟨gg, 0, none⟩) c9 (A ++ [z]) xa xc X := by
  have hk : Kp (fun j => (Value.slice aa A.length ac).ownBlock = some j) w w1 := (kp_alloc w o).trans (kp_grown (S := fun j => (Value.slice aa A.length ac).ownBlock = some j) hg (fun j hj => hj)) (fun j _ hj => hj)
  refine ⟨?_, own_kp h.nx hk (fun j hj e => h.ne j e hj), fun j hj => ?_, h.be.trans (kp_below hk h.le (fun k hk' => (World.ownsRow.lt h.at_ k hk').1)), Nat.le_trans h.le hk.size⟩
  · unfold IntR
    rw [show (A ++ [z]).length = A.length + 1 by simp, List.map_append]
    exact ho
  · have e : gg = j := by simpa [Value.ownBlock] using hj
    subst e
    rcases hat with e | e
    · exact h.ne gg e
    · intro e9
      have := (World.ownsRow.lt h.nx gg e9).2
      omega
theorem po_nx_app {a9 : Option Addr} {c9 : Nat} {Y : List Int} (h : PoI b0 wr w aa ac A xa xc X) (ho : w1.ownsRow b0 2 1 (.slice a9 (X.length + Y.length) c9) (X.length + Y.length) (X.map (Value.int .i64) ++ Y.map (Value.int .i64))) (hg : w.grownBy w1 (Value.slice xa X.length xc).ownBlock) (hat : ∀ j, (Value.slice a9 (X.length + Y.length) c9).ownBlock = some j → (Value.slice xa X.length xc).ownBlock = some j ∨ w.heap.size ≤ j) :
    PoI b0 wr w1 aa ac A a9 c9 (X ++ Y) := by
  have hk : Kp (fun j => (Value.slice xa X.length xc).ownBlock = some j) w w1 := kp_grown (S := fun j => (Value.slice xa X.length xc).ownBlock = some j) hg (fun j hj => hj)
  refine ⟨own_kp h.at_ hk (fun j hj e => h.ne j hj e), ?_, fun j hj => ?_, h.be.trans (kp_below hk h.le (fun k hk' => (World.ownsRow.lt h.nx k hk').1)), Nat.le_trans h.le hk.size⟩
  · unfold IntR
    rw [List.length_append, List.map_append]
    exact ho
  · rw [List.length_append]
    intro e9
    rcases hat j e9 with e | e
    · exact h.ne j hj e
    · have := (World.ownsRow.lt h.at_ j hj).2
      omega
theorem po_new (wr : World) (o1 o2 : Obj) (h1 : o1 = .cells #[] 2) (h2 : o2 = .cells #[] 2) : PoI wr.heap.size wr ((wr.alloc o1).alloc o2) (some ⟨wr.heap.size, 0, none⟩) 0 [] (some ⟨wr.heap.size + 1, 0, none⟩) 0 [] := by
  subst h1 h2
  have e1 : (wr.alloc (.cells #[] 2)).heap.size = wr.heap.size + 1 := by simp
  refine ⟨World.ownsRow.alloc (World.ownsRow_lit wr #[] 0 (Nat.le_refl _) (by unfold maxLen; omega) rfl) _, ?_, fun j hj => ?_, ((Below.refl _ _).alloc (Nat.le_refl _) _).alloc (by simp) _, by simp; omega⟩
  · have := World.ownsRow_lit (wr.alloc (.cells #[] 2)) (base := wr.heap.size) (e := 2) (size := 1) #[] 0 (by simp) (by unfold maxLen; omega) rfl
    rw [e1] at this
    exact this
  · have e : wr.heap.size = j := by simpa [Value.ownBlock] using hj
    subst e
    simp [Value.ownBlock]
end
/-- What a round begins with. -/
structure PoR (w wr : World) (ad : Option Addr) (m : Nat) (D : Pn) (sa : Option Addr) (W : List ByteArray) (na : Option Addr) (N : List Int) : Prop where
  dm : DmA wr ad m D
  tx : TxAt wr sa W wr.heap.size
  nw : RowAt .i64 wr na N wr.heap.size
  be : Below w.heap.size w wr
theorem por_go {w wr w1 : World} {ad : Option Addr} {m : Nat} {D : Pn} {sa : Option Addr} {W : List ByteArray} {na : Option Addr} {N : List Int} (h : PoR w wr ad m D sa W na N) (hb : Below wr.heap.size wr w1) : PoR w w1 ad m D sa W na N := ⟨dm_go h.dm hb, tx_up (tx_go h.tx hb) hb.size, rwAt_up (rwAt_go h.nw hb) hb.size, h.be.trans (hb.mono h.be.size)⟩
set_option maxRecDepth 100000 in
set_option maxHeartbeats 16000000 in
theorem pos_walk (a : Option Addr) (n cap : Nat) (zs : List Int) (w : World) (hl : zs.length = n) (hz : ∀ x ∈ zs, 0 ≤ x ∧ x ≤ 255) (hn : n ≤ 1048576) (hs : SrcAt w a zs w.heap.size) (hT : TzT w) :
    Calls Tryd.prog 3 #[.slice a n cap] w fun e w' => e = .returned (.bool true) ∧ Below w.heap.size w w' := by
  obtain ⟨i0, hi0, hz0, hz1, hz2⟩ := info_parts info64
  have HS := hide hs
  have HL := hide hl
  have HZ := hide hz
  have HT := hide hT
  have hn' : ¬ (1048576 : Int) < (n : Int) := by omega
  clear hs hl hz hT
  go_enter Tryd.func3, Tryd.ntmps3
  go_wp2_with (go_at_call 7; go_in)
  refine (d_accepts a n cap zs _ HL.out HZ.out hn HS.out).mono ?_
  rintro e w1 ⟨ad, m, c, D, sa, sc, W, rfl, hD, hW6, -, hTx, hb1⟩
  have HR1 : Hid (PoR w w1 ad m D sa W none []) := hide ⟨hD, hTx, fun h => absurd rfl h, hb1⟩
  have hm40 := hD.2.2.1
  have HDn := hide hD.1
  clear hD hTx hb1
  go_wp2_with fail
  refine (i_accepts D m ad c W W.length sa sc _ HR1.out.dm.1 HR1.out.dm.2.1 HR1.out.dm.2.2.2 rfl (by omega) HR1.out.tx (tzT_go HT.out HR1.out.be (Nat.le_refl _))).mono ?_
  rintro e w2 ⟨B, rfl, hB, hb2⟩
  have HB := hide hB
  have HR2 := hide (por_go HR1.out hb2)
  clear hB hb2 HR1
  go_wp2_with fail
  refine (s_accepts D m ad c W W.length sa sc _ HR2.out.dm.1 HR2.out.dm.2.1 HR2.out.dm.2.2.2 rfl (by omega) HR2.out.tx).mono ?_
  rintro e w3 ⟨B', rfl, hB', hb3⟩
  have hBB : B' = B := by
    have h1 := HB.out
    cases B <;> cases B' <;> simp_all
  subst hBB
  have HR3 := hide (por_go HR2.out hb3)
  clear hB' hb3 HR2
  have hbb : (B' != B') = false := by simp
  go_wp2_with fail
  refine (s_particle D m ad c _ HR3.out.dm.1 HR3.out.dm.2.1 HR3.out.dm.2.2.2).mono ?_
  rintro e w4 ⟨rfl, hb4⟩
  have HR4 := hide (por_go HR3.out hb4)
  clear hb4 HR3
  cases hpk : pkB D
  · go_wp2_with fail
    refine (s_accepts D m ad c W W.length sa sc _ HR4.out.dm.1 HR4.out.dm.2.1 HR4.out.dm.2.2.2 rfl (by omega) HR4.out.tx).mono ?_
    rintro e w5 ⟨B5, rfl, hB5, hb5⟩
    have hBB : B5 = B' := by
      have h1 := HB.out
      cases B' <;> cases B5 <;> simp_all
    subst hBB
    have HR5 := hide (por_go HR4.out hb5)
    clear hB5 hb5
    go_wp2
    go_ret
    exact ⟨ret_bool (by simp), HR5.out.be⟩
  · have HPK := hide hpk
    clear hpk
    by_cases hw0 : W.length = 0
    · have HNU : Hid (B' = (pkB D && nl D (D.n - 1))) := hide (by
        have hWn : W = [] := List.length_eq_zero_iff.1 hw0
        have h1 := HB.out
        subst hWn
        unfold AcP at h1
        rw [ac_iff HPK.out] at h1
        rw [HPK.out, Bool.true_and]
        cases hnl : nl D (D.n - 1)
        · cases hb9 : B'
          · rfl
          · exfalso
            rw [hnl] at h1
            obtain ⟨-, -, ⟨-, h⟩ | ⟨q, h, -⟩⟩ := h1.1 hb9
            · cases h
            · exact h.elim
        · exact h1.2 ⟨HPK.out, by simp, .inl ⟨rfl, hnl⟩⟩)
      have hw1 : (((W.length : Nat) : Int) == 0) = true := by rw [hw0]; rfl
      go_wp2_with fail
      refine (i_nullable D m ad c _ HR4.out.dm.1 HR4.out.dm.2.1 HR4.out.dm.2.2.2 (tzT_go HT.out HR4.out.be (Nat.le_refl _))).mono ?_
      rintro e w5 ⟨rfl, hb5⟩
      have HR5 := hide (por_go HR4.out hb5)
      clear hb5
      rw [← HNU.out]
      go_wp2
      go_ret
      exact ⟨ret_bool (by simp), HR5.out.be⟩
    · have hw1 : (((W.length : Nat) : Int) == 0) = false := by rw [beq_eq_false_iff_ne]; omega
      go_wp2_with fail
      refine (i_firstOf D m ad c _ HR4.out.dm.1 HR4.out.dm.2.1 HR4.out.dm.2.2.2 (tzT_go HT.out HR4.out.be (Nat.le_refl _))).mono ?_
      rintro e w5 ⟨na0, nc0, rfl, hni, hb5⟩
      have HR5 : Hid (PoR w w5 ad m D sa W na0 (foV D)) := hide ⟨dm_go HR4.out.dm hb5, tx_up (tx_go HR4.out.tx hb5) hb5.size, own_rowAt9 hni, HR4.out.be.trans (hb5.mono HR4.out.be.size)⟩
      have HNW : Hid (NowR D W 0 (foV D)) := hide (now_zero HPK.out)
      have hpw := pw_zero (foV_len (D := D))
      obtain ⟨N0, hN0⟩ : ∃ N0, foV D = N0 := ⟨_, rfl⟩
      rw [hN0] at HR5 HNW hpw
      rw [hN0]
      have HPW := hide hpw
      clear hni hb5 HR4 hN0 hpw
      go_wp2_with fail
      go_loopw [6, 7, 8, 9, 10, 11, 12, 13] (fun v6 v7 v8 v9 v10 v11 v12 v13 wr => ∃ (na : Option Addr) (nc : Nat) (N : List Int) (t : Nat), v6 = .slice na N.length nc ∧ v7 = .int .i64 t ∧ t < W.length ∧ Hid (NowR D W t N) ∧ Hid (PwB t N.length) ∧ Hid (PoR w wr ad m D sa W na N)) (fun _ v7 _ _ _ _ _ _ _ => W.length - (intOf v7).toNat)
      case atStart => exact ⟨na0, nc0, N0, 0, rfl, rfl, by omega, HNW, HPW, HR5⟩
      case round =>
        clear HR5 HNW HPW
        obtain ⟨na, nc, N, t, rfl, rfl, ht, HNW, HPW, HR⟩ := hrel
        have hti : (t : Int) < (W.length : Int) := by omega
        have hNl := pw_len HPW.out
        obtain ⟨s, hs9⟩ : ∃ s, W[t]?.getD ⟨#[]⟩ = s := ⟨_, rfl⟩
        have HS9 := hide hs9
        have HNR := hide HNW.out.1
        have hin := po_new wr _ _ rfl rfl
        have HIN := hide hin
        have hsz2 : (wr.alloc (.cells #[] 2)).heap.size = wr.heap.size + 1 := by simp
        clear hs9 hin
        go_upto_block 2 with fail
        obtain ⟨wy, hwy⟩ : ∃ wy, (wr.alloc (.cells #[] 2)).alloc (.cells #[] 2) = wy := ⟨_, rfl⟩
        rw [hwy] at HIN
        rw [hwy]
        clear hwy hsz2
        go_cut [8, 9, 10] (fun v8 v9 v10 wx => ∃ (aa : Option Addr) (ac : Nat) (xa : Option Addr) (xc : Nat), v8 = .slice aa (atL D s N).length ac ∧ v9 = .slice xa (nxL D (atL D s N)).length xc ∧ Hid (PoI wr.heap.size wr wx aa ac (atL D s N) xa xc (nxL D (atL D s N))))
        case first =>
          go_wp2_with fail
          go_loopw [8, 9, 10] (fun v8 v9 v10 wx => ∃ (aa : Option Addr) (ac : Nat) (xa : Option Addr) (xc k : Nat), v8 = .slice aa (atL D s (N.take k)).length ac ∧ v9 = .slice xa (nxL D (atL D s (N.take k))).length xc ∧ v10 = .int .i64 k ∧ k ≤ N.length ∧ Hid (PoI wr.heap.size wr wx aa ac (atL D s (N.take k)) xa xc (nxL D (atL D s (N.take k))))) (fun _ _ v10 _ => N.length - (intOf v10).toNat)
          case atStart => exact ⟨_, _, _, _, 0, rfl, rfl, rfl, Nat.zero_le _, HIN⟩
          case round =>
            clear HIN
            obtain ⟨aa, ac, xa, xc, k, rfl, rfl, rfl, hk, HP⟩ := hrel
            by_cases hlt : k < N.length
            · have hki : (k : Int) < (N.length : Int) := by omega
              have hk0 : (0 : Int) ≤ (k : Int) := by omega
              have ht0 : (0 : Int) ≤ (t : Int) := by omega
              have HY := hide (at_snoc_yes (D := D) (s := s) hlt)
              have HNo := hide (at_snoc_no (D := D) (s := s) hlt)
              have hAl := Nat.le_trans (at_len (D := D) (s := s) (N.take k)) (List.length_take_le k N)
              have hXl := nx_len (D := D) (atL D s (N.take k))
              have hzr := HNR.out (N[k]?.getD 0) (by rw [List.getElem?_eq_getElem hlt]; exact List.getElem_mem hlt)
              have HR9 := hide (por_go HR.out HP.out.be)
              obtain ⟨nb, noff, hna, hnbb, hnc0⟩ := rowAt_cell HR.out.nw k hlt
              have hnb : nb < wr.heap.size := Nat.lt_of_lt_of_le hnbb HP.out.le
              have c1 := (HP.out.be.cell (p := ⟨nb, noff + k, none⟩) hnbb).trans (hnc0 k hlt)
              obtain ⟨z, hz⟩ : ∃ z, N[k]?.getD 0 = z := ⟨_, rfl⟩
              rw [hz] at c1 hzr HY HNo
              obtain ⟨A, hA⟩ : ∃ A, atL D s (N.take k) = A := ⟨_, rfl⟩
              rw [hA] at HP hAl hXl HY HNo ⊢
              obtain ⟨X, hX⟩ : ∃ X, nxL D A = X := ⟨_, rfl⟩
              have HXE := hide hX
              rw [hX] at HP hXl ⊢
              obtain ⟨q, rfl⟩ : ∃ q : Nat, z = q := ⟨z.toNat, by omega⟩
              have hqn : q < D.n := by omega
              have hqm : q < m := by rw [← HDn.out]; exact hqn
              obtain ⟨pb, poff, hpa, hpb, hprow⟩ := HR9.out.dm.2.2.2 (by omega)
              obtain ⟨kad, kcp, ⟨p0, p1, p2, p3⟩, -⟩ := hprow q hqn
              obtain ⟨tb, toff, hta, htb, htc⟩ := tx_cell HR9.out.tx t ht
              have n1 := htc t ht
              rw [HS9.out] at n1
              subst hna hpa hta
              have hq0 : (0 : Int) ≤ (q : Int) := by omega
              have hqi : (q : Int) < (m : Int) := by omega
              have CF := hide (fun (W9 : World) => l_fits (D.K q) (D.NM q) kad (D.KL q).length kcp (D.OC q) s W9)
              rw [fit_mt hqn] at CF
              rw [show (((q : Nat) : Int)).toNat = q by omega] at HY HNo
              have CFo := hide (fun (W9 : World) (h1 : DmA W9 (some ⟨pb, poff, none⟩) m D) (h2 : TzT W9) => i_followOf D m (some ⟨pb, poff, none⟩) c (q : Int) W9 h1.1 h1.2.1 h1.2.2.2 h2)
              have hfl := flV_len (D := D) (x := (q : Int))
              obtain ⟨bt, hbt⟩ : ∃ bt, mtP D s q = bt := ⟨_, rfl⟩
              rw [hbt] at CF HY HNo
              clear hA hX hz hnc0 hprow htc hbt
              go_upto_region 18 with fail
              go_cut [73] (fun v wx => v = .bool bt ∧ Hid (Below wr.heap.size wr wx))
              case first =>
                have d1 : wr.drew.cell? ⟨nb, noff + k, none⟩ = some (.int .i64 (q : Int)) := c1
                have d2 : wr.drew.cell? ⟨pb, poff + q * 4, none⟩ = some (.int .i64 (D.K q)) := p0
                have d3 : wr.drew.cell? ⟨pb, poff + q * 4 + 1, none⟩ = some (.string (D.NM q)) := p1
                have d4 : wr.drew.cell? ⟨pb, poff + q * 4 + 2, none⟩ = some (.slice kad (D.KL q).length kcp) := p2
                have d5 : wr.drew.cell? ⟨pb, poff + q * 4 + 3, none⟩ = some (.int .i64 (D.OC q)) := p3
                have d6 : wr.drew.cell? ⟨tb, toff + t, none⟩ = some (.string s) := n1
                go_region_law (first
                  | (go_simp; go_at_call 14; refine (CF.out _).mono ?_; rintro e w9 ⟨rfl, hb9⟩; have HB9 := hide hb9; clear hb9)
                  | (fail))
                all_goals
                  go_wp2
                  go_meet
                  exact ⟨rfl, hide ⟨HB9.out.os, HB9.out.tape, HB9.out.output, HB9.out.size, HB9.out.block⟩⟩
              case rest =>
                obtain ⟨rfl, h9⟩ := hcut
                have hb9 := h9.out
                have HP9 := hide (po_go HP.out hb9)
                have HR10 := hide (por_go HR9.out hb9)
                have c9 := (hb9.cell (p := ⟨nb, noff + k, none⟩) hnb).trans c1
                clear h9 hb9 HP HR9 HR10 c1 p0 p1 p2 p3 n1 hpb htb CF
                cases bt
                · go_wp2
                  go_roundw
                  case rel => exact ⟨aa, ac, xa, xc, k + 1, by rw [HNo.out (by first | rfl | trivial)], by rw [HNo.out (by first | rfl | trivial), HXE.out], by go_num, by omega, by rw [HNo.out (by first | rfl | trivial), HXE.out]; exact HP9⟩
                  case measure => simp [intOf]; omega
                · have hBw := HP9.out.le
                  have hbN : (Value.slice aa A.length ac).ownBlock ≠ some nb := fun e9 => by
                    have h1 := (World.ownsRow.lt HP9.out.at_ nb e9).1
                    omega
                  go_upto_region 20 with (at_builtin; refine wpList_append_lies _ (by rfl) (.tmp 74) (.tmp 79) 30 (by rfl) _ 2 i0 _ 1 8 Tryd.underlying30 hi0 hz0 hz1 hz2 rfl (by omega) (.slice aa A.length ac) A.length (A.map (Value.int .i64)) (by rfl) (World.ownsRow.alloc HP9.out.at_ _) ⟨wc.heap.size, 0, none⟩ 1 1 [.int .i64 (q : Int)] (by rfl) (by rfl) (World.news_of_block (cs := #[.int .i64 (q : Int)]) (t := 2) (fr := (0, 0)) (heap_alloc_new wc _)) (by simp [Value.oneCell']) (by omega) (by unfold maxLen; omega) (by omega) (by simp; omega) (wc.heap.size + 1) (by simp) ?_; intro gg cc8 w8 hown8 hgrow8 hat8 hlt8; have HP8 := hide (po_at_app HP9.out hown8 hgrow8 hat8); have c8 := (((kp_alloc wc (.cells #[.int .i64 (q : Int)] 2)).trans (kp_grown (S := fun j => (Value.slice aa A.length ac).ownBlock = some j) hgrow8 (fun j hj => hj)) (fun j _ hj => hj)).block nb (World.block_lt_of_cell? _ _ c9) (fun e9 => hbN e9)); have c8b := (World.cell?_of_block (a := ⟨nb, noff + k, none⟩) c8).trans c9; have HRW := hide (por_go HR.out HP8.out.be); clear hown8 hgrow8 hat8 c8)
                  go_wp2_with fail
                  refine (CFo.out _ HRW.out.dm (tzT_go HT.out HRW.out.be (Nat.le_refl _))).mono ?_
                  rintro e w7 ⟨fa, fc, rfl, hfo, hb7⟩
                  have HP7 := hide (po_go HP8.out hb7)
                  have HFO := hide hfo
                  have hBw7 := HP7.out.le
                  obtain ⟨Y, hY⟩ : ∃ Y, flV D (q : Int) = Y := ⟨_, rfl⟩
                  have HYE := hide hY
                  rw [hY] at HFO hfl
                  rw [hY]
                  clear hfo hb7 hY
                  go_wp2_with (at_builtin; refine wpList_append_srcL (by rfl) (.tmp 81) (.tmp 87) 30 (by rfl) _ 2 i0 (.int .i64 0) 1 8 Tryd.underlying30 hi0 hz0 hz1 hz2 rfl (by decide) (.slice xa X.length xc) X.length (X.map (Value.int .i64)) (by rfl) HP7.out.nx fa Y.length fc (Y.map (Value.int .i64)) (by rfl) (by rw [List.length_map, Nat.mul_one]) (fun hp => intR_src HFO.out hp) (ints_one _) (by unfold maxLen; omega) (by omega) hBw7 ?_; intro a6 c6 w6 hown6 hgr6 hat6; have HP6 := hide (po_nx_app HP7.out hown6 hgr6 hat6); clear hown6 hgr6 hat6)
                  go_roundw
                  case rel =>
                    have e1 := HY.out (by first | rfl | trivial)
                    refine ⟨some ⟨gg, 0, none⟩, cc8, a6, c6, k + 1, by rw [e1]; simp, by rw [e1, nx_snoc, HXE.out, HYE.out, List.length_append], by go_num, by omega, ?_⟩
                    rw [e1, nx_snoc, HXE.out, HYE.out]
                    exact HP6
                  case measure => simp [intOf]; omega
            · have hki : ¬ (k : Int) < (N.length : Int) := by omega
              have hkN : k = N.length := by omega
              subst hkN
              rw [List.take_length] at HP ⊢
              go_wp2
              go_meet
              exact ⟨aa, ac, xa, xc, rfl, rfl, HP⟩
        case rest =>
          obtain ⟨aa, ac, xa, xc, rfl, rfl, HP⟩ := hcut
          have HNX : Hid (NowR D W (t + 1) (nxL D (atL D s N))) := hide (by have := now_next HPK.out HNW.out ht; rw [HS9.out] at this; exact this)
          have HEN : Hid (W.length = t + 1 → ((atL D s N).any (fun z => decide (z ∈ laV D)) = true ↔ AcP D W)) := hide (fun e => by have := now_end HPK.out HNW.out e (by omega); rw [HS9.out] at this; exact this)
          have hAl := at_len (D := D) (s := s) N
          have HPN := hide (pw_next (len' := (nxL D (atL D s N)).length) HPW.out (by omega) (Nat.le_trans (nx_len (D := D) _) (Nat.mul_le_mul_left 40 hAl)))
          have HR9 := hide (por_go HR.out HP.out.be)
          obtain ⟨A, hA⟩ : ∃ A, atL D s N = A := ⟨_, rfl⟩
          rw [hA] at HP HNX HEN HPN hAl
          rw [hA]
          obtain ⟨X, hX⟩ : ∃ X, nxL D A = X := ⟨_, rfl⟩
          rw [hX] at HP HNX HPN
          rw [hX]
          clear hA hX HIN HNW HPW
          by_cases hte : W.length = t + 1
          · have hte1 : (((t : Int) + 1) == ((W.length : Nat) : Int)) = true := by rw [hte]; simp
            have HEQ := hide (HEN.out hte)
            go_wp2_with fail
            refine (i_lastOf D m ad c _ HR9.out.dm.1 HR9.out.dm.2.1 HR9.out.dm.2.2.2 (tzT_go HT.out HR9.out.be (Nat.le_refl _))).mono ?_
            rintro e w8 ⟨la, lc, rfl, hlo, hb8⟩
            have HP8 := hide (po_go HP.out hb8)
            have HLA := hide (own_rowAt9 hlo)
            have HB8 := hide (HR9.out.be.trans (hb8.mono HR9.out.be.size))
            have hll : (laV D).length ≤ 40 := laV_len
            obtain ⟨LL, hLL⟩ : ∃ LL, laV D = LL := ⟨_, rfl⟩
            rw [hLL] at HLA hll HEQ
            rw [hLL]
            have HRA := hide (own_rowAt9 HP8.out.at_)
            clear hlo hb8 hLL HP HR9 HNX HPN HEN HP8
            go_wp2_with fail
            go_loopw [12, 13] (fun v12 v13 wx => ∃ k : Nat, v12 = .bool ((A.take k).any (fun z => decide (z ∈ LL))) ∧ v13 = .int .i64 k ∧ k ≤ A.length ∧ Hid (wx = w8)) (fun _ v13 _ => A.length - (intOf v13).toNat)
            case atStart => exact ⟨0, rfl, rfl, Nat.zero_le _, hide rfl⟩
            case round =>
              obtain ⟨k, rfl, rfl, hk, hwx⟩ := hrel
              have hwx' := hwx.out
              subst hwx'
              clear hwx
              by_cases hlt : k < A.length
              · have hki : (k : Int) < (A.length : Int) := by omega
                have hk0 : (0 : Int) ≤ (k : Int) := by omega
                have HSN := hide (any_snoc (P := fun z => decide (z ∈ LL)) hlt)
                obtain ⟨ab, aoff, haa, hab, hac⟩ := rowAt_cell HRA.out k hlt
                have c1 := hac k hlt
                obtain ⟨z, hz⟩ : ∃ z, A[k]?.getD 0 = z := ⟨_, rfl⟩
                rw [hz] at c1 HSN
                subst haa
                have CH := hide (l_has la LL.length lc LL z _ rfl (by omega) HLA.out)
                obtain ⟨bv, hbv⟩ : ∃ bv, (A.take k).any (fun z => decide (z ∈ LL)) = bv := ⟨_, rfl⟩
                rw [hbv] at HSN
                rw [hbv]
                clear hac hz hbv
                cases bv
                · go_wp2_with fail
                  refine CH.out.mono ?_
                  rintro e w9 ⟨rfl, h9⟩
                  rw [h9]
                  clear h9
                  go_wp2
                  go_roundw
                  case rel => exact ⟨k + 1, by rw [HSN.out]; rfl, by go_num, by omega, (by first | exact hide rfl | exact hide trivial)⟩
                  case measure => simp [intOf]; omega
                · go_wp2
                  go_roundw
                  case rel => exact ⟨k + 1, by rw [HSN.out]; rfl, by go_num, by omega, (by first | exact hide rfl | exact hide trivial)⟩
                  case measure => simp [intOf]; omega
              · have hki : ¬ (k : Int) < (A.length : Int) := by omega
                have hkN : k = A.length := by omega
                subst hkN
                rw [List.take_length]
                have HF : Hid ((A.any (fun z => decide (z ∈ LL)) == B') = true) := hide (by
                  have h1 := HEQ.out
                  have h2 := HB.out
                  cases h3 : A.any (fun z => decide (z ∈ LL)) <;> cases h4 : B' <;> simp_all)
                go_wp2
                go_ret
                exact ⟨ret_bool HF.out, HB8.out⟩
          · have hte1 : (((t : Int) + 1) == ((W.length : Nat) : Int)) = false := by rw [beq_eq_false_iff_ne]; omega
            have HR10 : Hid (PoR w wc ad m D sa W xa X) := hide ⟨HR9.out.dm, HR9.out.tx, own_rowAt9 HP.out.nx, HR9.out.be⟩
            go_wp2
            go_roundw
            case rel => exact ⟨xa, xc, X, t + 1, rfl, by go_num, by omega, HNX, HPN, HR10⟩
            case measure => simp [intOf]; omega
end Go.Proofs.YtfohfljdgmlibaaDoor
