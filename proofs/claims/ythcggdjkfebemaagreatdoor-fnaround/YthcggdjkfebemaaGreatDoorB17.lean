/-
  Texts put together: PdS, BldF.
-/
import Derived.Test.YthcggdjkfebemaaGreatDoorB16
import Derived.Test.YthcggdjkfebemaaGreatDoorB11
/-
  Contract: an item and all below it as a text, by the specification.
-/
namespace Go.Proofs.YthcggdjkfebemaaGreatDoor
open Go.RowKit Go.Joins
set_option linter.unusedVariables false
set_option linter.unusedSimpArgs false
def prP (D : Dc) (i : Nat) (b : List UInt8) (e : Nat) : List UInt8 := if isE (D.NM i) = true then txP D i else itP D i b e
theorem prP_t {D : Dc} {i : Nat} {b : List UInt8} {e : Nat} (h : isE (D.NM i) = true) : prP D i b e = txP D i := by unfold prP; rw [if_pos h]
theorem prP_e {D : Dc} {i : Nat} {b : List UInt8} {e : Nat} (h : isE (D.NM i) = false) : prP D i b e = itP D i b e := by unfold prP; rw [if_neg (by rw [h]; decide)]
theorem ret_si {a a' : ByteArray} {b b' : Int} (h1 : a = a') (h2 : b = b') : Ending.returned (.tuple #[.string a, .int .i64 b]) = .returned (.tuple #[.string a', .int .i64 b']) := by rw [h1, h2]
theorem bl_app (a b : ByteArray) : (a ++ b).data.toList = a.data.toList ++ b.data.toList := by rw [ByteArray.data_append, Array.toList_append]
theorem drewP_below (w : World) (q : Nat) : Below w.heap.size w (w.drewN q) := drewN_below w q
set_option maxRecDepth 100000 in
set_option maxHeartbeats 8000000 in
theorem s_print (D : Dc) (n b0 off cap : Nat) (hD : D.n = n) (hn : n ≤ 200) (hac : ∀ j, j < n → D.AC j ≤ 10) (hsum : sumN (szD D) n ≤ 2500) :
    ∀ (k i : Nat), n - i ≤ k → i < n → ∀ (bb : List UInt8) (e : Nat), (isE (D.NM i) = true → e = i + 1) → (isE (D.NM i) = false → Kl D i (i + 1) bb e) → ∀ w : World, b0 < w.heap.size → DcRow w b0 off D w.heap.size →
    Calls Tryz.prog 23 #[.slice (some ⟨b0, off, none⟩) n cap, .int .i64 i] w fun r w' => r = .returned (.tuple #[.string ⟨(prP D i bb e).toArray⟩, .int .i64 e]) ∧ Below w.heap.size w w'
  | 0, i, hk, hi => by omega
  | k + 1, i, hk, hi => by
    intro bb e hT hK w hbs hr
    have IH := hide (s_print D n b0 off cap hD hn hac hsum k)
    have HD := hide hD
    have HR := hide hr
    have hsz : (D.NM i).size + (D.TX i).size + atsT (D.AC i) (D.AN i) (D.AV i) ≤ 2500 := by
      have h1 := sumN_at (szD D) hi
      have h2 : szD D i = (D.NM i).size + (D.TX i).size + atsT (D.AC i) (D.AN i) (D.AV i) := rfl
      omega
    obtain ⟨ad, cp, hc, hat, hcp⟩ := hr i (by rw [hD]; exact hi)
    obtain ⟨c0, c1, c2, c3⟩ := hc
    have hac2 := hac i hi
    have HAC := hide hac
    have HSUM := hide hsum
    have hin : (i : Int) < (n : Int) := by omega
    have HAT := hide hat
    clear hr hD hac hsum hat
    cases hE : (D.NM i).toList.isEmpty
    · have HP := hide (prP_e (D := D) (i := i) (b := bb) (e := e) hE)
      have KL := hK hE
      have HKL := hide KL
      have HLE := hide (kl_le KL)
      have hlen := kl_len (fun j hj => HAC.out j (by rw [← HD.out]; exact hj)) KL
      have hle := (kl_le KL).1
      have hen : e ≤ n := by rw [← HD.out]; exact (kl_le KL).2 (by rw [HD.out]; omega)
      have hwg := wg_sum D n
      have hwe := sumN_le (wgP D) hen
      have hsum := HSUM.out
      have hbl : bb.length ≤ 40000 := by omega
      clear hT hK KL hlen hwg hwe hsum
      go_enter Tryz.func23, Tryz.ntmps23
      go_wp2
      go_loopw [7, 8] (fun sv jv wr => ∃ (j : Nat) (t : ByteArray), j ≤ D.AC i ∧ jv = .int .i64 j ∧ sv = .string t ∧ Hid (t.data.toList = [60] ++ (D.NM i).data.toList ++ atsP (D.AN i) (D.AV i) j) ∧ Hid (ItAt wr w.heap.size (D.U i) (D.NM i) (D.TX i) ad (D.AC i) cp) ∧ Below w.heap.size w wr) (fun _ jv _ => D.AC i - (intOf jv).toNat)
      case atStart => exact ⟨0, _, Nat.zero_le _, rfl, rfl, hide (by simp [atsP, bl_app]), hide (itAt_new w _ _ _ _ _ _ _), (Below.refl _ _).alloc (Nat.le_refl _) _⟩
      case round =>
        obtain ⟨j, t, hj, rfl, rfl, HT, HI, hb⟩ := hrel
        obtain ⟨a0, a1, a2, a3⟩ := itAt_cells HI.out
        have HB := hide hb
        have htl : t.size ≤ 1 + (D.NM i).size + 4 * j + 6 * sumN (atSz (D.AN i) (D.AV i)) j := by
          have h1 := ats_len (D.AN i) (D.AV i) j
          have h2 := congrArg List.length HT.out
          simp only [List.length_append, List.length_cons, List.length_nil, bl] at h2
          omega
        have hts : t.size ≤ 20000 := by
          have h1 := sumN_le (atSz (D.AN i) (D.AV i)) hj
          unfold atsT at hsz
          omega
        clear htl
        by_cases hlt : j < D.AC i
        · obtain ⟨ab, ao, rfl, hab, hatc⟩ := HAT.out (by omega)
          obtain ⟨d1, d2⟩ := hatc j hlt
          have e1 := (hb.cell (p := ⟨ab, ao + j * 2, none⟩) hab).trans d1
          have e2 := (hb.cell (p := ⟨ab, ao + j * 2 + 1, none⟩) hab).trans d2
          have has := at_sz (N := D.AN i) (V := D.AV i) hlt
          have hel := escL_len true (D.AV i j).data.toList
          rw [bl] at hel
          have HN : Hid (atsP (D.AN i) (D.AV i) (j + 1) = atsP (D.AN i) (D.AV i) j ++ atP (D.AN i) (D.AV i) j) := hide rfl
          have HP2 : Hid (atP (D.AN i) (D.AV i) j = [32] ++ (D.AN i j).data.toList ++ [61, 34] ++ escL true (D.AV i j).data.toList ++ [34]) := hide rfl
          obtain ⟨E, hEs⟩ : ∃ E : ByteArray, (⟨(escL true (D.AV i j).data.toList).toArray⟩ : ByteArray) = E := ⟨_, rfl⟩
          have CE := hide (fun (w : World) => s_escL true (D.AV i j) w (by omega))
          rw [hEs] at CE
          have HE : Hid (E.data.toList = escL true (D.AV i j).data.toList) := hide (by rw [← hEs])
          have hE6 : E.size ≤ 15000 := by rw [← bl, HE.out]; omega
          obtain ⟨NJ, hNJ⟩ : ∃ NJ, D.AN i j = NJ := ⟨_, rfl⟩
          obtain ⟨VJ, hVJ⟩ : ∃ VJ, D.AV i j = VJ := ⟨_, rfl⟩
          rw [hNJ] at e1 has HP2
          rw [hVJ] at e2 has CE HE HP2
          have hji : (j : Int) < (D.AC i : Int) := by omega
          have s1 : ¬ 9223372036854775807 < t.size + 1 := by omega
          have s2 : ¬ 9223372036854775807 < t.size + 1 + NJ.size := by omega
          have s3 : ¬ 9223372036854775807 < t.size + 1 + NJ.size + 2 := by omega
          have s4 : ¬ 9223372036854775807 < t.size + 1 + NJ.size + 2 + E.size := by omega
          have s5 : ¬ 9223372036854775807 < t.size + 1 + NJ.size + 2 + E.size + 1 := by omega
          clear hatc d1 d2 hEs hel hNJ hVJ hb
          go_wp2
          go_quiet ((go_at_call 48; exact Calls.quiet_of_same (CE.out _)))
          go_wp2
          go_roundw
          case rel =>
            refine ⟨j + 1, _, by omega, by go_num, rfl, hide ?_, hide (itAt_go HI.out (drewN_below _ _)), HB.out.trans ((drewN_below _ _).mono HB.out.size)⟩
            rw [HN.out, HP2.out]
            simp only [bl_app, HT.out, HE.out]
            simp only [List.append_assoc]
          case measure => simp [intOf]; omega
        · have hja : j = D.AC i := by omega
          subst hja
          have HH : Hid (t.data.toList = hdP D i) := hide HT.out
          clear hb
          go_wp2
          go_loopw [9, 10] (fun av bv wx => ∃ (m : Nat) (t2 : ByteArray) (b2 : List UInt8), i + 1 ≤ m ∧ m ≤ n ∧ av = .int .i64 m ∧ bv = .string t2 ∧ Hid (bb = t2.data.toList ++ b2) ∧ Hid (Kl D i m b2 e) ∧ Hid (ItAt wx w.heap.size (D.U i) (D.NM i) (D.TX i) ad (D.AC i) cp) ∧ Below w.heap.size w wx) (fun av _ _ => n - (intOf av).toNat)
          case atStart => exact ⟨i + 1, ⟨#[]⟩, bb, Nat.le_refl _, by omega, by go_num, rfl, hide rfl, HKL, HI, HB.out⟩
          case round =>
            clear a0 a1 a2 a3
            obtain ⟨m, t2, b2, hm1, hm2, rfl, rfl, HBB, HK2, HI2, hb2⟩ := hrel
            obtain ⟨a0, a1, a2, a3⟩ := itAt_cells HI2.out
            have HB2 := hide hb2
            have ht2 : t2.size ≤ 40000 := by
              have h2 := congrArg List.length HBB.out
              simp only [List.length_append, bl] at h2
              omega
            by_cases hc : m < n ∧ D.U m = (i : Int)
            · obtain ⟨hmn, hum⟩ := hc
              obtain ⟨p, e1, b3, HBP, HK3, CI⟩ : ∃ (p : List UInt8) (e1 : Nat) (b3 : List UInt8), Hid (b2 = p ++ b3) ∧ Hid (Kl D i e1 b3 e) ∧ Hid (m + 1 ≤ e1 ∧ e1 ≤ n ∧ Calls Tryz.prog 23 #[.slice (some ⟨b0, off, none⟩) n cap, .int .i64 m] wr fun r w' => r = .returned (.tuple #[.string ⟨p.toArray⟩, .int .i64 e1]) ∧ Below wr.heap.size wr w') := by
                have hbw : b0 < wr.heap.size := Nat.lt_of_lt_of_le hbs hb2.size
                have hrw := dcRow_up (dcRow_go HR.out hbs hb2) hb2.size
                cases hT : isE (D.NM m)
                · obtain ⟨b1, e1, b3, q1, q2, q3⟩ := kl_elem HK2.out (by rw [HD.out]; exact hmn) hum hT
                  have hle := kl_le q2
                  rw [HD.out] at hle
                  have := IH.out m (by omega) hmn b1 e1 (fun h => by rw [hT] at h; cases h) (fun _ => q2) wr hbw hrw
                  rw [prP_e hT] at this
                  exact ⟨_, e1, b3, hide q1, hide q3, hide ⟨hle.1, hle.2 (by omega), this⟩⟩
                · obtain ⟨b3, q1, q3⟩ := kl_text HK2.out (by rw [HD.out]; exact hmn) hum hT
                  have := IH.out m (by omega) hmn [] (m + 1) (fun _ => rfl) (fun h => by rw [hT] at h; cases h) wr hbw hrw
                  rw [prP_t hT] at this
                  exact ⟨_, m + 1, b3, hide q1, hide q3, hide ⟨Nat.le_refl _, by omega, this⟩⟩
              obtain ⟨g1, g2, CI⟩ := CI.out
              have HCI := hide CI
              obtain ⟨P, hP⟩ : ∃ P : ByteArray, (⟨p.toArray⟩ : ByteArray) = P := ⟨_, rfl⟩
              have HPL : Hid (P.data.toList = p) := hide (by rw [← hP])
              rw [hP] at HCI
              have hps : t2.size + P.size ≤ 40000 := by
                have h2 := congrArg List.length HBB.out
                rw [HBP.out] at h2
                have h3 : P.size = p.length := by rw [← bl, HPL.out]
                simp only [List.length_append, bl] at h2
                omega
              have s1 : ¬ 9223372036854775807 < t2.size + P.size := by omega
              obtain ⟨adm, cpm, hcm, -⟩ := HR.out m (by rw [HD.out]; exact hmn)
              obtain ⟨m0, m1, m2, m3⟩ := dcCells_go hcm hbs hb2
              have hmi : (m : Int) < (n : Int) := by omega
              have hub : (D.U m == (i : Int)) = true := by simpa using hum
              clear hcm m1 m2 m3 hP CI hb2 hum
              go_wp2_with (first | (go_at_call 23; refine HCI.out.mono ?_; rintro r w3 ⟨rfl, hb3⟩; have HI3 := hide (itAt_go HI2.out hb3); have HB3 := hide (HB2.out.trans (hb3.mono HB2.out.size)); clear hb3))
              go_roundw
              case rel => exact ⟨e1, t2 ++ P, b3, by omega, by omega, by go_num, rfl, hide (by rw [bl_app, HPL.out, HBB.out, HBP.out, List.append_assoc]), HK3, HI3, HB3.out⟩
              case measure => simp [intOf]; omega
            · obtain ⟨hb20, hem⟩ := kl_stop HK2.out (by rw [HD.out]; exact hc)
              have HBB2 : Hid (bb = t2.data.toList) := hide (by rw [HBB.out, hb20, List.append_nil])
              have HV : Hid (prP D i bb e = if e = i + 1 then hdP D i ++ [47, 62] else hdP D i ++ [62] ++ bb ++ clP D i) := hide (by rw [HP.out]; rfl)
              have HCL : Hid (clP D i = [60, 47] ++ (D.NM i).data.toList ++ [62]) := hide rfl
              have hnm : (D.NM i).size ≤ 2500 := by omega
              obtain ⟨NI, hNI⟩ : ∃ NI, D.NM i = NI := ⟨_, rfl⟩
              rw [hNI] at a1 HCL hnm
              have s1 : ¬ 9223372036854775807 < t.size + 2 := by omega
              have s2 : ¬ 9223372036854775807 < t.size + 1 := by omega
              have s3 : ¬ 9223372036854775807 < t.size + 1 + t2.size := by omega
              have s4 : ¬ 9223372036854775807 < t.size + 1 + t2.size + 2 := by omega
              have s5 : ¬ 9223372036854775807 < t.size + 1 + t2.size + 2 + NI.size := by omega
              have s6 : ¬ 9223372036854775807 < t.size + 1 + t2.size + 2 + NI.size + 1 := by omega
              have HEM := hide hem
              clear hb20 hem hb2 hNI
              by_cases hmn : m < n
              · obtain ⟨adm, cpm, hcm, -⟩ := HR.out m (by rw [HD.out]; exact hmn)
                obtain ⟨m0, m1, m2, m3⟩ := dcCells_go hcm hbs HB2.out
                have hmi : (m : Int) < (n : Int) := by omega
                have hub : (D.U m == (i : Int)) = false := by simp only [beq_eq_false_iff_ne, ne_eq]; exact fun h => hc ⟨hmn, h⟩
                clear hcm m1 m2 m3 hc
                by_cases he1 : m = i + 1
                · have hq : ((m : Int) == (i : Int) + 1) = true := by simp; omega
                  have HE1 := hide he1
                  clear he1
                  go_wp2
                  go_ret2
                  refine ⟨ret_si (Go.WideShapes.bytes_inj ?_) (by rw [HEM.out]), HB2.out⟩
                  rw [HV.out, if_pos (by rw [HEM.out]; exact HE1.out)]
                  simp only [bl_app, HH.out]
                · have hq : ((m : Int) == (i : Int) + 1) = false := by simp; omega
                  have HE1 := hide he1
                  clear he1
                  go_wp2
                  go_ret2
                  refine ⟨ret_si (Go.WideShapes.bytes_inj ?_) (by rw [HEM.out]), HB2.out⟩
                  rw [HV.out, if_neg (by rw [HEM.out]; exact HE1.out)]
                  simp only [bl_app, HH.out, HBB2.out, HCL.out]
                  simp only [List.append_assoc, List.cons_append, List.nil_append]
              · have hmi : ¬ (m : Int) < (n : Int) := by omega
                clear hc
                by_cases he1 : m = i + 1
                · have hq : ((m : Int) == (i : Int) + 1) = true := by simp; omega
                  have HE1 := hide he1
                  clear he1
                  go_wp2
                  go_ret2
                  refine ⟨ret_si (Go.WideShapes.bytes_inj ?_) (by rw [HEM.out]), HB2.out⟩
                  rw [HV.out, if_pos (by rw [HEM.out]; exact HE1.out)]
                  simp only [bl_app, HH.out]
                · have hq : ((m : Int) == (i : Int) + 1) = false := by simp; omega
                  have HE1 := hide he1
                  clear he1
                  go_wp2
                  go_ret2
                  refine ⟨ret_si (Go.WideShapes.bytes_inj ?_) (by rw [HEM.out]), HB2.out⟩
                  rw [HV.out, if_neg (by rw [HEM.out]; exact HE1.out)]
                  simp only [bl_app, HH.out, HBB2.out, HCL.out]
                  simp only [List.append_assoc, List.cons_append, List.nil_append]
    · have HP := hide (prP_t (D := D) (i := i) (b := bb) (e := e) hE)
      have he := hT hE
      subst he
      have CE := hide (fun (w : World) => s_escL false (D.TX i) w (by omega))
      go_enter Tryz.func23, Tryz.ntmps23
      go_wp2_with (first | (go_at_call 48; refine (CE.out _).mono ?_; rintro r w3 ⟨rfl, rfl⟩))
      go_ret2
      exact ⟨ret_si (by rw [HP.out]; rfl) (by omega), (Below.refl _ _).alloc (Nat.le_refl _) _⟩
end Go.Proofs.YthcggdjkfebemaaGreatDoor

/-
  Contract: a text written to a builder that the call has made itself, and what stays as it was.
-/
namespace Go.Proofs.YthcggdjkfebemaaGreatDoor
open Go.RowKit
set_option linter.unusedVariables false
set_option linter.unusedSimpArgs false
/-- Blocks of other types stay. -/
def KeepT (w w' : World) : Prop := ∀ (G : Nat) (cs : Array Value) (T : TypeId), T ≠ 5 → T ≠ 38 → w.heap[G]? = some (.cells cs T (0, 0)) → w'.heap[G]? = some (.cells cs T (0, 0))
theorem keepT_refl (w : World) : KeepT w w := fun _ _ _ _ _ h => h
theorem keepT_trans {a b c : World} (h : KeepT a b) (k : KeepT b c) : KeepT a c := fun G cs T h1 h2 h3 => k G cs T h1 h2 (h G cs T h1 h2 h3)
theorem keepT_set {w : World} {b : Nat} {p v : Value} {i : Nat} (x : Value) (h : w.heap[b]? = some (.cells #[p, v] 38 (0, 0))) : KeepT w (w.setCell ⟨b, i, none⟩ x) := fun G cs T h1 h2 h3 => by
  have hne : b ≠ G := fun e => by
    rw [e, h3] at h
    simp only [Option.some.injEq, Obj.cells.injEq] at h
    exact h2 h.2.1
  simp [World.setCell, Array.getElem?_modify, hne, h3]
theorem keepT_grown {w w' : World} {B : Nat} {v : Value} {n : Nat} {xs : List Value} (ho : w.ownsRow B 5 1 v n xs) (hg : w.grownBy w' v.ownBlock) : KeepT w w' := fun G cs T h1 h2 h3 => by
  refine (hg.block G (Array.getElem?_eq_some_iff.1 h3).1 (fun e => ?_)).trans h3
  rcases ho.2 with ⟨rfl, -⟩ | ⟨g, cap, cur, rfl, -, hh, -⟩
  · cases e
  · simp only [Value.ownBlock, Option.some.injEq] at e
    subst e
    rw [hh] at h3
    simp only [Option.some.injEq, Obj.cells.injEq] at h3
    exact h1 h3.2.1.symm
theorem bd_check2 (B b : Nat) (bs : List Value) (w : World) (h : Lib.IsBuilder 38 5 B b bs w) :
    Calls Tryz.prog 42 #[.pointer (some ⟨b, 0, none⟩)] w fun e w' => e = .returned (.tuple #[]) ∧ Lib.BuilderAt 38 5 B b (.pointer (some ⟨b, 0, none⟩)) bs w' ∧ Below B w w' ∧ KeepT w w' := by
  rcases h with h | h
  · refine (bd_fresh b w h.cell0 h.shape h.frozen0).mono ?_
    rintro e w' ⟨rfl, rfl⟩
    obtain ⟨hB, v, hbk, -⟩ := id h
    exact ⟨rfl, h.used _, (Below.refl B w).setCell (p := ⟨b, 0, none⟩) h.1 _, keepT_set _ hbk⟩
  · refine (bd_used b w h.cell0).mono ?_
    rintro e w' ⟨rfl, rfl⟩
    exact ⟨rfl, h, Below.refl B _, keepT_refl _⟩
set_option maxHeartbeats 2000000 in
set_option maxRecDepth 100000 in
theorem bd_strF (B b : Nat) (bs : List Value) (s : ByteArray) (w : World) (h : Lib.IsBuilder 38 5 B b bs w) (hlen : bs.length + s.size ≤ 1048576) (hBw : B ≤ w.heap.size) :
    Calls Tryz.prog 17 #[.pointer (some ⟨b, 0, none⟩), .string s] w fun e w' => e = .returned (.tuple #[.int .i64 s.size, .nilIface]) ∧ Lib.IsBuilder 38 5 B b (bs ++ Lib.strCells s) w' ∧ Below B w w' ∧ KeepT w w' := by
  obtain ⟨i0, hi, hz0, hz1, hz2⟩ := info_parts bdByte
  go_enter Tryz.func17, Tryz.ntmps17
  go_wp2_with fail
  refine (bd_check2 B b bs _ h).mono ?_
  rintro e w1 ⟨rfl, h1, hb1, hk1⟩
  obtain ⟨hB, v, hbk, hown, hne⟩ := h1
  have c0 : w1.cell? ⟨b, 0, none⟩ = some (.pointer (some ⟨b, 0, none⟩)) := by rw [Lib.cell_of_heap hbk]; rfl
  have c1 : w1.cell? ⟨b, 1, none⟩ = some v := by rw [Lib.cell_of_heap hbk]; rfl
  have hsz := hb1.size
  have hlt : b < w1.heap.size := (Array.getElem?_eq_some_iff.1 hbk).1
  have HK1 := hide hk1
  clear hk1
  go_wp2_with (at_builtin; refine Lib.wpList_append_own_string _ rfl (.tmp 12) (.tmp 13) 22 9 rfl B 5 i0 Tryz.underlying22 Tryz.underlying9 hi hz0 hz1 hz2 _ _ _ rfl hown s rfl (by unfold maxLen; omega) (by omega) (by omega) ?_; intro v' w2 hown' hgrow _; have hb2 : w2.heap[b]? = some (.cells #[.pointer (some ⟨b, 0, none⟩), v] 38 (0, 0)) := (hgrow.block b (by omega) (fun e => hne e.symm)).trans hbk; have d0 : w2.cell? ⟨b, 0, none⟩ = some (.pointer (some ⟨b, 0, none⟩)) := (by rw [Lib.cell_of_heap hb2]; rfl); have d1 : w2.cell? ⟨b, 1, none⟩ = some v := (by rw [Lib.cell_of_heap hb2]; rfl); have f1 : w2.frozen? ⟨b, 1, none⟩ = false := Lib.frozen_of_heap hb2 1; obtain ⟨ad9, c9, hv9⟩ := bd_shape hown'; rw [hv9] at hown' ⊢; clear hv9)
  go_ret2
  refine ⟨rfl, .inr ?_, ?_, ?_⟩
  · exact Lib.BuilderAt.put (T := 38) (e := 5) hB hb2 (bs' := bs ++ Lib.strCells s) (by simpa [Lib.strCells_length] using hown') (by decide)
  · exact (hb1.grown hgrow (by omega) (fun k hk => (hown.lt k hk).1)).setCell (p := ⟨b, 1, none⟩) hB _
  · exact keepT_trans HK1.out (keepT_trans (keepT_grown hown hgrow) (keepT_set _ hb2))
end Go.Proofs.YthcggdjkfebemaaGreatDoor
