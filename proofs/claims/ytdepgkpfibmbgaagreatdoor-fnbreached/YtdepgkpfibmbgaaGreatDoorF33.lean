/-
  Texts put together: FoS, FoT.
-/
import Derived.Test.YtdepgkpfibmbgaaGreatDoorF29
import Derived.Test.YtdepgkpfibmbgaaGreatDoorF18
import Derived.Test.YtdepgkpfibmbgaaGreatDoorF23
import Derived.Test.YtdepgkpfibmbgaaGreatDoorF31
import Derived.Test.YtdepgkpfibmbgaaGreatDoorF32
/-
  Contract of the specification: what a field says of an element.
-/
namespace Go.Proofs.YtdepgkpfibmbgaaGreatDoor
open Go.RowKit Go.Joins
set_option linter.unusedVariables false
set_option linter.unusedSimpArgs false
theorem intR_at {B : Nat} {w : World} {ad : Option Addr} {c : Nat} {L : List Int} (h : IntR B w ad c L) (j : Nat) (hj : j < L.length) : ∃ g, ad = some ⟨g, 0, none⟩ ∧ g < w.heap.size ∧ w.cell? ⟨g, j, none⟩ = some (.int .i64 (L[j]?.getD 0)) := by
  have h2 := h
  rcases h.2 with ⟨e, h0⟩ | ⟨g, cap, cur, e, -⟩
  · omega
  · simp only [Value.slice.injEq] at e
    obtain ⟨rfl, -⟩ := e
    exact ⟨g, rfl, intR_lt h2, intR_cells h2 j hj⟩
theorem av_small {D : Dc} (h : docokB D = true) {p j : Nat} (hp : p < D.n) (hj : j < D.AC p) : (D.AV p j).size ≤ 1048576 := by
  have h1 := (docok_facts h).2.2
  have h2 := sumN_at (szD D) hp
  have h3 := sumN_at (atSz (D.AN p) (D.AV p)) hj
  have h4 : szD D p = (D.NM p).size + (D.TX p).size + sumN (atSz (D.AN p) (D.AV p)) (D.AC p) := rfl
  have h5 : atSz (D.AN p) (D.AV p) j = (D.AN p j).size + (D.AV p j).size := rfl
  omega
theorem own_one9 (w : World) (x : Int) : IntR w.heap.size (w.alloc (.cells #[.int .i64 x] 2)) (some ⟨w.heap.size, 0, none⟩) 1 [x] :=
  ⟨rfl, .inr ⟨w.heap.size, 1, #[.int .i64 x], rfl, Nat.le_refl _, heap_alloc_new w _, Nat.le_refl _, by unfold maxLen; omega, rfl, rfl⟩⟩
set_option maxRecDepth 100000 in
set_option maxHeartbeats 8000000 in
theorem s_value (D : Dc) (n b off cap x : Nat) (s : ByteArray) (q : List (List UInt8) × List UInt8) (w : World) (hD : D.n = n) (hdk : docokB D = true) (hx : x < n) (hs : s.size ≤ 1048576) (hq : fld s.data.toList = some q) (hbs : b < w.heap.size) (hr : DcRow w b off D w.heap.size) :
    Calls Tryz.prog 54 #[.slice (some ⟨b, off, none⟩) n cap, .int .i64 x, .string s] w fun e w' => e = .returned (.tuple #[.string (foA (vlL D ⟨q.2.toArray⟩ (srtL (sel D (st D x n false) q.1)))).1, .int .i64 (foA (vlL D ⟨q.2.toArray⟩ (srtL (sel D (st D x n false) q.1)))).2]) ∧ Below w.heap.size w w' := by
  have HD := hide hD
  have HDK := hide hdk
  have HRW := hide hr
  have hn : n ≤ 200 := by rw [← hD]; exact (docok_facts hdk).1.2
  have hpl := pl_facts hD hn hx q.1
  have HL2 := hide hpl.1
  have HL3 := hide hpl.2
  have HSUM : Hid (sumN (szD D) n ≤ 2500) := hide (by rw [← hD]; exact (docok_facts hdk).2.2)
  have HDEC : Hid (∀ j, j < n → D.U j < j) := hide (fun j hj => (docok_dec hdk j (by omega)).2)
  have HG : Hid (Good D n) := hide (by rw [← hD]; exact docok_good hdk)
  have HAV : Hid (∀ p j, p < n → j < D.AC p → (D.AV p j).size ≤ 1048576) := hide (fun p j hp hj => av_small hdk (by omega) hj)
  have HQ := hide hq
  have C := hide (s_field s w hs)
  obtain ⟨A, hA⟩ : ∃ A : ByteArray, (⟨q.2.toArray⟩ : ByteArray) = A := ⟨_, rfl⟩
  have HA := hide hA
  obtain ⟨L, hL⟩ : ∃ L, srtL (sel D (st D x n false) q.1) = L := ⟨_, rfl⟩
  rw [hL] at HL2 HL3 ⊢
  rw [hA]
  have HLE := hide hL
  have HVL : Hid (∀ k, (vlL D A (L.take k)).length ≤ 2000) := hide (fun k => by
    have h9 := vl_len (D := D) (A := A) (fun p hp => (att_facts HDK.out hp).1) (L.take k) (fun j hj => HL3.out j (List.mem_of_mem_take hj))
    have h8 := HL2.out
    rw [List.length_take] at h9
    omega)
  clear hr hdk hq hpl hA hL hD
  go_enter Tryz.func54, Tryz.ntmps54
  go_wp2_with fail
  refine C.out.mono ?_
  rintro e w2 ⟨hb2, U, A2, rfl, hx2⟩
  obtain ⟨hA2, hU, hU2⟩ := hx2 q HQ.out
  have hAA : A = A2 := by
    rw [← HA.out, ← hA2]
  subst hAA
  have HB2 := hide hb2
  clear hb2 hx2 hA2 C
  rcases hU2 with ⟨hq1, hU0⟩ | ⟨hpf, hsg⟩
  · have hU1 : U.toList = [] := by
      rw [ByteArray.toList_eq]
      have : U.data.toList.length = 0 := by simpa using hU0
      exact List.eq_nil_of_length_eq_zero this
    have hU3 : U.toList.isEmpty = true := by rw [hU1]; rfl
    have hLx : L = [(x : Int)] := by rw [← HLE.out, hq1, sel_nil, st_no, srt_one]
    have HI : Hid (IntR w2.heap.size (w2.alloc (.cells #[.int .i64 x] 2)) (some ⟨w2.heap.size, 0, none⟩) 1 L) := hide (by rw [hLx]; exact own_one9 w2 x)
    have HLL : Hid (L.length = 1) := hide (by rw [hLx]; rfl)
    have HB3 := hide (HB2.out.alloc HB2.out.size (.cells #[.int .i64 x] 2))
    obtain ⟨w3, hw3⟩ : ∃ w3, w2.alloc (.cells #[.int .i64 x] 2) = w3 := ⟨_, rfl⟩
    rw [hw3] at HI HB3
    have HW3 := hide hw3
    clear hw3 hq1 hU0 hLx
    cases hae : A.toList.isEmpty
    · have HAE := hide hae
      have hane : A.toList ≠ [] := by simpa using hae
      go_wp2
      rw [HW3.out]
      obtain ⟨g, hgd⟩ : ∃ g, w2.heap.size = g := ⟨_, rfl⟩
      rw [hgd] at HI ⊢
      clear HW3 hgd
      go_loopw [12, 13, 14] (fun vv mv iv wr => ∃ (k : Nat) (V : ByteArray) (M : Nat), k ≤ 1 ∧ iv = .int .i64 k ∧ vv = .string V ∧ mv = .int .i64 M ∧ M ≤ 2000 ∧ Hid (M = (vlL D A (L.take k)).length) ∧ Hid (V = lstW (vlL D A (L.take k))) ∧ Hid (Below w3.heap.size w3 wr)) (fun _ _ iv _ => 1 - (intOf iv).toNat)
      case atStart => exact ⟨0, ⟨#[]⟩, 0, Nat.zero_le _, rfl, rfl, rfl, by omega, rfl, rfl, Below.refl _ _⟩
      case round =>
        obtain ⟨k, V, M, hk, rfl, rfl, rfl, hM, HM, HV, HB⟩ := hrel
        by_cases hlt : k < 1
        · have hki : (k : Int) < 1 := by omega
          have hkL : k < L.length := by rw [HLL.out]; exact hlt
          obtain ⟨g5, hg, hgl, hc⟩ := intR_at HI.out k hkL
          have hg5 : g = g5 := by simpa using hg
          subst hg5
          have c0 := (HB.out.cell (p := ⟨g, k, none⟩) hgl).trans hc
          obtain ⟨hp0, hp1⟩ := HL3.out _ (List.getElem_mem hkL)
          have HTK := hide (vl_take (D := D) (A := A) hkL)
          have hpe : L[k]?.getD 0 = L[k] := by rw [List.getElem?_eq_getElem hkL]; rfl
          rw [← hpe] at hp0 hp1
          obtain ⟨p, hp⟩ : ∃ p, L[k]?.getD 0 = p := ⟨_, rfl⟩
          rw [hp] at c0 hp0 hp1 HTK
          have HBw := hide (HB3.out.trans (HB.out.mono HB3.out.size))
          have hpn : p.toNat < n := by rw [← HD.out]; omega
          have hpi : p < (n : Int) := by rw [← HD.out]; exact hp1
          have hbw : b < wr.heap.size := Nat.lt_of_lt_of_le hbs HBw.out.size
          have hgw : g < wr.heap.size := Nat.lt_of_lt_of_le hgl HB.out.size
          clear hc hp hpe hp1 hkL
          have HVA : Hid (vlA D A p.toNat = mtA D p.toNat A (D.AC p.toNat)) := hide (by unfold vlA; rw [if_neg (by rw [HAE.out]; decide)])
          rw [HVA.out] at HTK
          obtain ⟨ad4, cp4, hc4, hat4, -⟩ := HRW.out p.toNat (by rw [HD.out]; exact hpn)
          obtain ⟨ac, hac⟩ : ∃ ac, D.AC p.toNat = ac := ⟨_, rfl⟩
          have HAC := hide hac
          have hac10 : ac ≤ 10 := by rw [← hac]; exact (att_facts HDK.out (by rw [HD.out]; exact hpn)).1
          have HC4 := hide hc4
          have HAT4 := hide hat4
          rw [hac] at HTK HAT4
          clear hac hc4 hat4
          go_wp2
          go_loopw [12, 13, 15] (fun vv mv jv wr2 => ∃ (j : Nat) (V2 : ByteArray) (M2 : Nat), j ≤ ac ∧ jv = .int .i64 j ∧ vv = .string V2 ∧ mv = .int .i64 M2 ∧ M2 ≤ M + j ∧ Hid (M2 = (vlL D A (L.take k) ++ mtA D p.toNat A j).length) ∧ Hid (V2 = lstW (vlL D A (L.take k) ++ mtA D p.toNat A j)) ∧ Hid (Below wr.heap.size wr wr2)) (fun _ _ jv _ => ac - (intOf jv).toNat)
          case atStart => exact ⟨0, V, M, Nat.zero_le _, rfl, rfl, rfl, by omega, hide (by rw [HM.out]; simp [mtA]), hide (by rw [HV.out]; simp [mtA]), Below.refl _ _⟩
          case round =>
            obtain ⟨j, V2, M2, hj, rfl, rfl, rfl, hM2, HM2, HV2, HB4⟩ := hrel
            have d0 := (HB4.out.cell (p := ⟨g, k, none⟩) hgw).trans c0
            have HBW4 := hide (HBw.out.trans (HB4.out.mono HBw.out.size))
            obtain ⟨-, -, -, e3⟩ := dcCells_go HC4.out hbs HBW4.out
            rw [HAC.out] at e3
            by_cases hjl : j < ac
            · have hji : (j : Int) < ac := by omega
              obtain ⟨b6, off6, hb6e, hb6, hat6⟩ := HAT4.out (by omega)
              obtain ⟨f0, f1⟩ := hat6 j hjl
              have g0 := (HBW4.out.cell (p := ⟨b6, off6 + j * 2, none⟩) hb6).trans f0
              have g1 := (HBW4.out.cell (p := ⟨b6, off6 + j * 2 + 1, none⟩) hb6).trans f1
              rw [hb6e] at e3
              have hav := HAV.out p.toNat j hpn (by rw [HAC.out]; exact hjl)
              obtain ⟨N9, hN9⟩ : ∃ N9, D.AN p.toNat j = N9 := ⟨_, rfl⟩
              obtain ⟨V9, hV9⟩ : ∃ V9, D.AV p.toNat j = V9 := ⟨_, rfl⟩
              rw [hN9] at g0
              rw [hV9] at g1 hav
              have HN9 := hide hN9
              have HV9 := hide hV9
              clear hN9 hV9 f0 f1 hat6 hb6e
              cases hq : (N9.toList == A.toList)
              · have HE := hide (mt_no (D := D) (p := p.toNat) (k := j) (A := A) (by rw [HN9.out]; exact hq))
                go_wp2
                go_roundw
                case rel => exact ⟨j + 1, V2, M2, by omega, by go_num, rfl, rfl, by omega, hide (by rw [HE.out]; exact HM2.out), hide (by rw [HE.out]; exact HV2.out), HB4⟩
                case measure => simp [intOf]; omega
              · have HE := hide (mt_yes (D := D) (p := p.toNat) (k := j) (A := A) (by rw [HN9.out]; exact hq))
                have CW := hide (fun w9 => s_white V9 2 w9 hav)
                have HV3 : Hid (whB V9 2 = lstW (vlL D A (L.take k) ++ mtA D p.toNat A (j + 1))) := hide (by rw [HE.out, ← List.append_assoc, lst_app, HV9.out])
                have HM3 : Hid (M2 + 1 = (vlL D A (L.take k) ++ mtA D p.toNat A (j + 1)).length) := hide (by rw [HE.out, ← List.append_assoc, List.length_append, ← HM2.out]; rfl)
                go_wp2_with (go_at_call 84; refine (CW.out _).mono ?_; rintro e w6 ⟨rfl, hb6⟩; have HB6 := hide (HB4.out.trans (hb6.mono HB4.out.size)); clear hb6)
                go_roundw
                case rel => exact ⟨j + 1, _, M2 + 1, by omega, by go_num, rfl, by go_num, by omega, HM3, HV3, HB6⟩
                case measure => simp [intOf]; omega
            · have hje : j = ac := by omega
              have HM3 : Hid (M2 = (vlL D A (L.take (k + 1))).length) := hide (by rw [HTK.out, ← hje]; exact HM2.out)
              have HV3 : Hid (V2 = lstW (vlL D A (L.take (k + 1)))) := hide (by rw [HTK.out, ← hje]; exact HV2.out)
              have hM3 : M2 ≤ 2000 := by have h9 := HM3.out; have h8 := HVL.out (k + 1); omega
              have HB5 := hide (HB.out.trans (HB4.out.mono HB.out.size))
              go_wp2
              go_roundw
              case rel => exact ⟨k + 1, V2, M2, by omega, by go_num, rfl, rfl, hM3, HM3, HV3, HB5⟩
              case measure => simp [intOf]; omega
        · have hkl : k = 1 := by omega
          have HF : Hid (foA (vlL D A L) = if M = 1 then (V, 1) else (⟨#[]⟩, (M : Int))) := hide (by
            have h1 := HM.out
            have h2 := HV.out
            rw [hkl, ← HLL.out, List.take_length] at h1 h2
            unfold foA
            rw [← h1, ← h2])
          have HBF := hide (HB3.out.trans (HB.out.mono HB3.out.size))
          clear hkl
          by_cases hm1 : M = 1
          · have hmb : ((M : Int) != 1) = false := by rw [hm1]; rfl
            rw [if_pos hm1] at HF
            clear hm1
            go_wp2
            go_ret2
            exact ⟨by rw [HF.out]; rfl, HBF.out⟩
          · have hmb : ((M : Int) != 1) = true := by rw [bne_iff_ne]; omega
            rw [if_neg hm1] at HF
            clear hm1
            go_wp2
            go_ret2
            exact ⟨by rw [HF.out]; rfl, HBF.out⟩
    · have HAE := hide hae
      have hane : A.toList = [] := by simpa using hae
      go_wp2
      rw [HW3.out]
      obtain ⟨g, hgd⟩ : ∃ g, w2.heap.size = g := ⟨_, rfl⟩
      rw [hgd] at HI ⊢
      clear HW3 hgd
      go_loopw [12, 13, 14] (fun vv mv iv wr => ∃ (k : Nat) (V : ByteArray) (M : Nat), k ≤ 1 ∧ iv = .int .i64 k ∧ vv = .string V ∧ mv = .int .i64 M ∧ M ≤ 2000 ∧ Hid (M = (vlL D A (L.take k)).length) ∧ Hid (V = lstW (vlL D A (L.take k))) ∧ Hid (Below w3.heap.size w3 wr)) (fun _ _ iv _ => 1 - (intOf iv).toNat)
      case atStart => exact ⟨0, ⟨#[]⟩, 0, Nat.zero_le _, rfl, rfl, rfl, by omega, rfl, rfl, Below.refl _ _⟩
      case round =>
        obtain ⟨k, V, M, hk, rfl, rfl, rfl, hM, HM, HV, HB⟩ := hrel
        by_cases hlt : k < 1
        · have hki : (k : Int) < 1 := by omega
          have hkL : k < L.length := by rw [HLL.out]; exact hlt
          obtain ⟨g5, hg, hgl, hc⟩ := intR_at HI.out k hkL
          have hg5 : g = g5 := by simpa using hg
          subst hg5
          have c0 := (HB.out.cell (p := ⟨g, k, none⟩) hgl).trans hc
          obtain ⟨hp0, hp1⟩ := HL3.out _ (List.getElem_mem hkL)
          have HTK := hide (vl_take (D := D) (A := A) hkL)
          have hpe : L[k]?.getD 0 = L[k] := by rw [List.getElem?_eq_getElem hkL]; rfl
          rw [← hpe] at hp0 hp1
          obtain ⟨p, hp⟩ : ∃ p, L[k]?.getD 0 = p := ⟨_, rfl⟩
          rw [hp] at c0 hp0 hp1 HTK
          have HBw := hide (HB3.out.trans (HB.out.mono HB3.out.size))
          have hpn : p.toNat < n := by rw [← HD.out]; omega
          have hpi : p < (n : Int) := by rw [← HD.out]; exact hp1
          have hbw : b < wr.heap.size := Nat.lt_of_lt_of_le hbs HBw.out.size
          have hgw : g < wr.heap.size := Nat.lt_of_lt_of_le hgl HB.out.size
          clear hc hp hpe hp1 hkL
          have HVA : Hid (vlA D A p.toNat = [txF D p.toNat n]) := hide (by unfold vlA; rw [if_pos HAE.out, HD.out])
          rw [HVA.out] at HTK
          have hpc : (p.toNat : Int) = p := by omega
          have CT : Hid (Calls Tryz.prog 85 #[.slice (some ⟨b, off, none⟩) n cap, .int .i64 p] wr fun e w' => e = .returned (.string (txF D p.toNat n)) ∧ Below wr.heap.size wr w') := hide (by
            have h9 := s_text2 D n b off cap wr p.toNat HD.out hn hpn hbw (dcRow_up (dcRow_go HRW.out hbs HBw.out) HBw.out.size) HDEC.out HSUM.out
            rw [hpc] at h9 ⊢
            exact h9)
          have hts : (txF D p.toNat n).size ≤ 1048576 := by have := txF_size D p.toNat n; have := HSUM.out; omega
          obtain ⟨T, hT⟩ : ∃ T, txF D p.toNat n = T := ⟨_, rfl⟩
          rw [hT] at CT hts HTK
          have CW := hide (fun w9 => s_white T 2 w9 hts)
          have HV2 : Hid (whB T 2 = lstW (vlL D A (L.take (k + 1)))) := hide (by rw [HTK.out, lst_app])
          have HM2 : Hid (M + 1 = (vlL D A (L.take (k + 1))).length) := hide (by rw [HTK.out, List.length_append, ← HM.out]; rfl)
          have hM2 : M + 1 ≤ 2000 := by have h9 := HM2.out; have h8 := HVL.out (k + 1); omega
          clear hT hpc
          go_wp2_with (first | (go_at_call 85; refine CT.out.mono ?_; rintro e w5 ⟨rfl, hb5⟩; have HB5 := hide (HB.out.trans (hb5.mono HB.out.size)); clear hb5) | (go_at_call 84; refine (CW.out _).mono ?_; rintro e w6 ⟨rfl, hb6⟩; have HB6 := hide (HB5.out.trans (hb6.mono HB5.out.size)); clear hb6))
          go_roundw
          case rel => exact ⟨k + 1, _, M + 1, by omega, by go_num, rfl, by go_num, hM2, HM2, HV2, HB6⟩
          case measure => simp [intOf]; omega
        · have hkl : k = 1 := by omega
          have HF : Hid (foA (vlL D A L) = if M = 1 then (V, 1) else (⟨#[]⟩, (M : Int))) := hide (by
            have h1 := HM.out
            have h2 := HV.out
            rw [hkl, ← HLL.out, List.take_length] at h1 h2
            unfold foA
            rw [← h1, ← h2])
          have HBF := hide (HB3.out.trans (HB.out.mono HB3.out.size))
          clear hkl
          by_cases hm1 : M = 1
          · have hmb : ((M : Int) != 1) = false := by rw [hm1]; rfl
            rw [if_pos hm1] at HF
            clear hm1
            go_wp2
            go_ret2
            exact ⟨by rw [HF.out]; rfl, HBF.out⟩
          · have hmb : ((M : Int) != 1) = true := by rw [bne_iff_ne]; omega
            rw [if_neg hm1] at HF
            clear hm1
            go_wp2
            go_ret2
            exact ⟨by rw [HF.out]; rfl, HBF.out⟩
  · have hU1 : U.toList ≠ [] := by
      rw [ByteArray.toList_eq]
      intro e
      rw [e] at hpf
      exact absurd hpf (by decide)
    have hU3 : U.toList.isEmpty = false := by simpa using hU1
    obtain ⟨hpd, hpr⟩ := pathF_shallow hpf
    have hrt : routeB U = true := by have h9 := pathF_route U; rw [hpf, Bool.and_eq_true] at h9; exact h9.1
    have CS : Hid (∀ w4, Below w.heap.size w w4 → Calls Tryz.prog 53 #[.slice (some ⟨b, off, none⟩) n cap, .int .i64 x, .string U] w4 fun e w' => ∃ ad2 c2, e = .returned (.slice ad2 L.length c2) ∧ IntR w4.heap.size w' ad2 c2 L ∧ Below w4.heap.size w4 w') := hide (fun w4 h4 => by
      have h := s_l11select D n b off cap w4 x U HD.out hn hx (Nat.lt_of_lt_of_le hbs h4.size) (dcRow_up (dcRow_go HRW.out hbs h4) h4.size) HG.out (by omega) hrt
      rw [hpd, hpr, hsg, HLE.out] at h
      exact h)
    obtain ⟨l, hl⟩ : ∃ l, L.length = l := ⟨_, rfl⟩
    rw [hl] at CS
    have HLL := hide hl
    have hl200 : l ≤ 200 := by rw [← hl]; exact HL2.out
    clear hl hpf hsg hpd hpr hrt
    cases hae : A.toList.isEmpty
    · have HAE := hide hae
      have hane : A.toList ≠ [] := by simpa using hae
      go_wp2_with (go_at_call 53; refine (CS.out _ (HB2.out.alloc HB2.out.size _)).mono ?_; rintro e w3 ⟨ad3, c3, rfl, hi3, hb3⟩; have HI := hide hi3; have HB3 := hide ((HB2.out.alloc HB2.out.size _).trans (hb3.mono (HB2.out.alloc HB2.out.size _).size)); clear hi3 hb3)
      go_loopw [12, 13, 14] (fun vv mv iv wr => ∃ (k : Nat) (V : ByteArray) (M : Nat), k ≤ l ∧ iv = .int .i64 k ∧ vv = .string V ∧ mv = .int .i64 M ∧ M ≤ 2000 ∧ Hid (M = (vlL D A (L.take k)).length) ∧ Hid (V = lstW (vlL D A (L.take k))) ∧ Hid (Below w3.heap.size w3 wr)) (fun _ _ iv _ => l - (intOf iv).toNat)
      case atStart => exact ⟨0, ⟨#[]⟩, 0, Nat.zero_le _, rfl, rfl, rfl, by omega, rfl, rfl, Below.refl _ _⟩
      case round =>
        obtain ⟨k, V, M, hk, rfl, rfl, rfl, hM, HM, HV, HB⟩ := hrel
        by_cases hlt : k < l
        · have hki : (k : Int) < l := by omega
          have hkL : k < L.length := by rw [HLL.out]; exact hlt
          obtain ⟨g, hg, hgl, hc⟩ := intR_at HI.out k hkL
          have c0 := (HB.out.cell (p := ⟨g, k, none⟩) hgl).trans hc
          obtain ⟨hp0, hp1⟩ := HL3.out _ (List.getElem_mem hkL)
          have HTK := hide (vl_take (D := D) (A := A) hkL)
          have hpe : L[k]?.getD 0 = L[k] := by rw [List.getElem?_eq_getElem hkL]; rfl
          rw [← hpe] at hp0 hp1
          obtain ⟨p, hp⟩ : ∃ p, L[k]?.getD 0 = p := ⟨_, rfl⟩
          rw [hp] at c0 hp0 hp1 HTK
          subst hg
          have HBw := hide (HB3.out.trans (HB.out.mono HB3.out.size))
          have hpn : p.toNat < n := by rw [← HD.out]; omega
          have hpi : p < (n : Int) := by rw [← HD.out]; exact hp1
          have hbw : b < wr.heap.size := Nat.lt_of_lt_of_le hbs HBw.out.size
          have hgw : g < wr.heap.size := Nat.lt_of_lt_of_le hgl HB.out.size
          clear hc hp hpe hp1 hkL
          have HVA : Hid (vlA D A p.toNat = mtA D p.toNat A (D.AC p.toNat)) := hide (by unfold vlA; rw [if_neg (by rw [HAE.out]; decide)])
          rw [HVA.out] at HTK
          obtain ⟨ad4, cp4, hc4, hat4, -⟩ := HRW.out p.toNat (by rw [HD.out]; exact hpn)
          obtain ⟨ac, hac⟩ : ∃ ac, D.AC p.toNat = ac := ⟨_, rfl⟩
          have HAC := hide hac
          have hac10 : ac ≤ 10 := by rw [← hac]; exact (att_facts HDK.out (by rw [HD.out]; exact hpn)).1
          have HC4 := hide hc4
          have HAT4 := hide hat4
          rw [hac] at HTK HAT4
          clear hac hc4 hat4
          go_wp2
          go_loopw [12, 13, 15] (fun vv mv jv wr2 => ∃ (j : Nat) (V2 : ByteArray) (M2 : Nat), j ≤ ac ∧ jv = .int .i64 j ∧ vv = .string V2 ∧ mv = .int .i64 M2 ∧ M2 ≤ M + j ∧ Hid (M2 = (vlL D A (L.take k) ++ mtA D p.toNat A j).length) ∧ Hid (V2 = lstW (vlL D A (L.take k) ++ mtA D p.toNat A j)) ∧ Hid (Below wr.heap.size wr wr2)) (fun _ _ jv _ => ac - (intOf jv).toNat)
          case atStart => exact ⟨0, V, M, Nat.zero_le _, rfl, rfl, rfl, by omega, hide (by rw [HM.out]; simp [mtA]), hide (by rw [HV.out]; simp [mtA]), Below.refl _ _⟩
          case round =>
            obtain ⟨j, V2, M2, hj, rfl, rfl, rfl, hM2, HM2, HV2, HB4⟩ := hrel
            have d0 := (HB4.out.cell (p := ⟨g, k, none⟩) hgw).trans c0
            have HBW4 := hide (HBw.out.trans (HB4.out.mono HBw.out.size))
            obtain ⟨-, -, -, e3⟩ := dcCells_go HC4.out hbs HBW4.out
            rw [HAC.out] at e3
            by_cases hjl : j < ac
            · have hji : (j : Int) < ac := by omega
              obtain ⟨b6, off6, hb6e, hb6, hat6⟩ := HAT4.out (by omega)
              obtain ⟨f0, f1⟩ := hat6 j hjl
              have g0 := (HBW4.out.cell (p := ⟨b6, off6 + j * 2, none⟩) hb6).trans f0
              have g1 := (HBW4.out.cell (p := ⟨b6, off6 + j * 2 + 1, none⟩) hb6).trans f1
              rw [hb6e] at e3
              have hav := HAV.out p.toNat j hpn (by rw [HAC.out]; exact hjl)
              obtain ⟨N9, hN9⟩ : ∃ N9, D.AN p.toNat j = N9 := ⟨_, rfl⟩
              obtain ⟨V9, hV9⟩ : ∃ V9, D.AV p.toNat j = V9 := ⟨_, rfl⟩
              rw [hN9] at g0
              rw [hV9] at g1 hav
              have HN9 := hide hN9
              have HV9 := hide hV9
              clear hN9 hV9 f0 f1 hat6 hb6e
              cases hq : (N9.toList == A.toList)
              · have HE := hide (mt_no (D := D) (p := p.toNat) (k := j) (A := A) (by rw [HN9.out]; exact hq))
                go_wp2
                go_roundw
                case rel => exact ⟨j + 1, V2, M2, by omega, by go_num, rfl, rfl, by omega, hide (by rw [HE.out]; exact HM2.out), hide (by rw [HE.out]; exact HV2.out), HB4⟩
                case measure => simp [intOf]; omega
              · have HE := hide (mt_yes (D := D) (p := p.toNat) (k := j) (A := A) (by rw [HN9.out]; exact hq))
                have CW := hide (fun w9 => s_white V9 2 w9 hav)
                have HV3 : Hid (whB V9 2 = lstW (vlL D A (L.take k) ++ mtA D p.toNat A (j + 1))) := hide (by rw [HE.out, ← List.append_assoc, lst_app, HV9.out])
                have HM3 : Hid (M2 + 1 = (vlL D A (L.take k) ++ mtA D p.toNat A (j + 1)).length) := hide (by rw [HE.out, ← List.append_assoc, List.length_append, ← HM2.out]; rfl)
                go_wp2_with (go_at_call 84; refine (CW.out _).mono ?_; rintro e w6 ⟨rfl, hb6⟩; have HB6 := hide (HB4.out.trans (hb6.mono HB4.out.size)); clear hb6)
                go_roundw
                case rel => exact ⟨j + 1, _, M2 + 1, by omega, by go_num, rfl, by go_num, by omega, HM3, HV3, HB6⟩
                case measure => simp [intOf]; omega
            · have hje : j = ac := by omega
              have HM3 : Hid (M2 = (vlL D A (L.take (k + 1))).length) := hide (by rw [HTK.out, ← hje]; exact HM2.out)
              have HV3 : Hid (V2 = lstW (vlL D A (L.take (k + 1)))) := hide (by rw [HTK.out, ← hje]; exact HV2.out)
              have hM3 : M2 ≤ 2000 := by have h9 := HM3.out; have h8 := HVL.out (k + 1); omega
              have HB5 := hide (HB.out.trans (HB4.out.mono HB.out.size))
              go_wp2
              go_roundw
              case rel => exact ⟨k + 1, V2, M2, by omega, by go_num, rfl, rfl, hM3, HM3, HV3, HB5⟩
              case measure => simp [intOf]; omega
        · have hkl : k = l := by omega
          have HF : Hid (foA (vlL D A L) = if M = 1 then (V, 1) else (⟨#[]⟩, (M : Int))) := hide (by
            have h1 := HM.out
            have h2 := HV.out
            rw [hkl, ← HLL.out, List.take_length] at h1 h2
            unfold foA
            rw [← h1, ← h2])
          have HBF := hide (HB3.out.trans (HB.out.mono HB3.out.size))
          clear hkl
          by_cases hm1 : M = 1
          · have hmb : ((M : Int) != 1) = false := by rw [hm1]; rfl
            rw [if_pos hm1] at HF
            clear hm1
            go_wp2
            go_ret2
            exact ⟨by rw [HF.out]; rfl, HBF.out⟩
          · have hmb : ((M : Int) != 1) = true := by rw [bne_iff_ne]; omega
            rw [if_neg hm1] at HF
            clear hm1
            go_wp2
            go_ret2
            exact ⟨by rw [HF.out]; rfl, HBF.out⟩
    · have HAE := hide hae
      have hane : A.toList = [] := by simpa using hae
      go_wp2_with (go_at_call 53; refine (CS.out _ (HB2.out.alloc HB2.out.size _)).mono ?_; rintro e w3 ⟨ad3, c3, rfl, hi3, hb3⟩; have HI := hide hi3; have HB3 := hide ((HB2.out.alloc HB2.out.size _).trans (hb3.mono (HB2.out.alloc HB2.out.size _).size)); clear hi3 hb3)
      go_loopw [12, 13, 14] (fun vv mv iv wr => ∃ (k : Nat) (V : ByteArray) (M : Nat), k ≤ l ∧ iv = .int .i64 k ∧ vv = .string V ∧ mv = .int .i64 M ∧ M ≤ 2000 ∧ Hid (M = (vlL D A (L.take k)).length) ∧ Hid (V = lstW (vlL D A (L.take k))) ∧ Hid (Below w3.heap.size w3 wr)) (fun _ _ iv _ => l - (intOf iv).toNat)
      case atStart => exact ⟨0, ⟨#[]⟩, 0, Nat.zero_le _, rfl, rfl, rfl, by omega, rfl, rfl, Below.refl _ _⟩
      case round =>
        obtain ⟨k, V, M, hk, rfl, rfl, rfl, hM, HM, HV, HB⟩ := hrel
        by_cases hlt : k < l
        · have hki : (k : Int) < l := by omega
          have hkL : k < L.length := by rw [HLL.out]; exact hlt
          obtain ⟨g, hg, hgl, hc⟩ := intR_at HI.out k hkL
          have c0 := (HB.out.cell (p := ⟨g, k, none⟩) hgl).trans hc
          obtain ⟨hp0, hp1⟩ := HL3.out _ (List.getElem_mem hkL)
          have HTK := hide (vl_take (D := D) (A := A) hkL)
          have hpe : L[k]?.getD 0 = L[k] := by rw [List.getElem?_eq_getElem hkL]; rfl
          rw [← hpe] at hp0 hp1
          obtain ⟨p, hp⟩ : ∃ p, L[k]?.getD 0 = p := ⟨_, rfl⟩
          rw [hp] at c0 hp0 hp1 HTK
          subst hg
          have HBw := hide (HB3.out.trans (HB.out.mono HB3.out.size))
          have hpn : p.toNat < n := by rw [← HD.out]; omega
          have hpi : p < (n : Int) := by rw [← HD.out]; exact hp1
          have hbw : b < wr.heap.size := Nat.lt_of_lt_of_le hbs HBw.out.size
          have hgw : g < wr.heap.size := Nat.lt_of_lt_of_le hgl HB.out.size
          clear hc hp hpe hp1 hkL
          have HVA : Hid (vlA D A p.toNat = [txF D p.toNat n]) := hide (by unfold vlA; rw [if_pos HAE.out, HD.out])
          rw [HVA.out] at HTK
          have hpc : (p.toNat : Int) = p := by omega
          have CT : Hid (Calls Tryz.prog 85 #[.slice (some ⟨b, off, none⟩) n cap, .int .i64 p] wr fun e w' => e = .returned (.string (txF D p.toNat n)) ∧ Below wr.heap.size wr w') := hide (by
            have h9 := s_text2 D n b off cap wr p.toNat HD.out hn hpn hbw (dcRow_up (dcRow_go HRW.out hbs HBw.out) HBw.out.size) HDEC.out HSUM.out
            rw [hpc] at h9 ⊢
            exact h9)
          have hts : (txF D p.toNat n).size ≤ 1048576 := by have := txF_size D p.toNat n; have := HSUM.out; omega
          obtain ⟨T, hT⟩ : ∃ T, txF D p.toNat n = T := ⟨_, rfl⟩
          rw [hT] at CT hts HTK
          have CW := hide (fun w9 => s_white T 2 w9 hts)
          have HV2 : Hid (whB T 2 = lstW (vlL D A (L.take (k + 1)))) := hide (by rw [HTK.out, lst_app])
          have HM2 : Hid (M + 1 = (vlL D A (L.take (k + 1))).length) := hide (by rw [HTK.out, List.length_append, ← HM.out]; rfl)
          have hM2 : M + 1 ≤ 2000 := by have h9 := HM2.out; have h8 := HVL.out (k + 1); omega
          clear hT hpc
          go_wp2_with (first | (go_at_call 85; refine CT.out.mono ?_; rintro e w5 ⟨rfl, hb5⟩; have HB5 := hide (HB.out.trans (hb5.mono HB.out.size)); clear hb5) | (go_at_call 84; refine (CW.out _).mono ?_; rintro e w6 ⟨rfl, hb6⟩; have HB6 := hide (HB5.out.trans (hb6.mono HB5.out.size)); clear hb6))
          go_roundw
          case rel => exact ⟨k + 1, _, M + 1, by omega, by go_num, rfl, by go_num, hM2, HM2, HV2, HB6⟩
          case measure => simp [intOf]; omega
        · have hkl : k = l := by omega
          have HF : Hid (foA (vlL D A L) = if M = 1 then (V, 1) else (⟨#[]⟩, (M : Int))) := hide (by
            have h1 := HM.out
            have h2 := HV.out
            rw [hkl, ← HLL.out, List.take_length] at h1 h2
            unfold foA
            rw [← h1, ← h2])
          have HBF := hide (HB3.out.trans (HB.out.mono HB3.out.size))
          clear hkl
          by_cases hm1 : M = 1
          · have hmb : ((M : Int) != 1) = false := by rw [hm1]; rfl
            rw [if_pos hm1] at HF
            clear hm1
            go_wp2
            go_ret2
            exact ⟨by rw [HF.out]; rfl, HBF.out⟩
          · have hmb : ((M : Int) != 1) = true := by rw [bne_iff_ne]; omega
            rw [if_neg hm1] at HF
            clear hm1
            go_wp2
            go_ret2
            exact ⟨by rw [HF.out]; rfl, HBF.out⟩
set_option maxHeartbeats 4000000 in
theorem dummy9 : True := trivial
end Go.Proofs.YtdepgkpfibmbgaaGreatDoor

/-
  Contract of the specification: what FieldOf answers.
-/
namespace Go.Proofs.YtdepgkpfibmbgaaGreatDoor
open Go.RowKit Go.Joins
set_option linter.unusedVariables false
set_option linter.unusedSimpArgs false
/-- What FieldOf answers. -/
def FoAns (D : Dc) (x : Int) (s : ByteArray) (w : World) (e : Ending) (w' : World) : Prop := e = .returned (.tuple #[.string (foV D x s).1, .int .i64 (foV D x s).2]) ∧ Below w.heap.size w w'
theorem fo_no {D : Dc} {x : Int} {s : ByteArray} {w w' : World} (h : foV D x s = (⟨#[]⟩, -1)) (hb : Below w.heap.size w w') : FoAns D x s w (.returned (.tuple #[.string ⟨#[]⟩, .int .i64 (-1)])) w' := ⟨by rw [h], hb⟩
end Go.Proofs.YtdepgkpfibmbgaaGreatDoor
