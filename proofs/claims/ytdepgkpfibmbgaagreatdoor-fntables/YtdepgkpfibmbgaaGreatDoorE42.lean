/-
  Contract of the specification: TableOf.
-/
import Derived.Test.YtdepgkpfibmbgaaGreatDoorE41
import Derived.Test.YtdepgkpfibmbgaaGreatDoorE36
namespace Go.Proofs.YtdepgkpfibmbgaaGreatDoor
open Go.RowKit Go.Joins
set_option linter.unusedVariables false
set_option linter.unusedSimpArgs false
theorem ky_fresh (w : World) (k : Ky) (ad : Option Addr) (cp : Nat) (T : TypeId) (ht : TxAt w ad k.fl w.heap.size) (hc : k.fl.length ≤ cp) : KyAt (w.alloc (.cells #[.string k.nm, .int .i64 k.kd, .string k.on, .string k.pa, .slice ad k.fl.length cp, .string k.re] T)) (some ⟨w.heap.size, 0, none⟩) [k] (w.alloc (.cells #[.string k.nm, .int .i64 k.kd, .string k.on, .string k.pa, .slice ad k.fl.length cp, .string k.re] T)).heap.size := fun _ => by
  have hb := (Below.refl w.heap.size w).alloc (Nat.le_refl _) (.cells #[.string k.nm, .int .i64 k.kd, .string k.on, .string k.pa, .slice ad k.fl.length cp, .string k.re] T)
  have hn := kd_new w #[.string k.nm, .int .i64 k.kd, .string k.on, .string k.pa, .slice ad k.fl.length cp, .string k.re] T
  refine ⟨w.heap.size, 0, rfl, by simp, fun j hj => ?_⟩
  have h0 : j = 0 := by simp at hj; exact hj
  subst h0
  exact ⟨ad, cp, ⟨kd_cell hn 0, kd_cell hn 1, kd_cell hn 2, kd_cell hn 3, kd_cell hn 4, kd_cell hn 5⟩, tx_up (tx_go ht hb) hb.size, hc⟩
theorem tab_noS {o : Option (List (List ByteArray))} {w w' : World} (h : o = none) (hb : Below w.heap.size w w') : TabAns o w (.returned (.tuple #[.slice none 0 0, .bool false])) w' := ⟨hb, .inr ⟨h, rfl⟩⟩
theorem keys_tf {L : List Ky} {w w' : World} {e : Ending} (h : KysAns L w e w') : (KeysP L → e = .returned (.bool true)) ∧ (¬ KeysP L → e = .returned (.bool false)) ∧ Below w.heap.size w w' := by
  obtain ⟨hb, B, rfl, hB⟩ := h
  refine ⟨fun hk => by rw [hB.2 hk], fun hk => ?_, hb⟩
  cases B
  · rfl
  · exact absurd (hB.1 rfl) hk
theorem kyN_few {k : Ky} (z0 : k.nm.size ≤ 1048576) (z1 : k.on.size ≤ 1048576) (z2 : k.pa.size ≤ 1048576) (z4 : k.fl.length ≤ 1048576) (z5 : ∀ i, i < k.fl.length → (k.fl[i]?.getD ⟨#[]⟩).size ≤ 1048576) : KyFew [kyN k] := ⟨by simp, fun j hj => by
  have h0 : j = 0 := by simp at hj; exact hj
  subst h0
  exact ⟨z0, z1, z2, Nat.zero_le _, z4, z5⟩⟩
set_option maxRecDepth 100000 in
set_option maxHeartbeats 8000000 in
theorem s_tableOf3 (D : Dc) (n : Nat) (a : Option Addr) (cap : Nat) (x : Int) (nm : ByteArray) (on pa : ByteArray) (fl : List ByteArray) (re : ByteArray) (ad : Option Addr) (cp : Nat) (w : World) (hD : D.n = n) (hz : dcTot D ≤ 1048576) (z0 : nm.size ≤ 1048576) (z1 : on.size ≤ 1048576) (z2 : pa.size ≤ 1048576) (z4 : fl.length ≤ 1048576) (z5 : ∀ i, i < fl.length → (fl[i]?.getD ⟨#[]⟩).size ≤ 1048576) (hcp : fl.length ≤ cp) (hr : DcAt w a D w.heap.size) (hat : TxAt w ad fl w.heap.size) :
    Calls Tryz.prog 8 #[.slice a n cap, .int .i64 x, .agg #[.string nm, .int .i64 3, .string on, .string pa, .slice ad fl.length cp, .string re]] w (TabAns (tbO D x ⟨nm, 3, on, pa, fl, re⟩) w) := by
  have sx := fun o : Obj => (Below.refl w.heap.size w).alloc (Nat.le_refl _) o
  have hN : kyN ⟨nm, 3, on, pa, fl, re⟩ = ⟨nm, 1, on, pa, fl, ⟨#[]⟩⟩ := by unfold kyN; simp
  have HD := hide hD
  have HR := hide hr
  have hn : n ≤ 1048576 := by rw [← hD]; exact (dc_sz hz).1
  have hF := kyN_few (k := ⟨nm, 3, on, pa, fl, re⟩) z0 z1 z2 z4 z5
  have CD2 : Hid (∀ o, Calls Tryz.prog 17 #[.slice a n cap] (w.alloc o) fun e w' => e = .returned (.bool (docokB D)) ∧ Below (w.alloc o).heap.size (w.alloc o) w') := hide (fun o => s_docok D n a cap (w.alloc o) hD hz (dcAt_up (dcAt_go hr (sx o)) (sx o).size))
  have CK : Hid (∀ w1, Below w.heap.size w w1 → Calls Tryz.prog 16 #[.slice (some ⟨w1.heap.size, 0, none⟩) 1 1] (w1.alloc (.cells #[.string nm, .int .i64 1, .string on, .string pa, .slice ad fl.length cp, .string ⟨#[]⟩] 27)) (KysAns [kyN ⟨nm, 3, on, pa, fl, re⟩] (w1.alloc (.cells #[.string nm, .int .i64 1, .string on, .string pa, .slice ad fl.length cp, .string ⟨#[]⟩] 27)))) := hide (fun w1 h1 => by
    have h8 := ky_fresh w1 (kyN ⟨nm, 3, on, pa, fl, re⟩) ad cp 27 (tx_up (tx_go hat h1) h1.size) hcp
    have h9 := s_keys [kyN ⟨nm, 3, on, pa, fl, re⟩] 1 (some ⟨w1.heap.size, 0, none⟩) 1 _ rfl hF h8
    rw [hN] at h9 ⊢
    exact h9)
  have HKY := hide (kyN_keys ⟨nm, 3, on, pa, fl, re⟩)
  have HAT := hide hat
  clear hr hD hz hat hF
  go_enter Tryz.func8, Tryz.ntmps8
  cases hd : docokB D
  · have HV := hide (tbO_no (D := D) (x := x) (k := ⟨nm, 3, on, pa, fl, re⟩) (fun h => by have h2 := h.2; unfold txOk at h2; rw [hd] at h2; cases h2))
    rw [hd] at CD2
    go_wp2_with (go_at_call 17; refine (CD2.out _).mono ?_; rintro e w1 ⟨rfl, hb1⟩; have HN := hide (kd_go (kd_new w #[.string nm, .int .i64 1, .string on, .string pa, .slice ad fl.length cp, .string ⟨#[]⟩] 27) hb1); have HB := hide ((sx _).trans (hb1.mono (sx _).size)); have k0 := kd_cell HN.out 0; have k1 := kd_cell HN.out 1; have k2 := kd_cell HN.out 2; have k3 := kd_cell HN.out 3; have k4 := kd_cell HN.out 4; have k5 := kd_cell HN.out 5; simp at k0 k1 k2 k3 k4 k5; clear hb1)
    go_ret2
    exact tab_noS HV.out HB.out
  · obtain ⟨⟨g1, g2⟩, hit, hsum⟩ := docok_facts hd
    rw [HD.out] at g1 g2
    rw [hd] at CD2
    have HDK := hide hd
    have hlen : (1 : Int) ≤ (n : Int) := by omega
    clear hit hsum hd
    by_cases hin : 0 ≤ x ∧ x ≤ (n : Int) - 1
    · have HIN := hide hin
      obtain ⟨h0, h1⟩ := hin
      obtain ⟨b, off, rfl, hbs, hrow⟩ := HR.out (by rw [HD.out]; omega)
      obtain ⟨ad2, cp2, hc, -⟩ := hrow x.toNat (by rw [HD.out]; omega)
      have HRW := hide hrow
      have HCC := hide hc
      have hxn : x < (n : Int) := by omega
      clear hrow hc
      cases he : (D.NM x.toNat).toList.isEmpty
      · have HTX : Hid (txOk D x = true) := hide (by unfold txOk; rw [HDK.out, HD.out, decide_eq_true HIN.out, he]; rfl)
        have hne : (D.NM x.toNat).toList ≠ [] := by simpa using he
        by_cases hk1 : KeyOne ⟨nm, 3, on, pa, fl, re⟩
        · have HKP := hide (HKY.out.2 hk1)
          have hx' : (x.toNat : Int) = x := by omega
          have CT : Hid (∀ w5, Below w.heap.size w w5 → Calls Tryz.prog 28 #[.slice (some ⟨b, off, none⟩) n cap, .int .i64 x, .agg #[.string nm, .int .i64 1, .string on, .string pa, .slice ad fl.length cp, .string ⟨#[]⟩]] w5 (TabAns (tbO D x ⟨nm, 3, on, pa, fl, re⟩) w5)) := hide (fun w5 h5 => by
            have h9 := s_tab D n b off cap x.toNat (kyN ⟨nm, 3, on, pa, fl, re⟩) ad cp fl.length w5 HD.out HDK.out (by omega) ((kyN_one _).2 hk1) rfl z2 z5 (tx_up (tx_go HAT.out h5) h5.size) (Nat.lt_of_lt_of_le hbs h5.size) (dcRow_up (dcRow_go HRW.out hbs h5) h5.size)
            rw [tbO_yes hk1 HTX.out]
            rw [kyN_q, kyN_p, kyN_tab, hx', hN] at h9
            exact h9)
          clear hx' hk1
          go_wp2_with (first | (go_at_call 17; refine (CD2.out _).mono ?_; rintro e w1 ⟨rfl, hb1⟩; have HN := hide (kd_go (kd_new w #[.string nm, .int .i64 1, .string on, .string pa, .slice ad fl.length cp, .string ⟨#[]⟩] 27) hb1); have HB := hide ((sx _).trans (hb1.mono (sx _).size)); have k0 := kd_cell HN.out 0; have k1 := kd_cell HN.out 1; have k2 := kd_cell HN.out 2; have k3 := kd_cell HN.out 3; have k4 := kd_cell HN.out 4; have k5 := kd_cell HN.out 5; simp at k0 k1 k2 k3 k4 k5; obtain ⟨c0, c1, c2, c3⟩ := dcCells_go HCC.out hbs HB.out; clear hb1) | (go_at_call 27; refine (s_inT _ _ _ _ HIN.out).mono ?_; rintro e w9 ⟨rfl, h9⟩; rw [h9]; clear h9 w9) | (go_at_call 16; refine (CK.out _ HB.out).mono ?_; rintro e w2 h2; have h3x := keys_tf h2; obtain ⟨ht, hf, hb2⟩ := h3x; have he := ht HKP.out; clear ht hf h2; subst he; have sy := (Below.refl w1.heap.size w1).alloc (Nat.le_refl _) (.cells #[.string nm, .int .i64 1, .string on, .string pa, .slice ad fl.length cp, .string ⟨#[]⟩] 27); have HB2 := hide (HB.out.trans ((sy.trans (hb2.mono sy.size)).mono HB.out.size)); have HN2 := hide (kd_go (kd_go HN.out sy) hb2); have e0 := kd_cell HN2.out 0; have e1 := kd_cell HN2.out 1; have e2 := kd_cell HN2.out 2; have e3 := kd_cell HN2.out 3; have e4 := kd_cell HN2.out 4; have e5 := kd_cell HN2.out 5; simp at e0 e1 e2 e3 e4 e5; clear hb2 sy))
          refine (CT.out _ HB2.out).mono ?_
          rintro e w4 ⟨hb4, ⟨ta, tc, T, q, cs, ho, hq, rfl, hto, hrr⟩ | ⟨ho, rfl⟩⟩
          · have HB4 := hide (HB2.out.trans (hb4.mono HB2.out.size))
            have HO4 := hide ho
            have HQ4 := hide hq
            have HT4 := hide (gOwn_lower hto HB2.out.size)
            have HR4 := hide (rrs_low hrr HB2.out.size)
            clear hb4 ho hq hto hrr
            go_wp2
            go_ret2
            exact ⟨HB4.out, .inl ⟨ta, tc, T, q, cs, HO4.out, HQ4.out, rfl, HT4.out, HR4.out⟩⟩
          · have HB4 := hide (HB2.out.trans (hb4.mono HB2.out.size))
            have HO4 := hide ho
            clear hb4 ho
            go_wp2
            go_ret2
            exact ⟨HB4.out, .inr ⟨HO4.out, rfl⟩⟩
        · have HKP := hide (fun h => hk1 (HKY.out.1 h))
          have HV := hide (tbO_no (D := D) (x := x) (k := ⟨nm, 3, on, pa, fl, re⟩) (fun h => hk1 h.1))
          clear hk1
          go_wp2_with (first | (go_at_call 17; refine (CD2.out _).mono ?_; rintro e w1 ⟨rfl, hb1⟩; have HN := hide (kd_go (kd_new w #[.string nm, .int .i64 1, .string on, .string pa, .slice ad fl.length cp, .string ⟨#[]⟩] 27) hb1); have HB := hide ((sx _).trans (hb1.mono (sx _).size)); have k0 := kd_cell HN.out 0; have k1 := kd_cell HN.out 1; have k2 := kd_cell HN.out 2; have k3 := kd_cell HN.out 3; have k4 := kd_cell HN.out 4; have k5 := kd_cell HN.out 5; simp at k0 k1 k2 k3 k4 k5; obtain ⟨c0, c1, c2, c3⟩ := dcCells_go HCC.out hbs HB.out; clear hb1) | (go_at_call 27; refine (s_inT _ _ _ _ HIN.out).mono ?_; rintro e w9 ⟨rfl, h9⟩; rw [h9]; clear h9 w9) | (go_at_call 16; refine (CK.out _ HB.out).mono ?_; rintro e w2 h2; have h3x := keys_tf h2; obtain ⟨ht, hf, hb2⟩ := h3x; have he := hf HKP.out; clear ht hf h2; subst he; have sy := (Below.refl w1.heap.size w1).alloc (Nat.le_refl _) (.cells #[.string nm, .int .i64 1, .string on, .string pa, .slice ad fl.length cp, .string ⟨#[]⟩] 27); have HB2 := hide (HB.out.trans ((sy.trans (hb2.mono sy.size)).mono HB.out.size)); have HN2 := hide (kd_go (kd_go HN.out sy) hb2); have e0 := kd_cell HN2.out 0; have e1 := kd_cell HN2.out 1; have e2 := kd_cell HN2.out 2; have e3 := kd_cell HN2.out 3; have e4 := kd_cell HN2.out 4; have e5 := kd_cell HN2.out 5; simp at e0 e1 e2 e3 e4 e5; clear hb2 sy))
          go_ret2
          exact tab_noS HV.out HB2.out
      · have HV := hide (tbO_no (D := D) (x := x) (k := ⟨nm, 3, on, pa, fl, re⟩) (fun h => by have h2 := h.2; unfold txOk at h2; rw [he] at h2; simp at h2))
        have hne : (D.NM x.toNat).toList = [] := by simpa using he
        go_wp2_with (first | (go_at_call 17; refine (CD2.out _).mono ?_; rintro e w1 ⟨rfl, hb1⟩; have HN := hide (kd_go (kd_new w #[.string nm, .int .i64 1, .string on, .string pa, .slice ad fl.length cp, .string ⟨#[]⟩] 27) hb1); have HB := hide ((sx _).trans (hb1.mono (sx _).size)); have k0 := kd_cell HN.out 0; have k1 := kd_cell HN.out 1; have k2 := kd_cell HN.out 2; have k3 := kd_cell HN.out 3; have k4 := kd_cell HN.out 4; have k5 := kd_cell HN.out 5; simp at k0 k1 k2 k3 k4 k5; obtain ⟨c0, c1, c2, c3⟩ := dcCells_go HCC.out hbs HB.out; clear hb1) | (go_at_call 27; refine (s_inT _ _ _ _ HIN.out).mono ?_; rintro e w9 ⟨rfl, h9⟩; rw [h9]; clear h9 w9))
        go_ret2
        exact tab_noS HV.out HB.out
    · have HV := hide (tbO_no (D := D) (x := x) (k := ⟨nm, 3, on, pa, fl, re⟩) (fun h => by have h2 := h.2; unfold txOk at h2; rw [HD.out, decide_eq_false hin] at h2; simp at h2))
      have HIN := hide hin
      clear hin
      go_wp2_with (first | (go_at_call 17; refine (CD2.out _).mono ?_; rintro e w1 ⟨rfl, hb1⟩; have HN := hide (kd_go (kd_new w #[.string nm, .int .i64 1, .string on, .string pa, .slice ad fl.length cp, .string ⟨#[]⟩] 27) hb1); have HB := hide ((sx _).trans (hb1.mono (sx _).size)); have k0 := kd_cell HN.out 0; have k1 := kd_cell HN.out 1; have k2 := kd_cell HN.out 2; have k3 := kd_cell HN.out 3; have k4 := kd_cell HN.out 4; have k5 := kd_cell HN.out 5; simp at k0 k1 k2 k3 k4 k5; clear hb1) | (go_at_call 27; refine (s_inF _ _ _ _ HIN.out).mono ?_; rintro e w9 ⟨rfl, h9⟩; rw [h9]; clear h9 w9))
      go_ret2
      exact tab_noS HV.out HB.out
set_option maxRecDepth 100000 in
set_option maxHeartbeats 8000000 in
theorem s_tableOfN (D : Dc) (n : Nat) (a : Option Addr) (cap : Nat) (x : Int) (nm : ByteArray) (kd : Int) (on pa : ByteArray) (fl : List ByteArray) (re : ByteArray) (ad : Option Addr) (cp : Nat) (w : World) (h3 : ¬ kd = 3) (hD : D.n = n) (hz : dcTot D ≤ 1048576) (z0 : nm.size ≤ 1048576) (z1 : on.size ≤ 1048576) (z2 : pa.size ≤ 1048576) (z4 : fl.length ≤ 1048576) (z5 : ∀ i, i < fl.length → (fl[i]?.getD ⟨#[]⟩).size ≤ 1048576) (hcp : fl.length ≤ cp) (hr : DcAt w a D w.heap.size) (hat : TxAt w ad fl w.heap.size) :
    Calls Tryz.prog 8 #[.slice a n cap, .int .i64 x, .agg #[.string nm, .int .i64 kd, .string on, .string pa, .slice ad fl.length cp, .string re]] w (TabAns (tbO D x ⟨nm, kd, on, pa, fl, re⟩) w) := by
  have sx := fun o : Obj => (Below.refl w.heap.size w).alloc (Nat.le_refl _) o
  have hN : kyN ⟨nm, kd, on, pa, fl, re⟩ = ⟨nm, kd, on, pa, fl, ⟨#[]⟩⟩ := by unfold kyN; simp [h3]
  have HD := hide hD
  have HR := hide hr
  have hn : n ≤ 1048576 := by rw [← hD]; exact (dc_sz hz).1
  have hF := kyN_few (k := ⟨nm, kd, on, pa, fl, re⟩) z0 z1 z2 z4 z5
  have CD2 : Hid (∀ o, Calls Tryz.prog 17 #[.slice a n cap] (w.alloc o) fun e w' => e = .returned (.bool (docokB D)) ∧ Below (w.alloc o).heap.size (w.alloc o) w') := hide (fun o => s_docok D n a cap (w.alloc o) hD hz (dcAt_up (dcAt_go hr (sx o)) (sx o).size))
  have CK : Hid (∀ w1, Below w.heap.size w w1 → Calls Tryz.prog 16 #[.slice (some ⟨w1.heap.size, 0, none⟩) 1 1] (w1.alloc (.cells #[.string nm, .int .i64 kd, .string on, .string pa, .slice ad fl.length cp, .string ⟨#[]⟩] 27)) (KysAns [kyN ⟨nm, kd, on, pa, fl, re⟩] (w1.alloc (.cells #[.string nm, .int .i64 kd, .string on, .string pa, .slice ad fl.length cp, .string ⟨#[]⟩] 27)))) := hide (fun w1 h1 => by
    have h8 := ky_fresh w1 (kyN ⟨nm, kd, on, pa, fl, re⟩) ad cp 27 (tx_up (tx_go hat h1) h1.size) hcp
    have h9 := s_keys [kyN ⟨nm, kd, on, pa, fl, re⟩] 1 (some ⟨w1.heap.size, 0, none⟩) 1 _ rfl hF h8
    rw [hN] at h9 ⊢
    exact h9)
  have HKY := hide (kyN_keys ⟨nm, kd, on, pa, fl, re⟩)
  have HAT := hide hat
  clear hr hD hz hat hF
  go_enter Tryz.func8, Tryz.ntmps8
  cases hd : docokB D
  · have HV := hide (tbO_no (D := D) (x := x) (k := ⟨nm, kd, on, pa, fl, re⟩) (fun h => by have h2 := h.2; unfold txOk at h2; rw [hd] at h2; cases h2))
    rw [hd] at CD2
    go_wp2_with (go_at_call 17; refine (CD2.out _).mono ?_; rintro e w1 ⟨rfl, hb1⟩; have HN := hide (kd_go (kd_new w #[.string nm, .int .i64 kd, .string on, .string pa, .slice ad fl.length cp, .string ⟨#[]⟩] 27) hb1); have HB := hide ((sx _).trans (hb1.mono (sx _).size)); have k0 := kd_cell HN.out 0; have k1 := kd_cell HN.out 1; have k2 := kd_cell HN.out 2; have k3 := kd_cell HN.out 3; have k4 := kd_cell HN.out 4; have k5 := kd_cell HN.out 5; simp at k0 k1 k2 k3 k4 k5; clear hb1)
    go_ret2
    exact tab_noS HV.out HB.out
  · obtain ⟨⟨g1, g2⟩, hit, hsum⟩ := docok_facts hd
    rw [HD.out] at g1 g2
    rw [hd] at CD2
    have HDK := hide hd
    have hlen : (1 : Int) ≤ (n : Int) := by omega
    clear hit hsum hd
    by_cases hin : 0 ≤ x ∧ x ≤ (n : Int) - 1
    · have HIN := hide hin
      obtain ⟨h0, h1⟩ := hin
      obtain ⟨b, off, rfl, hbs, hrow⟩ := HR.out (by rw [HD.out]; omega)
      obtain ⟨ad2, cp2, hc, -⟩ := hrow x.toNat (by rw [HD.out]; omega)
      have HRW := hide hrow
      have HCC := hide hc
      have hxn : x < (n : Int) := by omega
      clear hrow hc
      cases he : (D.NM x.toNat).toList.isEmpty
      · have HTX : Hid (txOk D x = true) := hide (by unfold txOk; rw [HDK.out, HD.out, decide_eq_true HIN.out, he]; rfl)
        have hne : (D.NM x.toNat).toList ≠ [] := by simpa using he
        by_cases hk1 : KeyOne ⟨nm, kd, on, pa, fl, re⟩
        · have HKP := hide (HKY.out.2 hk1)
          have hx' : (x.toNat : Int) = x := by omega
          have CT : Hid (∀ w5, Below w.heap.size w w5 → Calls Tryz.prog 28 #[.slice (some ⟨b, off, none⟩) n cap, .int .i64 x, .agg #[.string nm, .int .i64 kd, .string on, .string pa, .slice ad fl.length cp, .string ⟨#[]⟩]] w5 (TabAns (tbO D x ⟨nm, kd, on, pa, fl, re⟩) w5)) := hide (fun w5 h5 => by
            have h9 := s_tab D n b off cap x.toNat (kyN ⟨nm, kd, on, pa, fl, re⟩) ad cp fl.length w5 HD.out HDK.out (by omega) ((kyN_one _).2 hk1) rfl z2 z5 (tx_up (tx_go HAT.out h5) h5.size) (Nat.lt_of_lt_of_le hbs h5.size) (dcRow_up (dcRow_go HRW.out hbs h5) h5.size)
            rw [tbO_yes hk1 HTX.out]
            rw [kyN_q, kyN_p, kyN_tab, hx', hN] at h9
            exact h9)
          clear hx' hk1
          go_wp2_with (first | (go_at_call 17; refine (CD2.out _).mono ?_; rintro e w1 ⟨rfl, hb1⟩; have HN := hide (kd_go (kd_new w #[.string nm, .int .i64 kd, .string on, .string pa, .slice ad fl.length cp, .string ⟨#[]⟩] 27) hb1); have HB := hide ((sx _).trans (hb1.mono (sx _).size)); have k0 := kd_cell HN.out 0; have k1 := kd_cell HN.out 1; have k2 := kd_cell HN.out 2; have k3 := kd_cell HN.out 3; have k4 := kd_cell HN.out 4; have k5 := kd_cell HN.out 5; simp at k0 k1 k2 k3 k4 k5; obtain ⟨c0, c1, c2, c3⟩ := dcCells_go HCC.out hbs HB.out; clear hb1) | (go_at_call 27; refine (s_inT _ _ _ _ HIN.out).mono ?_; rintro e w9 ⟨rfl, h9⟩; rw [h9]; clear h9 w9) | (go_at_call 16; refine (CK.out _ HB.out).mono ?_; rintro e w2 h2; have h3x := keys_tf h2; obtain ⟨ht, hf, hb2⟩ := h3x; have he := ht HKP.out; clear ht hf h2; subst he; have sy := (Below.refl w1.heap.size w1).alloc (Nat.le_refl _) (.cells #[.string nm, .int .i64 kd, .string on, .string pa, .slice ad fl.length cp, .string ⟨#[]⟩] 27); have HB2 := hide (HB.out.trans ((sy.trans (hb2.mono sy.size)).mono HB.out.size)); have HN2 := hide (kd_go (kd_go HN.out sy) hb2); have e0 := kd_cell HN2.out 0; have e1 := kd_cell HN2.out 1; have e2 := kd_cell HN2.out 2; have e3 := kd_cell HN2.out 3; have e4 := kd_cell HN2.out 4; have e5 := kd_cell HN2.out 5; simp at e0 e1 e2 e3 e4 e5; clear hb2 sy))
          refine (CT.out _ HB2.out).mono ?_
          rintro e w4 ⟨hb4, ⟨ta, tc, T, q, cs, ho, hq, rfl, hto, hrr⟩ | ⟨ho, rfl⟩⟩
          · have HB4 := hide (HB2.out.trans (hb4.mono HB2.out.size))
            have HO4 := hide ho
            have HQ4 := hide hq
            have HT4 := hide (gOwn_lower hto HB2.out.size)
            have HR4 := hide (rrs_low hrr HB2.out.size)
            clear hb4 ho hq hto hrr
            go_wp2
            go_ret2
            exact ⟨HB4.out, .inl ⟨ta, tc, T, q, cs, HO4.out, HQ4.out, rfl, HT4.out, HR4.out⟩⟩
          · have HB4 := hide (HB2.out.trans (hb4.mono HB2.out.size))
            have HO4 := hide ho
            clear hb4 ho
            go_wp2
            go_ret2
            exact ⟨HB4.out, .inr ⟨HO4.out, rfl⟩⟩
        · have HKP := hide (fun h => hk1 (HKY.out.1 h))
          have HV := hide (tbO_no (D := D) (x := x) (k := ⟨nm, kd, on, pa, fl, re⟩) (fun h => hk1 h.1))
          clear hk1
          go_wp2_with (first | (go_at_call 17; refine (CD2.out _).mono ?_; rintro e w1 ⟨rfl, hb1⟩; have HN := hide (kd_go (kd_new w #[.string nm, .int .i64 kd, .string on, .string pa, .slice ad fl.length cp, .string ⟨#[]⟩] 27) hb1); have HB := hide ((sx _).trans (hb1.mono (sx _).size)); have k0 := kd_cell HN.out 0; have k1 := kd_cell HN.out 1; have k2 := kd_cell HN.out 2; have k3 := kd_cell HN.out 3; have k4 := kd_cell HN.out 4; have k5 := kd_cell HN.out 5; simp at k0 k1 k2 k3 k4 k5; obtain ⟨c0, c1, c2, c3⟩ := dcCells_go HCC.out hbs HB.out; clear hb1) | (go_at_call 27; refine (s_inT _ _ _ _ HIN.out).mono ?_; rintro e w9 ⟨rfl, h9⟩; rw [h9]; clear h9 w9) | (go_at_call 16; refine (CK.out _ HB.out).mono ?_; rintro e w2 h2; have h3x := keys_tf h2; obtain ⟨ht, hf, hb2⟩ := h3x; have he := hf HKP.out; clear ht hf h2; subst he; have sy := (Below.refl w1.heap.size w1).alloc (Nat.le_refl _) (.cells #[.string nm, .int .i64 kd, .string on, .string pa, .slice ad fl.length cp, .string ⟨#[]⟩] 27); have HB2 := hide (HB.out.trans ((sy.trans (hb2.mono sy.size)).mono HB.out.size)); have HN2 := hide (kd_go (kd_go HN.out sy) hb2); have e0 := kd_cell HN2.out 0; have e1 := kd_cell HN2.out 1; have e2 := kd_cell HN2.out 2; have e3 := kd_cell HN2.out 3; have e4 := kd_cell HN2.out 4; have e5 := kd_cell HN2.out 5; simp at e0 e1 e2 e3 e4 e5; clear hb2 sy))
          go_ret2
          exact tab_noS HV.out HB2.out
      · have HV := hide (tbO_no (D := D) (x := x) (k := ⟨nm, kd, on, pa, fl, re⟩) (fun h => by have h2 := h.2; unfold txOk at h2; rw [he] at h2; simp at h2))
        have hne : (D.NM x.toNat).toList = [] := by simpa using he
        go_wp2_with (first | (go_at_call 17; refine (CD2.out _).mono ?_; rintro e w1 ⟨rfl, hb1⟩; have HN := hide (kd_go (kd_new w #[.string nm, .int .i64 kd, .string on, .string pa, .slice ad fl.length cp, .string ⟨#[]⟩] 27) hb1); have HB := hide ((sx _).trans (hb1.mono (sx _).size)); have k0 := kd_cell HN.out 0; have k1 := kd_cell HN.out 1; have k2 := kd_cell HN.out 2; have k3 := kd_cell HN.out 3; have k4 := kd_cell HN.out 4; have k5 := kd_cell HN.out 5; simp at k0 k1 k2 k3 k4 k5; obtain ⟨c0, c1, c2, c3⟩ := dcCells_go HCC.out hbs HB.out; clear hb1) | (go_at_call 27; refine (s_inT _ _ _ _ HIN.out).mono ?_; rintro e w9 ⟨rfl, h9⟩; rw [h9]; clear h9 w9))
        go_ret2
        exact tab_noS HV.out HB.out
    · have HV := hide (tbO_no (D := D) (x := x) (k := ⟨nm, kd, on, pa, fl, re⟩) (fun h => by have h2 := h.2; unfold txOk at h2; rw [HD.out, decide_eq_false hin] at h2; simp at h2))
      have HIN := hide hin
      clear hin
      go_wp2_with (first | (go_at_call 17; refine (CD2.out _).mono ?_; rintro e w1 ⟨rfl, hb1⟩; have HN := hide (kd_go (kd_new w #[.string nm, .int .i64 kd, .string on, .string pa, .slice ad fl.length cp, .string ⟨#[]⟩] 27) hb1); have HB := hide ((sx _).trans (hb1.mono (sx _).size)); have k0 := kd_cell HN.out 0; have k1 := kd_cell HN.out 1; have k2 := kd_cell HN.out 2; have k3 := kd_cell HN.out 3; have k4 := kd_cell HN.out 4; have k5 := kd_cell HN.out 5; simp at k0 k1 k2 k3 k4 k5; clear hb1) | (go_at_call 27; refine (s_inF _ _ _ _ HIN.out).mono ?_; rintro e w9 ⟨rfl, h9⟩; rw [h9]; clear h9 w9))
      go_ret2
      exact tab_noS HV.out HB.out
theorem s_tableOf (D : Dc) (n : Nat) (a : Option Addr) (cap : Nat) (x : Int) (k : Ky) (ad : Option Addr) (cp : Nat) (w : World) (hD : D.n = n) (hz : dcTot D ≤ 1048576) (z0 : k.nm.size ≤ 1048576) (z1 : k.on.size ≤ 1048576) (z2 : k.pa.size ≤ 1048576) (z4 : k.fl.length ≤ 1048576) (z5 : ∀ i, i < k.fl.length → (k.fl[i]?.getD ⟨#[]⟩).size ≤ 1048576) (hcp : k.fl.length ≤ cp) (hr : DcAt w a D w.heap.size) (hat : TxAt w ad k.fl w.heap.size) :
    Calls Tryz.prog 8 #[.slice a n cap, .int .i64 x, .agg #[.string k.nm, .int .i64 k.kd, .string k.on, .string k.pa, .slice ad k.fl.length cp, .string k.re]] w (TabAns (tbO D x k) w) := by
  obtain ⟨nm, kd, on, pa, fl, re⟩ := k
  by_cases h3 : kd = 3
  · subst h3
    exact s_tableOf3 D n a cap x nm on pa fl re ad cp w hD hz z0 z1 z2 z4 z5 hcp hr hat
  · exact s_tableOfN D n a cap x nm kd on pa fl re ad cp w h3 hD hz z0 z1 z2 z4 z5 hcp hr hat
end Go.Proofs.YtdepgkpfibmbgaaGreatDoor
