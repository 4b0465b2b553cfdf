/-
  The walk of FnBreached: the two answers are one; keys that hold have, at each of their elements, no two rows alike; without keys nothing is broken.
-/
import Derived.Test.YtdepgkpfibmbgaaGreatDoorF43
import Derived.Deep.DeepCutAuto
import Derived.Deep.RegionHeld3
namespace Go.Proofs.YtdepgkpfibmbgaaGreatDoor
open Go.RowKit Go.Joins
set_option linter.unusedVariables false
set_option linter.unusedSimpArgs false
theorem br_mem {D : Dc} {K : List Ky} {i : Nat} : ∀ n, (i : Int) ∈ brL D K n ↔ i < n ∧ badK D K i
  | 0 => ⟨fun h => (by cases h), fun h => absurd h.1 (Nat.not_lt_zero _)⟩
  | n + 1 => by
    by_cases h : badK D K n
    · rw [br_yes h, List.mem_append, br_mem n, List.mem_singleton]
      constructor
      · rintro (⟨h1, h2⟩ | h1)
        · exact ⟨by omega, h2⟩
        · have : i = n := by omega
          subst this; exact ⟨by omega, h⟩
      · rintro ⟨h1, h2⟩
        by_cases e : i = n
        · exact .inr (by rw [e])
        · exact .inl ⟨by omega, h2⟩
    · rw [br_no h, br_mem n]
      constructor
      · rintro ⟨h1, h2⟩; exact ⟨by omega, h2⟩
      · rintro ⟨h1, h2⟩
        by_cases e : i = n
        · subst e; exact absurd h2 h
        · exact ⟨by omega, h2⟩
theorem brV_mem {D : Dc} {K : List Ky} (h1 : docokB D = true) (h2 : KeysP K) {i : Nat} (hi : i < K.length) : decide ((i : Int) ∈ brV D K) = true ↔ badK D K i := by
  rw [decide_eq_true_iff, brV_yes h1 h2, br_mem]
  exact ⟨fun h => h.2, fun h => ⟨hi, h⟩⟩
theorem brV_nil (D : Dc) : brV D [] = [] := by
  by_cases h : docokB D = true ∧ KeysP []
  · rw [brV_yes h.1 h.2]; rfl
  · exact brV_no h
theorem tb_at {D : Dc} {K : List Ky} {x i : Nat} (hdk : docokB D = true) (hK : KeysP K) (hi : i < K.length) (hx : x < D.n) (hn : D.NM x = (kyA K i).on) : tbO D (x : Int) (kyA K i) = tbK D x (kyA K i) := by
  have h1 := (hK.2 i hi).1
  have h2 : txOk D (x : Int) = true := by
    unfold txOk
    have h3 : (D.NM (x : Int).toNat).toList.isEmpty = false := by
      rw [Int.toNat_natCast, hn]
      have h4 := h1.2.2.1
      cases e : (kyA K i).on.toList with
      | nil =>
        exfalso
        have e2 : (kyA K i).on = ⟨#[]⟩ := by
          have := (ba_eq (kyA K i).on ⟨#[]⟩).1 (by rw [e]; simp [ByteArray.toList_eq])
          exact this
        rw [e2] at h4
        exact absurd h4 (by decide)
      | cons b l => rfl
    rw [hdk, h3, decide_eq_true (by omega)]
    rfl
  rw [tbO_yes h1 h2]
  rfl
/-- What is broken so far at one key's elements. -/
def BkS (D : Dc) (K : List Ky) (i x : Nat) : Prop := ∃ y, y < x ∧ D.NM y = (kyA K i).on ∧ brk D K y i
theorem bks_zero (D : Dc) (K : List Ky) (i : Nat) : ¬ BkS D K i 0 := fun ⟨y, h, _⟩ => absurd h (Nat.not_lt_zero _)
theorem bks_skip {D : Dc} {K : List Ky} {i x : Nat} (h : D.NM x ≠ (kyA K i).on) : BkS D K i (x + 1) ↔ BkS D K i x := by
  constructor
  · rintro ⟨y, h1, h2, h3⟩
    by_cases e : y = x
    · subst e; exact absurd h2 h
    · exact ⟨y, by omega, h2, h3⟩
  · rintro ⟨y, h1, h2, h3⟩; exact ⟨y, by omega, h2, h3⟩
theorem bks_step {D : Dc} {K : List Ky} {i x : Nat} (h : D.NM x = (kyA K i).on) : BkS D K i (x + 1) ↔ BkS D K i x ∨ brk D K x i := by
  constructor
  · rintro ⟨y, h1, h2, h3⟩
    by_cases e : y = x
    · subst e; exact .inr h3
    · exact .inl ⟨y, by omega, h2, h3⟩
  · rintro (⟨y, h1, h2, h3⟩ | h3)
    · exact ⟨y, by omega, h2, h3⟩
    · exact ⟨x, by omega, h, h3⟩
/-- Two of the first rows are alike. -/
def DupU (T : List (List ByteArray)) (A : Nat) : Prop := ∃ p q, q < p ∧ p < A ∧ T[p]?.getD [] = T[q]?.getD []
theorem dupU_zero (T : List (List ByteArray)) : ¬ DupU T 0 := fun ⟨p, q, _, h, _⟩ => absurd h (Nat.not_lt_zero _)
theorem dupU_step {T : List (List ByteArray)} {A : Nat} : DupU T (A + 1) ↔ DupU T A ∨ ∃ q, q < A ∧ T[A]?.getD [] = T[q]?.getD [] := by
  constructor
  · rintro ⟨p, q, h1, h2, h3⟩
    by_cases e : p = A
    · subst e; exact .inr ⟨q, h1, h3⟩
    · exact .inl ⟨p, q, h1, by omega, h3⟩
  · rintro (⟨p, q, h1, h2, h3⟩ | ⟨q, h1, h3⟩)
    · exact ⟨p, q, h1, by omega, h3⟩
    · exact ⟨A, q, h1, by omega, h3⟩
theorem dupU_all {T : List (List ByteArray)} : DupU T T.length ↔ dupT T := by
  constructor
  · rintro ⟨p, q, h1, h2, h3⟩; exact ⟨p, q, h1, h2, h3⟩
  · rintro ⟨p, q, h1, h2, h3⟩; exact ⟨p, q, h1, h2, h3⟩
theorem ifb_congr {B : Bool} {P Q : Prop} (h : IfB B P) (e : P ↔ Q) : IfB B Q := Iff.trans h e
theorem ifb_or {A B : Bool} {P Q : Prop} (h : IfB A P) (k : IfB B Q) : IfB (A || B) (P ∨ Q) := by
  unfold IfB at *
  rw [Bool.or_eq_true, h, k]
theorem kw_drewN {b : Nat} {w w1 : World} (h : Below b w w1) (q : Nat) : Below b w (w1.drewN q) := h.trans ⟨rfl, rfl, rfl, Nat.le_refl _, fun _ _ => rfl⟩
theorem kw_drew {b : Nat} {w w1 : World} (h : Below b w w1) : Below b w w1.drew := h.trans ⟨rfl, rfl, rfl, Nat.le_refl _, fun _ _ => rfl⟩
set_option maxRecDepth 100000 in
set_option maxHeartbeats 16000000 in
theorem kb_walk (a : Option Addr) (n cap : Nat) (zs : List Int) (w : World) (hl : zs.length = n) (hz : ∀ x ∈ zs, 0 ≤ x ∧ x ≤ 255) (hn : n ≤ 1048576) (hs : SrcAt w a zs w.heap.size) (hT : Tabs w) (hM : MaxL w) :
    Calls Tryz.prog 4 #[.slice a n cap] w fun e w' => e = .returned (.bool true) ∧ Below w.heap.size w w' := by
  have hn' : ¬ (1048576 : Int) < (n : Int) := by omega
  have HT := hide hT
  have HM := hide hM
  have CD := hide (d_brs a n cap zs w hl hz hn hs)
  clear hs hl hz hT hM
  go_enter Tryz.func4, Tryz.ntmps4
  go_wp2_with (go_at_call 5; go_in)
  refine CD.out.mono ?_
  rintro e w1 ⟨ad, m, c, D, ka, km, kc, K, rfl, hD, ⟨hm1, hm2⟩, htot, hdc, hK, hk4, hkf, hka, hb1⟩
  have B1 := hide hb1
  have CI : Hid (∀ W, Below w1.heap.size w1 W → Calls Tryz.prog 13 #[.slice ad m c, .slice ka km kc] W fun e w' => ∃ ad c, e = .returned (.slice ad (brV D K).length c) ∧ IntR W.heap.size w' ad c (brV D K) ∧ Below W.heap.size W w') := hide (fun W hb => i_breaches D m ad c K km ka kc W hD htot hK hkf (dcAt_up (dcAt_go hdc hb) hb.size) (kyAt_up (kyAt_go hka hb) hb.size) (tabs_below HT.out (hb1.trans (hb.mono hb1.size))) (maxL_go HM.out (hb1.trans (hb.mono hb1.size)) (Nat.le_refl _)))
  have CN : Hid (∀ W, Below w1.heap.size w1 W → Calls Tryz.prog 13 #[.slice ad m c, .slice none 0 0] W fun e w' => ∃ ad c, e = .returned (.slice ad 0 c) ∧ Below W.heap.size W w') := hide (fun W hb => by
    have h9 := i_breaches D m ad c [] 0 none 0 W hD htot rfl ⟨Nat.zero_le _, fun j hj => absurd hj (Nat.not_lt_zero _)⟩ (dcAt_up (dcAt_go hdc hb) hb.size) (fun h => absurd rfl h) (tabs_below HT.out (hb1.trans (hb.mono hb1.size))) (maxL_go HM.out (hb1.trans (hb.mono hb1.size)) (Nat.le_refl _))
    rw [brV_nil] at h9
    exact h9.mono (fun e w' ⟨a9, c9, h1, h2, h3⟩ => ⟨a9, c9, h1, h3⟩))
  have CS : Hid (∀ W, Below w1.heap.size w1 W → Calls Tryz.prog 15 #[.slice ad m c, .slice ka km kc] W fun e w' => ∃ ad c, e = .returned (.slice ad (brV D K).length c) ∧ IntR W.heap.size w' ad c (brV D K) ∧ Below W.heap.size W w') := hide (fun W hb => s_breaches D m ad c K km ka kc W hD htot hK hkf (dcAt_up (dcAt_go hdc hb) hb.size) (kyAt_up (kyAt_go hka hb) hb.size))
  have CK : Hid (∀ W, Below w1.heap.size w1 W → Calls Tryz.prog 16 #[.slice ka km kc] W fun e w' => (KeysP K → e = .returned (.bool true)) ∧ (¬ KeysP K → e = .returned (.bool false)) ∧ Below W.heap.size W w') := hide (fun W hb => (s_keys K km ka kc W hK hkf (kyAt_up (kyAt_go hka hb) hb.size)).mono (fun e w' h => bc_tf h))
  have CO : Hid (∀ W, Below w1.heap.size w1 W → Calls Tryz.prog 17 #[.slice ad m c] W fun e w' => e = .returned (.bool (docokB D)) ∧ Below W.heap.size W w') := hide (fun W hb => s_docok D m ad c W hD htot (dcAt_up (dcAt_go hdc hb) hb.size))
  have CTI : Hid (∀ (W : World) (x : Int) (k : Ky) (kad : Option Addr) (cp fm : Nat), k.nm.size ≤ 1048576 → k.on.size ≤ 1048576 → k.pa.size ≤ 1048576 → k.fl.length ≤ 1048576 → (∀ i, i < k.fl.length → (k.fl[i]?.getD ⟨#[]⟩).size ≤ 1048576) → k.fl.length = fm → TxAt W kad k.fl W.heap.size → Below w1.heap.size w1 W → Calls Tryz.prog 7 #[.slice ad m c, .int .i64 x, .agg #[.string k.nm, .int .i64 k.kd, .string k.on, .string k.pa, .slice kad fm cp, .string k.re]] W (TabAns (tbO D x k) W)) := hide (fun W x k kad cp fm z0 z1 z2 z4 z5 hfm ht hb => by subst hfm; exact i_tableOf D m ad c x k kad cp W hD htot z0 z1 z2 z4 z5 (dcAt_up (dcAt_go hdc hb) hb.size) ht (tabs_below HT.out (hb1.trans (hb.mono hb1.size))) (maxL_go HM.out (hb1.trans (hb.mono hb1.size)) (Nat.le_refl _)))
  have hlb := brV_len D K
  obtain ⟨L, hL⟩ : ∃ L, brV D K = L := ⟨_, rfl⟩
  have HLV := hide hL
  rw [hL] at CI CS hlb
  obtain ⟨LN, hLN⟩ : ∃ LN, L.length = LN := ⟨_, rfl⟩
  rw [hLN] at CI CS hlb
  have HLN := hide hLN
  have CQ : Hid (∀ (a1 a2 : Option Addr) (c1 c2 B1 B2 : Nat) (W : World), IntR B1 W a1 c1 L → IntR B2 W a2 c2 L → Calls Tryz.prog 14 #[.slice a1 LN c1, .slice a2 LN c2] W fun e w' => e = .returned (.bool true) ∧ ∃ q, w' = W.drewN q) := hide (fun a1 a2 c1 c2 B1 B2 W h1 h2 => (l_sameInts a1 a2 LN LN c1 c2 L L W HLN.out HLN.out (by omega) (by omega) (own_rowAt' rfl h1) (own_rowAt' rfl h2)).mono (fun e w' h => ⟨by rw [h.1, decide_eq_true rfl], h.2⟩))
  have HD := hide hD
  have HKL := hide hK
  have HKF := hide hkf
  have HKA := hide hka
  have HDC := hide hdc
  clear hD htot hdc hK hkf hka hb1 CD hL hLN
  go_wp2_with fail
  refine (CI.out _ (Below.refl _ _)).mono ?_
  rintro e w2 ⟨ba, bc, rfl, hbo, hb2⟩
  have HBO := hide hbo
  have B2 := hide hb2
  clear hbo hb2
  go_wp2_with fail
  refine (CS.out _ B2.out).mono ?_
  rintro e w3 ⟨sa, sc, rfl, hso, hb3⟩
  have HSO := hide hso
  have HBO3 := hide (show IntR _ w3 _ _ _ from gOwn_after HBO.out hb3)
  have B3 := hide (B2.out.trans (hb3.mono B2.out.size))
  clear hso hb3
  go_wp2_with fail
  refine (CQ.out _ _ _ _ _ _ _ HBO3.out HSO.out).mono ?_
  rintro e w4 ⟨rfl, q4, rfl⟩
  have B4 := hide (kw_drewN B3.out q4)
  go_wp2_with fail
  refine (CN.out _ B4.out).mono ?_
  rintro e w5 ⟨na, nc, rfl, hb5⟩
  have B5 := hide (B4.out.trans (hb5.mono B4.out.size))
  have HBO5 := hide (show IntR _ w5 _ _ _ from gOwn_after (show IntR w1.heap.size (w3.drewN q4) ba bc L from HBO3.out) hb5)
  clear hb5
  go_wp2_with fail
  refine (CK.out _ B5.out).mono ?_
  rintro e w6 ⟨hy6, hn6, hb6⟩
  have B6 := hide (B5.out.trans (hb6.mono B5.out.size))
  have HBO6 := hide (show IntR _ w6 _ _ _ from gOwn_after HBO5.out hb6)
  clear hb6
  by_cases hKP : KeysP K
  · obtain rfl := hy6 hKP
    clear hy6 hn6
    cases hdk : docokB D
    · rw [hdk] at CO
      go_wp2_with fail
      refine (CO.out _ B6.out).mono ?_
      rintro e w7 ⟨rfl, hb7⟩
      have B7 := hide (B6.out.trans (hb7.mono B6.out.size))
      have HBO7 := hide (show IntR _ w7 _ _ _ from gOwn_after HBO6.out hb7)
      clear hb7
      go_wp2_with fail
      refine (CS.out _ B7.out).mono ?_
      rintro e w8 ⟨sa, sc, rfl, hso, hb8⟩
      have HSO8 := hide hso
      have HBO8 := hide (show IntR _ w8 _ _ _ from gOwn_after HBO7.out hb8)
      have B8 := hide (B7.out.trans (hb8.mono B7.out.size))
      clear hso hb8
      go_wp2_with fail
      refine (CQ.out _ _ _ _ _ _ _ HBO8.out HSO8.out).mono ?_
      rintro e w9 ⟨rfl, q9, rfl⟩
      go_wp2
      go_ret
      exact ⟨rfl, B1.out.trans ((kw_drewN B8.out q9).mono B1.out.size)⟩
    · rw [hdk] at CO
      have HDK := hide hdk
      have HKP := hide hKP
      clear hdk hKP
      go_wp2_with fail
      refine (CO.out _ B6.out).mono ?_
      rintro e w7 ⟨rfl, hb7⟩
      have B7 := hide (B6.out.trans (hb7.mono B6.out.size))
      have HBO7 := hide (show IntR _ w7 _ _ _ from gOwn_after HBO6.out hb7)
      clear hb7 CI CN CS CK CO CQ
      go_wp2
      go_loopw [6] (fun iv wr => ∃ i : Nat, i ≤ km ∧ iv = .int .i64 i ∧ Hid (IntR w1.heap.size wr ba bc L) ∧ Hid (Below w1.heap.size w1 wr)) (fun iv _ => km - (intOf iv).toNat)
      case atStart => exact ⟨0, Nat.zero_le _, rfl, HBO7, B7⟩
      case round =>
        obtain ⟨i, hik, rfl, HO, HB⟩ := hrel
        obtain ⟨WR, rfl⟩ : ∃ WR, WR = wr := ⟨_, rfl⟩
        by_cases hlt : i < km
        · have hci : (i : Int) < (km : Int) := by omega
          have hiK : i < K.length := by rw [HKL.out]; exact hlt
          obtain ⟨kb, koff, hke, hkb, hkrow⟩ := HKA.out (fun e => by rw [e] at hiK; exact absurd hiK (Nat.not_lt_zero _))
          obtain ⟨kad, kcp, hkc, hkt, -⟩ := hkrow i hiK
          have hone : KeyOne (kyA K i) := (HKP.out.2 i hiK).1
          obtain ⟨OO, hOO⟩ : ∃ OO : Nat → Option (List (List ByteArray)), OO = fun x => tbK D x (kyA K i) := ⟨_, rfl⟩
          have HOO : Hid (∀ x, OO x = tbK D x (kyA K i)) := hide (fun x => by rw [hOO])
          have CTB : Hid (∀ (W : World) (x fm : Nat), x < m → D.NM x = (kyA K i).on → (kyA K i).fl.length = fm → Below w1.heap.size w1 W → Calls Tryz.prog 7 #[.slice ad m c, .int .i64 x, .agg #[.string (kyA K i).nm, .int .i64 (kyA K i).kd, .string (kyA K i).on, .string (kyA K i).pa, .slice kad fm kcp, .string (kyA K i).re]] W (TabAns (OO x) W)) := hide (fun W x fm hx hnx hfm hb => by
            obtain ⟨z0, z1, z2, z3, z4, z5⟩ := HKF.out.2 i hiK
            rw [HOO.out x, ← tb_at HDK.out HKP.out hiK (by rw [HD.out]; exact hx) hnx]
            exact CTI.out W x (kyA K i) kad kcp fm z0 z1 z2 z4 z5 hfm (tx_up (tx_go hkt hb) hb.size) hb)
          obtain ⟨k, hkk⟩ : ∃ k, kyA K i = k := ⟨_, rfl⟩
          have HKI := hide hkk
          rw [hkk] at hkc CTB
          obtain ⟨nm, kd, on, pth, fl, re⟩ := k
          dsimp only at CTB
          obtain ⟨fm, hfm⟩ : ∃ fm, fl.length = fm := ⟨_, rfl⟩
          have HFM : Hid ((kyA K i).fl.length = fm) := hide (by rw [HKI.out]; exact hfm)
          have h4 : fm ≤ 4 := by rw [← HFM.out]; exact hone.2.2.2.2.1.2
          have CTB2 := hide (fun W x hx hn hb => CTB.out W x fm hx hn hfm hb)
          have HTK : Hid (∀ x T, x < m → OO x = some T → T.length ≤ 200 ∧ ∀ r ∈ T, r.length = fm) := hide (fun x T hx h => by
            rw [HOO.out] at h
            have h9 := tk_rows HDK.out (show x < D.n by rw [HD.out]; exact hx) h
            exact ⟨h9.1, fun r hr => (h9.2 r hr).1.trans HFM.out⟩)
          have HKC : Hid (∀ W, Below w1.heap.size w1 W → KyC W kb (koff + i * 6) ⟨nm, kd, on, pth, fl, re⟩ kad kcp) := hide (fun W hb => kyC_go hkc hkb hb)
          subst hke
          have h1x := (HKC.out WR HB.out).2.1
          dsimp only at h1x
          clear hkrow hkc hkt hkk CTB hone hOO
          by_cases h3 : kd = 3
          · have h3b : (kd == 3) = true := by rw [beq_iff_eq]; exact h3
            clear h3
            go_wp2
            go_roundw
            case rel => exact ⟨i + 1, by omega, by go_num, HO, HB⟩
            case measure => simp [intOf]; omega
          · have h3b : (kd == 3) = false := by rw [beq_eq_false_iff_ne]; exact h3
            have H3 : Hid ((kyA K i).kd ≠ 3) := hide (by rw [HKI.out]; exact h3)
            clear h3
            go_wp2
            go_loopw [7, 8] (fun bv xv wj => ∃ (x : Nat) (B : Bool), x ≤ m ∧ xv = .int .i64 x ∧ bv = .bool B ∧ Hid (IfB B (BkS D K i x)) ∧ Hid (IntR w1.heap.size wj ba bc L) ∧ Hid (Below w1.heap.size w1 wj)) (fun _ xv _ => m - (intOf xv).toNat)
            case atStart => exact ⟨0, false, Nat.zero_le _, rfl, rfl, hide ⟨fun h => (by cases h), fun h => absurd h (bks_zero D K i)⟩, HO, HB⟩
            case round =>
              obtain ⟨x, B, hxm, rfl, rfl, HA, HOj, HBj⟩ := hrel
              obtain ⟨WJ, rfl⟩ : ∃ WJ, WJ = wr := ⟨_, rfl⟩
              by_cases hltx : x < m
              · have hxi : (x : Int) < (m : Int) := by omega
                obtain ⟨db, doff, hde, hds, hdrow⟩ := HDC.out (by rw [HD.out]; omega)
                obtain ⟨dad, dcp, hc, -, -⟩ := hdrow x (by rw [HD.out]; exact hltx)
                obtain ⟨c0, c1, c2, c3⟩ := dcCells_go hc hds HBj.out
                obtain ⟨k0, k1, k2, k3, k4, k5⟩ := HKC.out WJ HBj.out
                dsimp only at k0 k1 k2 k3 k4 k5
                rw [hfm] at k4
                obtain ⟨NM, hNM⟩ : ∃ NM, D.NM x = NM := ⟨_, rfl⟩
                rw [hNM] at c1
                have HNM := hide hNM
                subst hde
                clear hc hNM c0 c2 c3 hdrow
                cases he : (NM.toList == on.toList)
                · have he2 : (NM.toList != on.toList) = true := by rw [bne, he]; rfl
                  have HA2 : Hid (IfB B (BkS D K i (x + 1))) := hide (ifb_congr HA.out (bks_skip (by rw [HNM.out, HKI.out]; exact ba_ne he)).symm)
                  go_wp2
                  go_quiet (fail)
                  go_wp2
                  go_roundw
                  case rel => exact ⟨x + 1, B, by omega, by go_num, rfl, HA2, hide (show IntR _ _ _ _ _ from HOj.out), hide (kw_drewN HBj.out _)⟩
                  case measure => simp [intOf]; omega
                · have he2 : (NM.toList != on.toList) = false := by rw [bne, he]; rfl
                  have HON : Hid (D.NM x = (kyA K i).on) := hide (by rw [HNM.out, HKI.out]; exact (ba_eq _ _).1 he)
                  have CT := hide (fun W hb => CTB2.out W x hltx (by rw [HNM.out]; exact (ba_eq _ _).1 he) hb)
                  go_wp2
                  go_quiet (fail)
                  go_wp2_with fail
                  refine (CT.out _ (kw_drewN HBj.out _)).mono ?_
                  rintro e w8 ⟨hb8, hans⟩
                  have hb8' : Below WJ.heap.size WJ w8 := ⟨hb8.os, hb8.tape, hb8.output, hb8.size, hb8.block⟩
                  have B8 := hide hb8'
                  obtain ⟨ok, T, kt, ta, tc, rfl, htu, hfy, hfn⟩ : ∃ (ok : Bool) (T : List (List ByteArray)) (kt : Nat) (ta : Option Addr) (tc : Nat), e = .returned (.tuple #[.slice ta kt tc, .bool ok]) ∧ TbAt WJ.heap.size w8 ta kt tc T ∧ (ok = true → OO x = some T) ∧ (ok = false → OO x = none ∧ kt = 0) := by
                    rcases hans with ⟨ua, uc, U, mm, cs2, ho, hm, rfl, hto, hrr⟩ | ⟨ho, rfl⟩
                    · exact ⟨true, U, mm, ua, uc, rfl, ⟨hm, cs2, hto, hrr⟩, fun _ => ho, fun h => (by cases h)⟩
                    · exact ⟨false, [], 0, none, 0, rfl, tbAt_nil _ _, fun h => (by cases h), fun _ => ⟨ho, rfl⟩⟩
                  have hk200 : kt ≤ 200 := by
                    cases hfi : ok
                    · have := (hfn hfi).2; omega
                    · have h9 := (HTK.out x T hltx (hfy hfi)).1; have := htu.1; omega
                  have HLEN : Hid (∀ q, q < kt → (T[q]?.getD []).length = fm) := hide (fun q hq => by
                    cases hfi : ok
                    · have := (hfn hfi).2; omega
                    · exact (HTK.out x T hltx (hfy hfi)).2 _ (at_mem (T := T) (i := q) (by have := htu.1; omega)))
                  obtain ⟨B1, hB1⟩ : ∃ B1, (B || !ok) = B1 := ⟨_, rfl⟩
                  have HB1 : Hid (IfB B1 (BkS D K i x ∨ OO x = none)) := hide (by
                    rw [← hB1]
                    refine ifb_or HA.out ⟨fun h => ?_, fun h => ?_⟩
                    · cases hfi : ok
                      · exact (hfn hfi).1
                      · rw [hfi] at h; cases h
                    · cases hfi : ok
                      · rfl
                      · rw [hfy hfi] at h; cases h)
                  have HFIN : Hid ((BkS D K i x ∨ OO x = none) ∨ DupU T kt ↔ BkS D K i (x + 1)) := hide (by
                    rw [bks_step HON.out, or_assoc]
                    refine or_congr Iff.rfl ?_
                    cases hfi : ok
                    · have h9 := hfn hfi
                      have h8 := brk_none (D := D) (L := K) (i := i) (x := x) (by rw [← HOO.out x]; exact h9.1)
                      exact ⟨fun _ => h8, fun _ => .inl h9.1⟩
                    · have h9 := hfy hfi
                      have h8 := brk_dup (D := D) (L := K) (i := i) (x := x) (T := T) (by rw [← HOO.out x]; exact h9) H3.out
                      rw [h8, ← dupU_all, htu.1, h9]
                      exact ⟨fun h => h.resolve_left (by intro h; cases h), fun h => .inr h⟩)
                  have HTA := hide htu
                  clear hb8 hb8' hans htu hfy hfn he he2 c1 k0 k1 k2 k3 k4 k5
                  go_upto_region 17 with fail
                  go_cut [7] (fun bv wx => bv = .bool B1 ∧ w8 = wx)
                  case first =>
                    cases B
                    · rw [Bool.false_or] at hB1
                      subst hB1
                      go_wp2
                      go_meet
                      exact ⟨rfl, rfl⟩
                    · rw [Bool.true_or] at hB1
                      subst hB1
                      go_wp2
                      go_meet
                      exact ⟨rfl, rfl⟩
                  case rest =>
                    obtain ⟨rfl, rfl⟩ := hcut
                    clear hB1
                    go_wp2
                    go_loopw [7, 11] (fun bv av wa => ∃ (A : Nat) (B2 : Bool), A ≤ kt ∧ av = .int .i64 A ∧ bv = .bool B2 ∧ Hid (IfB B2 ((BkS D K i x ∨ OO x = none) ∨ DupU T A)) ∧ Hid (Below w8.heap.size w8 wa)) (fun _ av _ => kt - (intOf av).toNat)
                    case atStart => exact ⟨0, B1, Nat.zero_le _, rfl, rfl, hide (ifb_congr HB1.out ⟨fun h => .inl h, fun h => h.resolve_right (dupU_zero T)⟩), hide (Below.refl _ _)⟩
                    case round =>
                      obtain ⟨A, B2, hAk, rfl, rfl, HB2, HBA⟩ := hrel
                      obtain ⟨WA, rfl⟩ : ∃ WA, WA = wr := ⟨_, rfl⟩
                      by_cases hlA : A < kt
                      · have hAi : (A : Int) < (kt : Int) := by omega
                        obtain ⟨g, aa, ca, hga, hgl, hgc, hgo⟩ := tbAt_at HTA.out A hlA
                        rw [HLEN.out A hlA] at hgc hgo
                        have TQ : Hid (∀ w9, Below w8.heap.size w8 w9 → w9.cell? ⟨g, A, none⟩ = some (.slice aa fm ca) ∧ TxAt w9 aa (T[A]?.getD []) w9.heap.size) := hide (fun w9 h9 => ⟨(h9.cell (p := ⟨g, A, none⟩) hgl).trans hgc, tx_own (gOwn_after hgo h9)⟩)
                        have HLA : Hid ((T[A]?.getD []).length = fm) := hide (HLEN.out A hlA)
                        have HDU := hide (dupU_step (T := T) (A := A))
                        obtain ⟨R, hR⟩ : ∃ R, T[A]?.getD [] = R := ⟨_, rfl⟩
                        rw [hR] at TQ HLA HDU
                        subst hga
                        clear hgc hgo hR
                        go_wp2
                        go_loopw [7, 12] (fun bv nv wn => ∃ (N : Nat) (B3 : Bool), N ≤ A ∧ nv = .int .i64 N ∧ bv = .bool B3 ∧ Hid (IfB B3 (((BkS D K i x ∨ OO x = none) ∨ DupU T A) ∨ ∃ q, q < N ∧ R = T[q]?.getD [])) ∧ Hid (Below w8.heap.size w8 wn)) (fun _ nv _ => A - (intOf nv).toNat)
                        case atStart => exact ⟨0, B2, Nat.zero_le _, rfl, rfl, hide (ifb_congr HB2.out ⟨fun h => .inl h, fun h => h.resolve_right (fun ⟨q, h, _⟩ => absurd h (Nat.not_lt_zero _))⟩), HBA⟩
                        case round =>
                          obtain ⟨N, B3, hNA, rfl, rfl, HB3, HBN⟩ := hrel
                          obtain ⟨WN, rfl⟩ : ∃ WN, WN = wr := ⟨_, rfl⟩
                          by_cases hlN : N < A
                          · have hNi : (N : Int) < (A : Int) := by omega
                            have hNk : (N : Int) < (kt : Int) := by omega
                            obtain ⟨g2, a2, c2, hga2, hgl2, hgc2, hgo2⟩ := tbAt_at HTA.out N (by omega)
                            rw [HLEN.out N (by omega)] at hgc2 hgo2
                            cases hga2
                            have r0 := (TQ.out WN HBN.out).1
                            have r1 : WN.cell? ⟨g, N, none⟩ = some (.slice a2 fm c2) := (HBN.out.cell (p := ⟨g, N, none⟩) hgl2).trans hgc2
                            have HUN : Hid ((T[N]?.getD []).length = fm) := hide (HLEN.out N (by omega))
                            obtain ⟨S, hS⟩ : ∃ S, T[N]?.getD [] = S := ⟨_, rfl⟩
                            rw [hS] at hgo2 HUN
                            have HSS := hide hS
                            have hgl9 : g < WN.heap.size := Nat.lt_of_lt_of_le hgl HBN.out.size
                            have CR2 : Hid (∀ w9, Below WN.heap.size WN w9 → Calls Tryz.prog 11 #[.slice aa fm ca, .slice a2 fm c2] w9 fun e w' => (∃ V : Bool, e = .returned (.bool V) ∧ (V = true ↔ R = S)) ∧ Below w9.heap.size w9 w') := hide (fun w9 h9 => l_sameTb aa a2 fm ca c2 R S w9 HLA.out HUN.out (by omega) (TQ.out w9 (HBN.out.trans (h9.mono HBN.out.size))).2 (tx_own (gOwn_after hgo2 (HBN.out.trans (h9.mono HBN.out.size)))))
                            clear hgc2 hgo2 hS
                            cases B3
                            · go_upto_region 24 with fail
                              have SS : Below WN.heap.size WN WN ∧ WN.cell? ⟨g, A, none⟩ = some (.slice aa fm ca) ∧ WN.cell? ⟨g, N, none⟩ = some (.slice a2 fm c2) := ⟨Below.refl _ _, r0, r1⟩
                              have SD : Below WN.heap.size WN WN.drew ∧ WN.drew.cell? ⟨g, A, none⟩ = some (.slice aa fm ca) ∧ WN.drew.cell? ⟨g, N, none⟩ = some (.slice a2 fm c2) := ⟨kw_drew (Below.refl _ _), r0, r1⟩
                              go_region_held3 (fun w' => Below WN.heap.size WN w' ∧ w'.cell? ⟨g, A, none⟩ = some (.slice aa fm ca) ∧ w'.cell? ⟨g, N, none⟩ = some (.slice a2 fm c2)) (first | assumption | exact SD | exact SS | exact ⟨HB5.out, (HB5.out.cell (p := ⟨g, A, none⟩) hgl9).trans r0, (HB5.out.cell (p := ⟨g, N, none⟩) hgl9).trans r1⟩) (first | (go_at_call 11; refine (CR2.out _ SD.1).mono ?_; rintro e w5 ⟨⟨V, rfl, hV⟩, hb5⟩; have HV := hide hV; have HB5 : Hid (Below WN.heap.size WN w5) := hide ⟨hb5.os, hb5.tape, hb5.output, hb5.size, hb5.block⟩; clear hV hb5))
                              all_goals
                                have HB4 : Hid (IfB V (((BkS D K i x ∨ OO x = none) ∨ DupU T A) ∨ ∃ q, q < N + 1 ∧ R = T[q]?.getD [])) := hide (by
                                  unfold IfB
                                  rw [HV.out]
                                  constructor
                                  · intro e; exact .inr ⟨N, by omega, by rw [HSS.out]; exact e⟩
                                  · rintro (h | ⟨q, h1, h2⟩)
                                    · have h9 := HB3.out.2 (.inl h); cases h9
                                    · by_cases e : q = N
                                      · subst e; rw [HSS.out] at h2; exact h2
                                      · have h9 := HB3.out.2 (.inr ⟨q, by omega, h2⟩); cases h9)
                                go_wp2
                                go_roundw
                                case rel => exact ⟨N + 1, V, by omega, by go_num, rfl, HB4, hide (HBN.out.trans (HB5.out.mono HBN.out.size))⟩
                                case measure => simp [intOf]; omega
                            · have HB4 : Hid (IfB true (((BkS D K i x ∨ OO x = none) ∨ DupU T A) ∨ ∃ q, q < N + 1 ∧ R = T[q]?.getD [])) := hide ⟨fun _ => (HB3.out.1 rfl).imp id (fun ⟨q, h1, h2⟩ => ⟨q, by omega, h2⟩), fun _ => rfl⟩
                              go_wp2
                              go_quiet (fail)
                              go_wp2
                              go_roundw
                              case rel => exact ⟨N + 1, true, by omega, by go_num, rfl, HB4, hide (kw_drewN HBN.out _)⟩
                              case measure => simp [intOf]; omega
                          · have hNe : N = A := by omega
                            subst hNe
                            have HB4 : Hid (IfB B3 ((BkS D K i x ∨ OO x = none) ∨ DupU T (N + 1))) := hide (ifb_congr HB3.out (by rw [HDU.out]; exact or_assoc))
                            go_wp2
                            go_roundw
                            case rel => exact ⟨N + 1, B3, by omega, by go_num, rfl, HB4, HBN⟩
                            case measure => simp [intOf]; omega
                      · have hAe : A = kt := by omega
                        subst hAe
                        have HA2 : Hid (IfB B2 (BkS D K i (x + 1))) := hide (ifb_congr HB2.out HFIN.out)
                        have B9 := hide (B8.out.trans (HBA.out.mono B8.out.size))
                        have HO9 := hide (show IntR _ WA _ _ _ from gOwn_after HOj.out B9.out)
                        have HB9 := hide (HBj.out.trans (B9.out.mono HBj.out.size))
                        go_wp2
                        go_roundw
                        case rel => exact ⟨x + 1, B2, by omega, by go_num, rfl, HA2, HO9, HB9⟩
                        case measure => simp [intOf]; omega
              · have hxe : x = m := by omega
                subst hxe
                have hBD : decide ((i : Int) ∈ L) = B := by
                  have h1 := brV_mem (D := D) (K := K) HDK.out HKP.out hiK
                  rw [HLV.out] at h1
                  have h2 : badK D K i ↔ BkS D K i x := by
                    rw [← HD.out]
                    exact Iff.rfl
                  have h3 := HA.out
                  unfold IfB at h3
                  rw [h2, ← h3] at h1
                  cases B <;> cases hd : decide ((i : Int) ∈ L) <;> simp_all
                have CH := hide (l_has ba LN bc L (i : Int) WJ HLN.out (by omega) (own_rowAt' rfl HOj.out))
                rw [hBD] at CH
                cases B
                · go_wp2_with fail
                  refine CH.out.mono ?_
                  rintro e w9 ⟨rfl, h9⟩
                  rw [h9]
                  clear h9 w9
                  go_wp2
                  go_roundw
                  case rel => exact ⟨i + 1, by omega, by go_num, HOj, HBj⟩
                  case measure => simp [intOf]; omega
                · go_wp2_with fail
                  refine CH.out.mono ?_
                  rintro e w9 ⟨rfl, h9⟩
                  rw [h9]
                  clear h9 w9
                  go_wp2
                  go_roundw
                  case rel => exact ⟨i + 1, by omega, by go_num, HOj, HBj⟩
                  case measure => simp [intOf]; omega
        · have hie : i = km := by omega
          subst hie
          go_wp2
          go_ret
          exact ⟨rfl, B1.out.trans (HB.out.mono B1.out.size)⟩
  · obtain rfl := hn6 hKP
    clear hy6 hn6
    go_wp2_with fail
    refine (CS.out _ B6.out).mono ?_
    rintro e w8 ⟨sa, sc, rfl, hso, hb8⟩
    have HSO8 := hide hso
    have HBO8 := hide (show IntR _ w8 _ _ _ from gOwn_after HBO6.out hb8)
    have B8 := hide (B6.out.trans (hb8.mono B6.out.size))
    clear hso hb8
    go_wp2_with fail
    refine (CQ.out _ _ _ _ _ _ _ HBO8.out HSO8.out).mono ?_
    rintro e w9 ⟨rfl, q9, rfl⟩
    go_wp2
    go_ret
    exact ⟨rfl, B1.out.trans ((kw_drewN B8.out q9).mono B1.out.size)⟩
end Go.Proofs.YtdepgkpfibmbgaaGreatDoor
