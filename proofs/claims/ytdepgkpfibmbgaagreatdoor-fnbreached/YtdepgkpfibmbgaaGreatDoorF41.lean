/-
  Contracts of the specification: are two rows alike (l11Row); is a key broken at an element (l11Broken)?
-/
import Derived.Test.YtdepgkpfibmbgaaGreatDoorF36
import Derived.Test.YtdepgkpfibmbgaaGreatDoorF37
import Derived.Test.YtdepgkpfibmbgaaGreatDoorF40
import Derived.Test.YtdepgkpfibmbgaaGreatDoorF19
import Derived.Deep.RegionWith
import Derived.Deep.RegionHeld3
namespace Go.Proofs.YtdepgkpfibmbgaaGreatDoor
open Go.RowKit Go.Joins
set_option linter.unusedVariables false
set_option linter.unusedSimpArgs false
theorem ba_drewN {b : Nat} {w w1 : World} (h : Below b w w1) (q : Nat) : Below b w (w1.drewN q) := h.trans ⟨rfl, rfl, rfl, Nat.le_refl _, fun _ _ => rfl⟩
theorem ba_drew {b : Nat} {w w1 : World} (h : Below b w w1) : Below b w w1.drew := h.trans ⟨rfl, rfl, rfl, Nat.le_refl _, fun _ _ => rfl⟩
/-- A Boolean answer. -/
def BolAns (P : Prop) (w : World) (e : Ending) (w' : World) : Prop := (∃ V : Bool, e = .returned (.bool V) ∧ (V = true ↔ P)) ∧ Below w.heap.size w w'
theorem bol_t {P : Prop} {w w' : World} (h : P) (hb : Below w.heap.size w w') : BolAns P w (.returned (.bool true)) w' := ⟨⟨true, rfl, ⟨fun _ => h, fun _ => rfl⟩⟩, hb⟩
theorem bol_f {P : Prop} {w w' : World} (h : ¬ P) (hb : Below w.heap.size w w') : BolAns P w (.returned (.bool false)) w' := ⟨⟨false, rfl, ⟨fun h => (by cases h), fun h2 => absurd h2 h⟩⟩, hb⟩
def IfB (B : Bool) (P : Prop) : Prop := B = true ↔ P
def AndB (B : Bool) (P : Prop) : Prop := B = true ∧ P
set_option maxHeartbeats 4000000 in
theorem s_row (a1 a2 : Option Addr) (n c1 c2 : Nat) (L M : List ByteArray) (w : World) (hL : L.length = n) (hM : M.length = n) (hn : n ≤ 1048576) (h1 : TxAt w a1 L w.heap.size) (h2 : TxAt w a2 M w.heap.size) :
    Calls Tryz.prog 71 #[.slice a1 n c1, .slice a2 n c2] w fun e w' => (∃ V : Bool, e = .returned (.bool V) ∧ (V = true ↔ L = M)) ∧ Below w.heap.size w w' := by
  have HL := hide hL
  have HM := hide hM
  have H1 := hide h1
  have H2 := hide h2
  clear hL hM h1 h2
  go_enter Tryz.func71, Tryz.ntmps71
  go_wp2
  go_loopw [5] (fun i wr => ∃ k : Nat, k ≤ n ∧ i = .int .i64 k ∧ Hid (∀ q, q < k → L[q]?.getD ⟨#[]⟩ = M[q]?.getD ⟨#[]⟩) ∧ Below w.heap.size w wr) (fun i _ => n - (intOf i).toNat)
  case atStart => exact ⟨0, Nat.zero_le _, rfl, hide (fun q h => absurd h (Nat.not_lt_zero _)), Below.refl _ _⟩
  case round =>
    obtain ⟨k, hk, rfl, HA, hb⟩ := hrel
    by_cases hlt : k < n
    · have hlt2 : k < L.length := by rw [HL.out]; exact hlt
      have hlt3 : k < M.length := by rw [HM.out]; exact hlt
      obtain ⟨b, off, rfl, hbs, hc⟩ := H1.out (fun h => by rw [h] at hlt2; exact absurd hlt2 (Nat.not_lt_zero _))
      obtain ⟨b', off', rfl, hbs', hc'⟩ := H2.out (fun h => by rw [h] at hlt3; exact absurd hlt3 (Nat.not_lt_zero _))
      have k1 := (hb.cell (p := ⟨b, off + k, none⟩) hbs).trans (hc k hlt2)
      have k2 := (hb.cell (p := ⟨b', off' + k, none⟩) hbs').trans (hc' k hlt3)
      have hi : (k : Int) < (n : Int) := by omega
      have hi0 : (0 : Int) ≤ (k : Int) := by omega
      have HB := hide hb
      obtain ⟨X, hX⟩ : ∃ X, L[k]?.getD ⟨#[]⟩ = X := ⟨_, rfl⟩
      obtain ⟨Y, hY⟩ : ∃ Y, M[k]?.getD ⟨#[]⟩ = Y := ⟨_, rfl⟩
      have HXX := hide hX
      have HYY := hide hY
      rw [hX] at k1
      rw [hY] at k2
      clear hc hc' hb hX hY
      cases he : (X.toList == Y.toList)
      · have he2 : (X.toList != Y.toList) = true := by rw [bne, he]; rfl
        have HNO : Hid (¬ L = M) := hide (fun e => by
          have h9 := HXX.out
          rw [e, HYY.out] at h9
          exact ba_ne he h9.symm)
        go_wp2
        go_quiet (fail)
        go_wp2
        go_ret
        exact ⟨⟨false, rfl, ⟨fun h => (by cases h), fun h => absurd h HNO.out⟩⟩, ba_drewN HB.out _⟩
      · have he2 : (X.toList != Y.toList) = false := by rw [bne, he]; rfl
        have HA2 : Hid (∀ q, q < k + 1 → L[q]?.getD ⟨#[]⟩ = M[q]?.getD ⟨#[]⟩) := hide (fun q hq => by
          by_cases e : q = k
          · subst e; rw [HXX.out, HYY.out]; exact (ba_eq _ _).1 he
          · exact HA.out q (by omega))
        go_wp2
        go_quiet (fail)
        go_wp2
        go_roundw
        case rel => exact ⟨k + 1, by omega, by go_num, HA2, ba_drewN HB.out _⟩
        case measure => simp [intOf]; omega
    · have hkn : k = n := by omega
      subst hkn
      have HYES : Hid (L = M) := hide (by
        refine List.ext_getElem (by rw [HL.out, HM.out]) (fun i h1 h2 => ?_)
        have h9 := HA.out i (by rw [← HL.out]; exact h1)
        rw [List.getElem?_eq_getElem h1, List.getElem?_eq_getElem h2] at h9
        exact h9)
      go_wp2
      go_ret
      exact ⟨⟨true, rfl, ⟨fun _ => HYES.out, fun _ => rfl⟩⟩, hb⟩
theorem at_mem {T : List (List ByteArray)} {i : Nat} (h : i < T.length) : T[i]?.getD [] ∈ T := by rw [List.getElem?_eq_getElem h]; exact List.getElem_mem h
theorem mem_at {T : List (List ByteArray)} {r : List ByteArray} (h : r ∈ T) : ∃ i, i < T.length ∧ T[i]?.getD [] = r := by
  obtain ⟨i, h1, h2⟩ := List.mem_iff_getElem.1 h
  exact ⟨i, h1, by rw [List.getElem?_eq_getElem h1]; exact h2⟩
theorem tbAt_nil (B : Nat) (w : World) : TbAt B w none 0 0 [] := ⟨rfl, [], ⟨rfl, .inl ⟨rfl, rfl⟩⟩, ⟨rfl, fun j hj => absurd hj (Nat.not_lt_zero j), fun i j u v _ hu => by simp at hu⟩⟩
/-- A row of keys in memory, laid open. -/
def KyRw (w : World) (kb koff : Nat) (K : List Ky) : Prop := kb < w.heap.size ∧ ∀ j, j < K.length → ∃ ad cp, KyC w kb (koff + j * 6) (kyA K j) ad cp ∧ TxAt w ad (kyA K j).fl w.heap.size ∧ (kyA K j).fl.length ≤ cp
theorem kyRw_go {w w' : World} {kb koff : Nat} {K : List Ky} (h : KyRw w kb koff K) (hb : Below w.heap.size w w') : KyRw w' kb koff K := ⟨Nat.lt_of_lt_of_le h.1 hb.size, fun j hj => by
  obtain ⟨ad, cp, h1, h2, h3⟩ := h.2 j hj
  exact ⟨ad, cp, kyC_go h1 h.1 hb, tx_up (tx_go h2 hb) hb.size, h3⟩⟩
set_option maxRecDepth 100000 in
set_option maxHeartbeats 8000000 in
theorem s_broken (D : Dc) (n b off cap : Nat) (K : List Ky) (kn kb koff kc i x : Nat) (w : World) (hD : D.n = n) (hdk : docokB D = true) (hx : x < n) (hK : KeysP K) (hL : K.length = kn) (hi : i < kn) (hf : KyFew K) (hkr : KyRw w kb koff K) (hbs : b < w.heap.size) (hr : DcRow w b off D w.heap.size) :
    Calls Tryz.prog 37 #[.slice (some ⟨b, off, none⟩) n cap, .int .i64 x, .slice (some ⟨kb, koff, none⟩) kn kc, .int .i64 i] w (BolAns (brk D K x i) w) := by
  have hkn : kn ≤ 10 := by rw [← hL]; exact hK.1
  have hxD : x < D.n := by omega
  have hii : (i : Int) < (kn : Int) := by omega
  have hone : KeyOne (kyA K i) := (hK.2 i (by omega)).1
  have hf4 : (kyA K i).fl.length ≤ 4 := hone.2.2.2.2.1.2
  have HT0 : Hid (∀ (j : Nat) (w3 : World) (ad : Option Addr) (cp fm : Nat), j < kn → (kyA K j).fl.length = fm → Below w.heap.size w w3 → TxAt w3 ad (kyA K j).fl w3.heap.size → Calls Tryz.prog 28 #[.slice (some ⟨b, off, none⟩) n cap, .int .i64 x, .agg #[.string (kyA K j).nm, .int .i64 (kyA K j).kd, .string (kyA K j).on, .string (kyA K j).pa, .slice ad fm cp, .string (kyA K j).re]] w3 (TabAns (tbK D x (kyA K j)) w3)) := hide (fun j w3 ad cp fm hj hfm h3 hat => by
    have hj2 : j < K.length := by omega
    have h9 := s_tab D n b off cap x (kyA K j) ad cp fm w3 hD hdk hx (hK.2 j hj2).1 hfm (hf.2 j hj2).2.2.1 (fun q hq => (hf.2 j hj2).2.2.2.2.2 q (by omega)) hat (Nat.lt_of_lt_of_le hbs h3.size) (dcRow_up (dcRow_go hr hbs h3) h3.size)
    rw [← hfm] at h9
    rw [← hfm]
    exact h9)
  have HTK : Hid (∀ j T, j < kn → tbK D x (kyA K j) = some T → RwsOk T ∧ ∀ r ∈ T, r.length = (kyA K j).fl.length) := hide (fun j T hj h => ⟨tk_ok hdk hxD (hK.2 j (by omega)).1 h, fun r hr => ((tk_rows hdk hxD h).2 r hr).1⟩)
  have HK := hide hK
  have HL := hide hL
  have HKR := hide hkr
  obtain ⟨ad, cp, hc, hat, hcp⟩ := hkr.2 i (by omega)
  have CT1 := hide (fun fm hfm => HT0.out i w ad cp fm hi hfm (Below.refl _ _) hat)
  obtain ⟨k, hkk⟩ : ∃ k, kyA K i = k := ⟨_, rfl⟩
  have HKI := hide hkk
  rw [hkk] at hc CT1 hf4
  obtain ⟨nm, kd, on, pth, fl, re⟩ := k
  obtain ⟨fm, hfm⟩ : ∃ fm, fl.length = fm := ⟨_, rfl⟩
  have CT2 := hide (CT1.out fm hfm)
  obtain ⟨q0, q1, q2, q3, q4, q5⟩ := hc
  dsimp only at q0 q1 q2 q3 q4 q5 hf4
  rw [hfm] at q4 hf4
  have HFM : Hid ((kyA K i).fl.length = fm) := hide (by rw [HKI.out]; exact hfm)
  have hkbl := HKR.out.1
  have Q1 : Hid (∀ w3, Below w.heap.size w w3 → w3.cell? ⟨kb, koff + i * 6 + 1, none⟩ = some (.int .i64 kd)) := hide (fun w3 h3 => (h3.cell (p := ⟨kb, koff + i * 6 + 1, none⟩) hkbl).trans q1)
  have Q5 : Hid (∀ w3, Below w.heap.size w w3 → w3.cell? ⟨kb, koff + i * 6 + 5, none⟩ = some (.string re)) := hide (fun w3 h3 => (h3.cell (p := ⟨kb, koff + i * 6 + 5, none⟩) hkbl).trans q5)
  clear hK hL hkr hf hr hD hdk hxD hx hone hat hcp hkk CT1 hfm
  go_enter Tryz.func37, Tryz.ntmps37
  go_wp2_with fail
  refine CT2.out.mono ?_
  rintro e w2 ⟨hb2, hans⟩
  have HB2 := hide hb2
  have z1 := Q1.out w2 hb2
  have hs2 : w.heap.size ≤ w2.heap.size := hb2.size
  clear hb2 q0 q1 q2 q3 q4 q5
  rcases hans with ⟨ta, tc, T, k, cs, ho, hk, rfl, hto, hrr⟩ | ⟨ho, rfl⟩
  · have HTA : Hid (TbAt _ w2 ta k tc T) := hide ⟨hk, cs, hto, hrr⟩
    rw [← HKI.out] at ho
    obtain ⟨hok, hlen⟩ := HTK.out i T hi ho
    have HLEN : Hid (∀ q, q < k → (T[q]?.getD []).length = fm) := hide (fun q hq => (hlen _ (at_mem (by omega))).trans HFM.out)
    have HO := hide ho
    have HKL := hide hk
    have hk200 : k ≤ 200 := by have := hok.1; omega
    clear hto hrr hok hlen ho hk
    have CR : Hid (∀ (a1 a2 : Option Addr) (c1 c2 : Nat) (L M : List ByteArray) (w9 : World), L.length = fm → M.length = fm → TxAt w9 a1 L w9.heap.size → TxAt w9 a2 M w9.heap.size → Calls Tryz.prog 71 #[.slice a1 fm c1, .slice a2 fm c2] w9 fun e w' => (∃ V : Bool, e = .returned (.bool V) ∧ (V = true ↔ L = M)) ∧ Below w9.heap.size w9 w') := hide (fun a1 a2 c1 c2 L M w9 h1 h2 h3 h4 => s_row a1 a2 fm c1 c2 L M w9 h1 h2 (by omega) h3 h4)
    by_cases h3 : kd = 3
    · have h3b : (kd != 3) = false := by rw [h3]; rfl
      have H3 : Hid ((kyA K i).kd = 3) := hide (by rw [HKI.out]; exact h3)
      clear h3
      go_wp2
      go_loopw [13] (fun jv wr => ∃ J : Nat, J ≤ i ∧ jv = .int .i64 J ∧ Hid (∀ q, q < J → (kyA K q).nm = re → ∀ r ∈ T, ∃ U, tbK D x (kyA K q) = some U ∧ r ∈ U) ∧ Hid (Below w2.heap.size w2 wr)) (fun jv _ => i - (intOf jv).toNat)
      case atStart => exact ⟨0, Nat.zero_le _, rfl, hide (fun q h => absurd h (Nat.not_lt_zero _)), hide (Below.refl _ _)⟩
      case round =>
        obtain ⟨J, hJi, rfl, HA, HB⟩ := hrel
        obtain ⟨WR, rfl⟩ : ∃ WR, WR = wr := ⟨_, rfl⟩
        have HBW := hide (HB2.out.trans (HB.out.mono hs2))
        have hsz : w2.heap.size ≤ WR.heap.size := HB.out.size
        by_cases hlt : J < i
        · have hji : (J : Int) < (i : Int) := by omega
          have hjn : (J : Int) < (kn : Int) := by omega
          have hJn : J < kn := by omega
          have k5 := Q5.out WR HBW.out
          obtain ⟨jad, jcp, hjc, hjat, hjcp⟩ := (kyRw_go HKR.out HBW.out).2 J (by rw [HL.out]; omega)
          have HJAT := hide hjat
          have CT3 := hide (fun q fm hfm => HT0.out J (WR.drewN q) jad jcp fm hJn hfm (ba_drewN HBW.out _) hjat)
          obtain ⟨kj, hkj⟩ : ∃ kj, kyA K J = kj := ⟨_, rfl⟩
          have HKJ := hide hkj
          obtain ⟨jnm, jkd, jon, jpa, jfl, jre⟩ := kj
          rw [hkj] at hjc CT3
          obtain ⟨j0, j1, j2, j3, j4, j5⟩ := hjc
          dsimp only at j0 j1 j2 j3 j4 j5
          obtain ⟨jm, hjm⟩ : ∃ jm, jfl.length = jm := ⟨_, rfl⟩
          rw [hjm] at j4
          have CT4 := hide (fun q => CT3.out q jm hjm)
          have HJM := hide hjm
          clear hjat hjcp hkj CT3 hjm
          cases he : (jnm.toList == re.toList)
          · have he2 : (jnm.toList != re.toList) = true := by rw [bne, he]; rfl
            have HA2 : Hid (∀ q, q < J + 1 → (kyA K q).nm = re → ∀ r ∈ T, ∃ U, tbK D x (kyA K q) = some U ∧ r ∈ U) := hide (fun q hq hn => by
              by_cases e : q = J
              · subst e; rw [HKJ.out] at hn; exact absurd hn (ba_ne he)
              · exact HA.out q (by omega) hn)
            go_wp2
            go_quiet (fail)
            go_wp2
            go_roundw
            case rel => exact ⟨J + 1, by omega, by go_num, HA2, hide (ba_drewN HB.out _)⟩
            case measure => simp [intOf]; omega
          · have he2 : (jnm.toList != re.toList) = false := by rw [bne, he]; rfl
            have HNM : Hid ((kyA K J).nm = (kyA K i).re) := hide (by rw [HKJ.out, HKI.out]; exact (ba_eq _ _).1 he)
            have HJF : Hid (jm = fm) := hide (by
              have h9 := ref_at HK.out (by rw [HL.out]; exact hi) H3.out hlt HNM.out
              rw [HFM.out, HKJ.out] at h9
              rw [← HJM.out]
              exact h9)
            go_wp2
            go_quiet (fail)
            go_wp2_with fail
            refine (CT4.out _).mono ?_
            rintro e w4 ⟨hb4, hans⟩
            have hb4' : Below WR.heap.size WR w4 := ⟨hb4.os, hb4.tape, hb4.output, hb4.size, hb4.block⟩
            have HB4 := hide (HB.out.trans (hb4'.mono hsz))
            have hs4 : w2.heap.size ≤ w4.heap.size := HB4.out.size
            obtain ⟨fine, U, m, ua, uc, rfl, htu, hfy, hfn⟩ : ∃ (fine : Bool) (U : List (List ByteArray)) (m : Nat) (ua : Option Addr) (uc : Nat), e = .returned (.tuple #[.slice ua m uc, .bool fine]) ∧ TbAt WR.heap.size w4 ua m uc U ∧ (fine = true → tbK D x (kyA K J) = some U) ∧ (fine = false → tbK D x (kyA K J) = none ∧ m = 0) := by
              rcases hans with ⟨ua, uc, U, m, cs2, ho, hm, rfl, hto, hrr⟩ | ⟨ho, rfl⟩
              · exact ⟨true, U, m, ua, uc, rfl, ⟨hm, cs2, hto, hrr⟩, fun _ => (by rw [HKJ.out]; exact ho), fun h => (by cases h)⟩
              · exact ⟨false, [], 0, none, 0, rfl, tbAt_nil _ _, fun h => (by cases h), fun _ => ⟨(by rw [HKJ.out]; exact ho), rfl⟩⟩
            have hm200 : m ≤ 200 := by
              cases hfi : fine
              · have := (hfn hfi).2; omega
              · have h9 := (HTK.out J U hJn (hfy hfi)).1.1; have := htu.1; omega
            have HLU : Hid (∀ q, q < m → (U[q]?.getD []).length = fm) := hide (fun q hq => by
              cases hfi : fine
              · have := (hfn hfi).2; omega
              · have h9 := (HTK.out J U hJn (hfy hfi)).2 _ (at_mem (T := U) (i := q) (by have := htu.1; omega))
                rw [HKJ.out] at h9
                rw [h9, ← HJF.out]
                exact HJM.out)
            have HTU := hide htu
            have HFY := hide hfy
            have HFN := hide hfn
            clear hb4 hb4' hans htu hfy hfn CT4 k5 j0 j1 j2 j3 j4 j5
            go_wp2
            go_loopw [16] (fun av wr => ∃ A : Nat, A ≤ k ∧ av = .int .i64 A ∧ Hid (∀ q, q < A → AndB fine (T[q]?.getD [] ∈ U)) ∧ Hid (Below w4.heap.size w4 wr)) (fun av _ => k - (intOf av).toNat)
            case atStart => exact ⟨0, Nat.zero_le _, rfl, hide (fun q h => absurd h (Nat.not_lt_zero _)), hide (Below.refl _ _)⟩
            case round =>
              obtain ⟨A, hAk, rfl, HIN, HBA⟩ := hrel
              obtain ⟨WA, rfl⟩ : ∃ WA, WA = wr := ⟨_, rfl⟩
              by_cases hlA : A < k
              · have hAi : (A : Int) < (k : Int) := by omega
                obtain ⟨g, aa, ca, hga, hgl, hgc, hgo⟩ := tbAt_at HTA.out A hlA
                rw [HLEN.out A hlA] at hgc hgo
                have TQ : Hid (∀ w9, Below w2.heap.size w2 w9 → w9.cell? ⟨g, A, none⟩ = some (.slice aa fm ca) ∧ TxAt w9 aa (T[A]?.getD []) w9.heap.size) := hide (fun w9 h9 => ⟨(h9.cell (p := ⟨g, A, none⟩) hgl).trans hgc, tx_own (gOwn_after hgo h9)⟩)
                have HLA : Hid ((T[A]?.getD []).length = fm) := hide (HLEN.out A hlA)
                obtain ⟨R, hR⟩ : ∃ R, T[A]?.getD [] = R := ⟨_, rfl⟩
                rw [hR] at TQ HLA
                have HRR := hide hR
                subst hga
                clear hgc hgo hR
                go_wp2
                go_loopw [17, 18] (fun sv bv wj => ∃ (N : Nat) (IS : Bool), N ≤ m ∧ bv = .int .i64 N ∧ sv = .bool IS ∧ Hid (IfB IS (∃ q, q < N ∧ U[q]?.getD [] = R)) ∧ Hid (Below w4.heap.size w4 wj)) (fun _ bv _ => m - (intOf bv).toNat)
                case atStart => exact ⟨0, false, Nat.zero_le _, rfl, rfl, hide ⟨fun h => (by cases h), fun ⟨q, h, _⟩ => absurd h (Nat.not_lt_zero _)⟩, HBA⟩
                case round =>
                  obtain ⟨N, IS, hNm, rfl, rfl, HIS, HBN⟩ := hrel
                  obtain ⟨WN, rfl⟩ : ∃ WN, WN = wr := ⟨_, rfl⟩
                  have HBWN := hide (HB4.out.trans (HBN.out.mono hs4))
                  by_cases hlN : N < m
                  · have hNi : (N : Int) < (m : Int) := by omega
                    obtain ⟨g2, a2, c2, hga2, hgl2, hgc2, hgo2⟩ := tbAt_at HTU.out N hlN
                    rw [HLU.out N hlN] at hgc2 hgo2
                    have r0 := (TQ.out WN HBWN.out).1
                    have r1 : WN.cell? ⟨g2, N, none⟩ = some (.slice a2 fm c2) := (HBN.out.cell (p := ⟨g2, N, none⟩) hgl2).trans hgc2
                    have HUN : Hid ((U[N]?.getD []).length = fm) := hide (HLU.out N hlN)
                    obtain ⟨S, hS⟩ : ∃ S, U[N]?.getD [] = S := ⟨_, rfl⟩
                    rw [hS] at hgo2 HUN
                    have HSS := hide hS
                    have CR2 : Hid (∀ w9, Below WN.heap.size WN w9 → Calls Tryz.prog 71 #[.slice aa fm ca, .slice a2 fm c2] w9 fun e w' => (∃ V : Bool, e = .returned (.bool V) ∧ (V = true ↔ R = S)) ∧ Below w9.heap.size w9 w') := hide (fun w9 h9 => CR.out aa a2 ca c2 R S w9 HLA.out HUN.out (TQ.out w9 (HBWN.out.trans (h9.mono HBWN.out.size))).2 (tx_own (gOwn_after hgo2 (HBN.out.trans (h9.mono HBN.out.size)))))
                    subst hga2
                    have hgl9 : g < WN.heap.size := Nat.lt_of_lt_of_le hgl (Nat.le_trans hs4 HBN.out.size)
                    have hgl8 : g2 < WN.heap.size := Nat.lt_of_lt_of_le hgl2 HBN.out.size
                    clear hgc2 hgo2 hS
                    cases IS
                    · go_upto_region 26 with fail
                      have SS : Below WN.heap.size WN WN ∧ WN.cell? ⟨g, A, none⟩ = some (.slice aa fm ca) ∧ WN.cell? ⟨g2, N, none⟩ = some (.slice a2 fm c2) := ⟨Below.refl _ _, r0, r1⟩
                      have SD : Below WN.heap.size WN WN.drew ∧ WN.drew.cell? ⟨g, A, none⟩ = some (.slice aa fm ca) ∧ WN.drew.cell? ⟨g2, N, none⟩ = some (.slice a2 fm c2) := ⟨ba_drew (Below.refl _ _), r0, r1⟩
                      go_region_held3 (fun w' => Below WN.heap.size WN w' ∧ w'.cell? ⟨g, A, none⟩ = some (.slice aa fm ca) ∧ w'.cell? ⟨g2, N, none⟩ = some (.slice a2 fm c2)) (first | assumption | exact SD | exact SS | exact ⟨HB5.out, (HB5.out.cell (p := ⟨g, A, none⟩) hgl9).trans r0, (HB5.out.cell (p := ⟨g2, N, none⟩) hgl8).trans r1⟩) (first | (go_at_call 71; refine (CR2.out _ SD.1).mono ?_; rintro e w5 ⟨⟨V, rfl, hV⟩, hb5⟩; have HV := hide hV; have HB5 : Hid (Below WN.heap.size WN w5) := hide ⟨hb5.os, hb5.tape, hb5.output, hb5.size, hb5.block⟩; clear hV hb5))
                      all_goals
                        have HIS2 : Hid (IfB V (∃ q, q < N + 1 ∧ U[q]?.getD [] = R)) := hide (by
                          unfold IfB
                          rw [HV.out]
                          constructor
                          · intro e; exact ⟨N, by omega, by rw [HSS.out]; exact e.symm⟩
                          · rintro ⟨q, h1, h2⟩
                            by_cases e : q = N
                            · subst e; rw [HSS.out] at h2; exact h2.symm
                            · have h9 := HIS.out.2 ⟨q, by omega, h2⟩; cases h9)
                        go_wp2
                        go_roundw
                        case rel => exact ⟨N + 1, V, by omega, by go_num, rfl, HIS2, hide (HBN.out.trans (HB5.out.mono HBN.out.size))⟩
                        case measure => simp [intOf]; omega
                    · have HIS2 : Hid (IfB true (∃ q, q < N + 1 ∧ U[q]?.getD [] = R)) := hide ⟨fun _ => by obtain ⟨q, h1, h2⟩ := HIS.out.1 rfl; exact ⟨q, by omega, h2⟩, fun _ => rfl⟩
                      go_wp2
                      go_quiet (fail)
                      go_wp2
                      go_roundw
                      case rel => exact ⟨N + 1, true, by omega, by go_num, rfl, HIS2, hide (ba_drewN HBN.out _)⟩
                      case measure => simp [intOf]; omega
                  · have hNe : N = m := by omega
                    subst hNe
                    have HBWN2 := HBWN
                    cases fine
                    · have HBR : Hid (brk D K x i) := hide ((brk_ref HK.out (by rw [HL.out]; exact hi) HO.out H3.out hlt HNM.out).2 ⟨R, by rw [← HRR.out]; exact at_mem (by rw [HKL.out]; exact hlA), fun U2 hU2 => by rw [(HFN.out rfl).1] at hU2; cases hU2⟩)
                      go_wp2
                      go_ret
                      exact bol_t HBR.out (HB2.out.trans (HBWN2.out.mono hs2))
                    · cases IS
                      · have HBR : Hid (brk D K x i) := hide ((brk_ref HK.out (by rw [HL.out]; exact hi) HO.out H3.out hlt HNM.out).2 ⟨R, by rw [← HRR.out]; exact at_mem (by rw [HKL.out]; exact hlA), fun U2 hU2 hm => by
                          rw [HFY.out rfl] at hU2
                          cases hU2
                          obtain ⟨q, h1, h2⟩ := mem_at hm
                          have h9 := HIS.out.2 ⟨q, by have := HTU.out.1; omega, h2⟩
                          cases h9⟩)
                        go_wp2
                        go_ret
                        exact bol_t HBR.out (HB2.out.trans (HBWN2.out.mono hs2))
                      · have HIN2 : Hid (∀ q, q < A + 1 → AndB true (T[q]?.getD [] ∈ U)) := hide (fun q hq => by
                          by_cases e : q = A
                          · subst e
                            obtain ⟨q2, h1, h2⟩ := HIS.out.1 rfl
                            exact ⟨rfl, by rw [HRR.out, ← h2]; exact at_mem (by have := HTU.out.1; omega)⟩
                          · exact HIN.out q (by omega))
                        go_wp2
                        go_roundw
                        case rel => exact ⟨A + 1, by omega, by go_num, HIN2, HBN⟩
                        case measure => simp [intOf]; omega
              · have hAe : A = k := by omega
                subst hAe
                have HA2 : Hid (∀ q, q < J + 1 → (kyA K q).nm = re → ∀ r ∈ T, ∃ U, tbK D x (kyA K q) = some U ∧ r ∈ U) := hide (fun q hq hn r hr => by
                  by_cases e : q = J
                  · subst e
                    obtain ⟨p, h1, h2⟩ := mem_at hr
                    obtain ⟨h3, h4⟩ := HIN.out p (by rw [← HKL.out]; exact h1)
                    exact ⟨U, HFY.out h3, by rw [← h2]; exact h4⟩
                  · exact HA.out q (by omega) hn r hr)
                go_wp2
                go_roundw
                case rel => exact ⟨J + 1, by omega, by go_num, HA2, hide (HB4.out.trans (HBA.out.mono hs4))⟩
                case measure => simp [intOf]; omega
        · have hJe : J = i := by omega
          subst hJe
          have HNB : Hid (¬ brk D K x J) := hide (fun hb => by
            rcases hb T HO.out with ⟨h, -⟩ | ⟨-, j, hj, hnj, r, hr, hU⟩
            · exact h H3.out
            · obtain ⟨U, h1, h2⟩ := HA.out j hj (by rw [hnj, HKI.out]) r hr
              exact hU U h1 h2)
          go_wp2
          go_ret
          exact bol_f HNB.out (HBW.out)
    · have h3b : (kd != 3) = true := by rw [bne_iff_ne]; exact h3
      have H3 : Hid ((kyA K i).kd ≠ 3) := hide (by rw [HKI.out]; exact h3)
      clear h3
      go_wp2
      go_loopw [11] (fun av wr => ∃ A : Nat, A ≤ k ∧ av = .int .i64 A ∧ Hid (∀ p q, q < p → p < A → T[p]?.getD [] ≠ T[q]?.getD []) ∧ Hid (Below w2.heap.size w2 wr)) (fun av _ => k - (intOf av).toNat)
      case atStart => exact ⟨0, Nat.zero_le _, rfl, hide (fun p q _ h => absurd h (Nat.not_lt_zero _)), hide (Below.refl _ _)⟩
      case round =>
        obtain ⟨A, hAk, rfl, HIN, HBA⟩ := hrel
        obtain ⟨WA, rfl⟩ : ∃ WA, WA = wr := ⟨_, rfl⟩
        by_cases hlA : A < k
        · have hAi : (A : Int) < (k : Int) := by omega
          obtain ⟨g, aa, ca, hga, hgl, hgc, hgo⟩ := tbAt_at HTA.out A hlA
          rw [HLEN.out A hlA] at hgc hgo
          have TQ : Hid (∀ w9, Below w2.heap.size w2 w9 → w9.cell? ⟨g, A, none⟩ = some (.slice aa fm ca) ∧ TxAt w9 aa (T[A]?.getD []) w9.heap.size) := hide (fun w9 h9 => ⟨(h9.cell (p := ⟨g, A, none⟩) hgl).trans hgc, tx_own (gOwn_after hgo h9)⟩)
          have HLA : Hid ((T[A]?.getD []).length = fm) := hide (HLEN.out A hlA)
          obtain ⟨R, hR⟩ : ∃ R, T[A]?.getD [] = R := ⟨_, rfl⟩
          rw [hR] at TQ HLA
          have HRR := hide hR
          subst hga
          clear hgc hgo hR
          go_wp2
          go_loopw [12] (fun bv wj => ∃ N : Nat, N ≤ A ∧ bv = .int .i64 N ∧ Hid (∀ q, q < N → R ≠ T[q]?.getD []) ∧ Hid (Below w2.heap.size w2 wj)) (fun bv _ => A - (intOf bv).toNat)
          case atStart => exact ⟨0, Nat.zero_le _, rfl, hide (fun q h => absurd h (Nat.not_lt_zero _)), HBA⟩
          case round =>
            obtain ⟨N, hNA, rfl, HNE, HBN⟩ := hrel
            obtain ⟨WN, rfl⟩ : ∃ WN, WN = wr := ⟨_, rfl⟩
            by_cases hlN : N < A
            · have hNi : (N : Int) < (A : Int) := by omega
              have hNk : (N : Int) < (k : Int) := by omega
              obtain ⟨g2, a2, c2, hga2, hgl2, hgc2, hgo2⟩ := tbAt_at HTA.out N (by omega)
              rw [HLEN.out N (by omega)] at hgc2 hgo2
              cases hga2
              have r0 := (TQ.out WN HBN.out).1
              have r1 : WN.cell? ⟨g, N, none⟩ = some (.slice a2 fm c2) := (HBN.out.cell (p := ⟨g, N, none⟩) hgl2).trans hgc2
              have HUN : Hid ((T[N]?.getD []).length = fm) := hide (HLEN.out N (by omega))
              obtain ⟨S, hS⟩ : ∃ S, T[N]?.getD [] = S := ⟨_, rfl⟩
              rw [hS] at hgo2 HUN
              have HSS := hide hS
              have CR2 : Hid (∀ w9, Below WN.heap.size WN w9 → Calls Tryz.prog 71 #[.slice aa fm ca, .slice a2 fm c2] w9 fun e w' => (∃ V : Bool, e = .returned (.bool V) ∧ (V = true ↔ R = S)) ∧ Below w9.heap.size w9 w') := hide (fun w9 h9 => CR.out aa a2 ca c2 R S w9 HLA.out HUN.out (TQ.out w9 (HBN.out.trans (h9.mono HBN.out.size))).2 (tx_own (gOwn_after hgo2 (HBN.out.trans (h9.mono HBN.out.size)))))
              clear hgc2 hgo2 hS
              go_upto_region 11 with fail
              go_cut [56] (fun vv wx => ∃ V : Bool, vv = .bool V ∧ Hid (V = true ↔ R = S) ∧ Hid (Below WN.heap.size WN wx))
              case first =>
                go_region_with (go_at_call 71; refine (CR2.out _ (ba_drew (Below.refl _ _))).mono ?_; rintro e w5 ⟨⟨V, rfl, hV⟩, hb5⟩; have HV := hide hV; have HB5 : Hid (Below WN.heap.size WN w5) := hide ⟨hb5.os, hb5.tape, hb5.output, hb5.size, hb5.block⟩; clear hV hb5)
                all_goals
                  go_wp2
                  go_meet
                  exact ⟨V, rfl, HV, HB5⟩
              case rest =>
                obtain ⟨V, rfl, HVV, HB5⟩ := hcut
                have HBc := hide (HBN.out.trans (HB5.out.mono HBN.out.size))
                cases V
                · have HNE2 : Hid (∀ q, q < N + 1 → R ≠ T[q]?.getD []) := hide (fun q hq => by
                    by_cases e : q = N
                    · subst e; rw [HSS.out]; intro h; have h9 := HVV.out.2 h; cases h9
                    · exact HNE.out q (by omega))
                  go_wp2
                  go_roundw
                  case rel => exact ⟨N + 1, by omega, by go_num, HNE2, HBc⟩
                  case measure => simp [intOf]; omega
                · have HBR : Hid (brk D K x i) := hide ((brk_dup HO.out H3.out).2 ⟨A, N, hlN, by rw [HKL.out]; exact hlA, by rw [HRR.out, HSS.out]; exact HVV.out.1 rfl⟩)
                  go_wp2
                  go_ret
                  exact bol_t HBR.out (HB2.out.trans (HBc.out.mono hs2))
            · have hNe : N = A := by omega
              subst hNe
              have HIN2 : Hid (∀ p q, q < p → p < N + 1 → T[p]?.getD [] ≠ T[q]?.getD []) := hide (fun p q hqp hp => by
                by_cases e : p = N
                · subst e; rw [HRR.out]; exact HNE.out q hqp
                · exact HIN.out p q hqp (by omega))
              go_wp2
              go_roundw
              case rel => exact ⟨N + 1, by omega, by go_num, HIN2, HBN⟩
              case measure => simp [intOf]; omega
        · have hAe : A = k := by omega
          subst hAe
          have HNB : Hid (¬ brk D K x i) := hide (fun hb => by
            obtain ⟨p, q, h1, h2, h3⟩ := (brk_dup HO.out H3.out).1 hb
            exact HIN.out p q h1 (by rw [← HKL.out]; exact h2) h3)
          go_wp2
          go_ret
          exact bol_f HNB.out (HB2.out.trans (HBA.out.mono hs2))
  · rw [← HKI.out] at ho
    have HBR := hide (brk_none (D := D) (L := K) (i := i) ho)
    clear ho
    go_wp2
    go_ret
    exact bol_t HBR.out (HB2.out)
end Go.Proofs.YtdepgkpfibmbgaaGreatDoor
