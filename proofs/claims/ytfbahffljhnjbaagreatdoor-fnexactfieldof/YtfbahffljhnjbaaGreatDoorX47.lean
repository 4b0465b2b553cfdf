/-
  Texts put together: FoW, JoinsDc.
-/
import Derived.Test.YtfbahffljhnjbaaGreatDoorX46
import Derived.Test.YtfbahffljhnjbaaGreatDoorX3
import Derived.Lib.SmallJoins
import Derived.Deep.SlicePairs
import Derived.WalkKit
import Derived.ProofKit
import Derived.Below
/-
  Contract of the program: what FieldOf answers; the walk of FnExactFieldOf.
-/
namespace Go.Proofs.YtfbahffljhnjbaaGreatDoor
open Go.RowKit Go.Joins
set_option linter.unusedVariables false
set_option linter.unusedSimpArgs false
theorem fld_len {l : List UInt8} {q : List (List UInt8) × List UInt8} (h : fld l = some q) : q.1.length ≤ 6 := by
  have hp : ∀ {t : List UInt8}, pathF t = true → (sg [] t).length ≤ 6 := fun {t} h => by
    unfold pathF at h
    rw [Bool.and_eq_true, decide_eq_true_iff] at h
    exact h.2
  unfold fld at h
  split at h
  · cases h; exact Nat.zero_le _
  · split at h
    · split at h
      · split at h
        · cases h; exact Nat.zero_le _
        · split at h
          · split at h
            · rename_i h9; cases h; exact hp h9
            · cases h
          · cases h
      · cases h
    · split at h
      · rename_i h9; cases h; exact hp h9
      · cases h
theorem tx_factsF {D : Dc} {x : Int} (h : txOk D x = true) : docokB D = true ∧ D.n ≤ 200 ∧ Good D D.n ∧ 0 ≤ x ∧ x < D.n := by
  have h2 := h
  unfold txOk at h2
  simp only [Bool.and_eq_true, decide_eq_true_eq] at h2
  obtain ⟨hd, ⟨h0, h1⟩, -⟩ := h2
  obtain ⟨⟨g1, g2⟩, -, hsum⟩ := docok_facts hd
  exact ⟨hd, g2, docok_good hd, h0, by omega⟩
set_option maxRecDepth 100000 in
set_option maxHeartbeats 4000000 in
theorem i_fieldOf (D : Dc) (n : Nat) (a : Option Addr) (cap : Nat) (x : Int) (s : ByteArray) (w : World) (hD : D.n = n) (hz : dcTot D ≤ 1048576) (hs : s.size ≤ 1048576) (hr : DcAt w a D w.heap.size) (hT : Tabs w) (hM : MaxL w) :
    Calls Tryz.prog 9 #[.slice a n cap, .int .i64 x, .string s] w (FoAns D x s w) := by
  have HD := hide hD
  have HR := hide hr
  have C := hide (i_field s w hs hM)
  have CH := hide (fun (W : World) (hb : Below w.heap.size w W) => i_hasElement D n a cap x W hD hz (dcAt_up (dcAt_go hr hb) hb.size) (tabs_below hT hb))
  clear hr hD hz hT hM
  go_enter Tryz.func9, Tryz.ntmps9
  go_wp2_with fail
  refine C.out.mono ?_
  rintro e w2 ⟨hb2, ⟨q, ad, c, hq, rfl, hN⟩ | ⟨hq, rfl⟩⟩
  · have HB2 := hide hb2
    have HQ := hide hq
    have HN := hide hN
    obtain ⟨m, hm⟩ : ∃ m, q.1.length = m := ⟨_, rfl⟩
    have hm6 : m ≤ 6 := by rw [← hm]; exact fld_len hq
    obtain ⟨A, hA⟩ : ∃ A : ByteArray, (⟨q.2.toArray⟩ : ByteArray) = A := ⟨_, rfl⟩
    have HAA := hide hA
    have HMM := hide hm
    rw [hm] at HN
    rw [hm, hA]
    have HB3 := fun o : Obj => HB2.out.alloc HB2.out.size o
    have HK := hide (cellsAt_new w2 #[.bool false, .slice ad m c, .string A])
    clear hb2 hq hN hm hA C
    cases ht : txOk D x
    · have HV := hide (fo_out (D := D) (x := x) (s := s) ht)
      rw [ht] at CH
      go_wp2_with (go_at_call 37; refine (CH.out _ (HB3 _)).mono ?_; rintro e w4 ⟨rfl, hb4⟩; have HB4 := hide ((HB3 _).trans (hb4.mono (HB3 _).size)); clear hb4)
      go_ret2
      exact fo_no HV.out HB4.out
    · obtain ⟨hdk, hn2, hgood, h0, h1⟩ := tx_factsF ht
      have HV := hide (fo_some HQ.out ht)
      rw [HAA.out] at HV
      rw [ht] at CH
      obtain ⟨b, off, rfl, hbs, hrow⟩ := HR.out (by omega)
      have HRW := hide hrow
      have hx' : (x.toNat : Int) = x := by omega
      have CV : Hid (∀ w5, Below w2.heap.size w2 w5 → Calls Tryz.prog 38 #[.agg #[.bool false, .slice ad m c, .string A], .slice (some ⟨b, off, none⟩) n cap, .int .i64 x] w5 fun e w' => e = .returned (.tuple #[.string (foV D x s).1, .int .i64 (foV D x s).2]) ∧ Below w5.heap.size w5 w') := hide (fun w5 h5 => by
        have hb5 : Below w.heap.size w w5 := HB2.out.trans (h5.mono HB2.out.size)
        have h9 := i_at D n b off cap x.toNat ad m c A q.1 w.heap.size w5 HD.out hdk (by have := HD.out; omega) HMM.out (by omega) (gOwn_after HN.out h5) (Nat.lt_of_lt_of_le hbs hb5.size) (dcRow_up (dcRow_go HRW.out hbs hb5) hb5.size)
        rw [hx'] at h9
        rw [HV.out, HD.out]
        exact h9)
      obtain ⟨R, hR⟩ : ∃ R, foV D x s = R := ⟨_, rfl⟩
      have HRR := hide hR
      rw [hR] at CV
      obtain ⟨r1, r2⟩ := R
      clear hR hx' hrow hdk hgood h0 h1 hn2 ht
      go_wp2_with (first | (go_at_call 37; refine (CH.out _ (HB3 _)).mono ?_; rintro e w4 ⟨rfl, hb4⟩; have HB4 := hide ((HB3 _).trans (hb4.mono (HB3 _).size)); have hK4 := cellsAt_go (HK.out _) hb4 (by simp); have k0 := cellsAt_cell hK4 0; have k1 := cellsAt_cell hK4 1; have k2 := cellsAt_cell hK4 2; simp at k0 k1 k2; have HB24 := hide (((Below.refl w2.heap.size w2).alloc (Nat.le_refl _) _).trans (hb4.mono (by simp))); clear hb4 hK4) | (go_at_call 38; refine (CV.out _ HB24.out).mono ?_; rintro e w6 ⟨rfl, hb6⟩; have HB6 := hide (HB4.out.trans (hb6.mono HB4.out.size)); clear hb6))
      go_ret2
      exact ⟨by rw [HRR.out]; rfl, HB6.out⟩
  · have HV := hide (fo_none (D := D) (x := x) hq)
    have HB2 := hide hb2
    clear hb2 hq C
    go_wp2
    go_ret2
    exact fo_no HV.out (HB2.out.alloc HB2.out.size _)
set_option maxRecDepth 100000 in
set_option maxHeartbeats 4000000 in
theorem fo_walk (D : Dc) (n : Nat) (a : Option Addr) (cap : Nat) (x : Int) (s : ByteArray) (hs0 : s.size ≤ maxLen) (w : World) (hD : D.n = n) (hz : DcSz D) (hr : DcAt w a D w.heap.size) (hT : Tabs w) (hM : MaxL w) :
    Calls Tryz.prog 3 #[.slice a n cap, .int .i64 x, .string s] w fun e w' => e = .returned (.bool true) ∧ Below w.heap.size w w' := by
  have HX := hide hD
  have HR := hide hr
  have HT := hide hT
  have HMX := hide hM
  have HS := hide (l_szIs D n a cap w hD hz hr)
  by_cases hsz : s.size ≤ 1048576
  · have hs2 : s.size ≤ 1048576 := hsz
    have hs3 : (s.size : Int) ≤ 1048576 := by omega
    by_cases hbig : (dcTot D : Int) ≤ 1048576
    · have HL := hide (dn_yes hbig)
      have hb9 : dcTot D ≤ 1048576 := by omega
      have HZ := hide hb9
      have hl2 : n ≤ 1048576 := by rw [← hD]; exact (dc_sz hb9).1
      have HNR : Hid (∀ j, j < n → D.AC j ≤ 1048576) := hide (fun j hj => by have := ((dc_sz hb9).2 j (by omega)).1; omega)
      have hl9 : (0 : Int) ≤ 1048576 - (dcTot D : Int) := by omega
      clear hr hD hz hT hb9 hM
      go_enter Tryz.func3, Tryz.ntmps3
      go_wp2_with fail
      refine HS.out.mono ?_
      rintro e w1 ⟨rfl, hb1⟩
      rw [HL.out]
      have HA1 := hide (dcAt_up (dcAt_go HR.out hb1) hb1.size)
      have HB1 := hide hb1
      clear hb1
      go_wp2_with fail
      refine (l_toIs D n a cap _ HX.out hl2 HNR.out HA1.out).mono ?_
      rintro e w2 ⟨g2, rfl, hg2, hr2, hb2⟩
      have HB2 := hide (HB1.out.trans (hb2.mono HB1.out.size))
      have HR2 := hide hr2
      clear hr2 hb2
      go_wp2_with fail
      refine (s_fieldOf D n _ _ x s _ HX.out HZ.out hs2 HR2.out).mono ?_
      rintro e w3 ⟨rfl, hb3⟩
      have HB3 := hide (HB2.out.trans (hb3.mono HB2.out.size))
      have HA3 := hide (dcAt_up (dcAt_go HR.out HB3.out) HB3.out.size)
      clear hb3
      obtain ⟨V, hV⟩ : ∃ V, (foV D x s).1 = V := ⟨_, rfl⟩
      obtain ⟨B, hB⟩ : ∃ B, (foV D x s).2 = B := ⟨_, rfl⟩
      rw [hV, hB]
      have HV := hide hV
      have HBB := hide hB
      clear hV hB
      go_wp2_with fail
      refine (l_toIs D n a cap _ HX.out hl2 HNR.out HA3.out).mono ?_
      rintro e w4 ⟨g4, rfl, hg4, hr4, hb4⟩
      have HB4 := hide (HB3.out.trans (hb4.mono HB3.out.size))
      have HR4 := hide hr4
      clear hr4 hb4
      go_wp2_with fail
      refine (i_fieldOf D n _ _ x s _ HX.out HZ.out hs2 HR4.out (tabs_below HT.out HB4.out) (maxL_go HMX.out HB4.out (Nat.le_refl _))).mono ?_
      rintro e w5 ⟨rfl, hb5⟩
      rw [HV.out, HBB.out]
      have HB5 := hide (HB4.out.trans (hb5.mono HB4.out.size))
      have HR5 := hide (dcAt_up (dcAt_go HR4.out hb5) hb5.size)
      have HA5 := hide (dcAt_up (dcAt_go HR.out HB5.out) HB5.out.size)
      clear hb5
      go_wp2_with fail
      refine (l_toIs D n a cap _ HX.out hl2 HNR.out HA5.out).mono ?_
      rintro e w6 ⟨g6, rfl, hg6, hr6, hb6⟩
      have HB6 := hide (HB5.out.trans (hb6.mono HB5.out.size))
      have HR6 := hide hr6
      have HR56 := hide (dcAt_up (dcAt_go HR5.out hb6) hb6.size)
      clear hr6 hb6
      go_wp2_with fail
      refine (l_eqIs D n _ _ _ _ _ HX.out hl2 HNR.out HR56.out HR6.out).mono ?_
      rintro e w7 ⟨rfl, hb7⟩
      have HB7 := hide (HB6.out.trans (hb7.mono HB6.out.size))
      clear hb7
      go_wp2
      go_ret
      exact ⟨rfl, HB7.out⟩
    · have HL := hide (dn_no hbig)
      clear hr hD hz hT hM
      go_enter Tryz.func3, Tryz.ntmps3
      go_wp2_with fail
      refine HS.out.mono ?_
      rintro e w1 ⟨rfl, hb1⟩
      rw [HL.out]
      have HB1 := hide hb1
      clear hb1
      go_wp2
      go_ret
      exact ⟨rfl, HB1.out⟩
  · have hs3 : (1048576 : Int) < s.size := by omega
    clear hr hD hz hT hM
    go_enter Tryz.func3, Tryz.ntmps3
    go_wp2
    go_ret
    exact ⟨rfl, Below.refl _ _⟩
end Go.Proofs.YtfbahffljhnjbaaGreatDoor

/-
  Plain laws on how a row of items lies: of no program.
-/
namespace Go.Proofs.YtfbahffljhnjbaaGreatDoor
open Go.ChangeShapes Go.WideShapes Go.RowKit Go.Deep Go.WideElems
set_option linter.unusedVariables false
def strOf : Value → ByteArray | .string s => s | _ => ⟨#[]⟩
structure ItD where
  U : Int
  NM : ByteArray
  TX : ByteArray
  AC : Nat
  AN : Nat → ByteArray
  AV : Nat → ByteArray
instance : Inhabited ItD := ⟨⟨0, ⟨#[]⟩, ⟨#[]⟩, 0, fun _ => ⟨#[]⟩, fun _ => ⟨#[]⟩⟩⟩
section
variable {H : Type} {enc : TypeId × Value → H} {P : Program} {w : World} {base : Nat} {spare : Nat → Bool} {held : Bool}
theorem trod_struct4 {t : TypeId} {f0 f1 f2 f3 : Field} {fuel : Nat} {cs : List Value} {x : DataW H × List MemPlace} (ht : P.underlying t = some (.struct #[f0, f1, f2, f3])) (h : DataW.trod enc P w base spare held fuel t cs = some x) :
    ∃ y0 y1 y2 y3 n, x.1 = .agg [y0.1, y1.1, y2.1, y3.1] ∧ cs.length = P.cellsOf t ∧ DataW.trod enc P w base spare held n f0.type ((cs.drop f0.offset).take (P.cellsOf f0.type)) = some y0 ∧
      DataW.trod enc P w base spare held n f1.type ((cs.drop f1.offset).take (P.cellsOf f1.type)) = some y1 ∧
      DataW.trod enc P w base spare held n f2.type ((cs.drop f2.offset).take (P.cellsOf f2.type)) = some y2 ∧
      DataW.trod enc P w base spare held n f3.type ((cs.drop f3.offset).take (P.cellsOf f3.type)) = some y3 := by
  obtain ⟨xs, n, _, rfl, hl, hlen, hf⟩ := DataW.trod_struct ht h
  match xs, hlen with
  | [y0, y1, y2, y3], _ => exact ⟨y0, y1, y2, y3, n, by simp, hl, by simpa using hf 0 f0 rfl, by simpa using hf 1 f1 rfl, by simpa using hf 2 f2 rfl, by simpa using hf 3 f3 rfl⟩
theorem at_of {t e : TypeId} {f0 f1 : Field} {fuel : Nat} {v : Value} {x : DataW H × List MemPlace} (ht : P.underlying t = some (.slice e)) (he : P.underlying e = some (.struct #[f0, f1]))
    (ce : P.cellsOf e = 2) (o0 : f0.offset = 0) (o1 : f1.offset = 1) (c0 : P.cellsOf f0.type = 1) (c1 : P.cellsOf f1.type = 1) (u0 : P.underlying f0.type = some .string) (u1 : P.underlying f1.type = some .string)
    (h : DataW.trod enc P w 0 (fun _ => true) held fuel t [v] = some x) : ∃ a n c N V, v = .slice a n c ∧ n ≤ maxLen ∧ n ≤ c ∧ (∀ j, j < n → (N j).size ≤ maxLen ∧ (V j).size ≤ maxLen) ∧ AtAt w a n N V w.heap.size := by
  rcases open_slice_pairs ht he ce o0 o1 c0 c1 h with ⟨hc, _⟩ | ⟨a, len, cap, m, n, V0, V1, D0, D1, P0, P1, hc, _, hl, hm, hmm, _, hall⟩
  · simp only [List.cons.injEq, and_true] at hc
    exact ⟨none, 0, 0, fun _ => ⟨#[]⟩, fun _ => ⟨#[]⟩, hc, Nat.zero_le _, Nat.le_refl _, fun j hj => by omega, fun h0 => absurd h0 (Nat.lt_irrefl _)⟩
  · simp only [List.cons.injEq, and_true] at hc
    simp only [if_true] at hmm
    subst hmm
    refine ⟨some a, len, m, fun i => strOf (V0 i), fun i => strOf (V1 i), hc, by omega, hl, fun j hj => ?_, fun h0 => ?_⟩
    · obtain ⟨g0, g1, g2, g3⟩ := hall j (by omega)
      obtain ⟨N0, e0, _, w0⟩ := DataW.trod_string u0 g2
      obtain ⟨N1, e1, _, w1⟩ := DataW.trod_string u1 g3
      simp only [List.cons.injEq, and_true] at e0 e1
      simp only [e0, e1, strOf]
      exact ⟨w0, w1⟩
    · obtain ⟨sb, so, spot⟩ := a
      have hspot : spot = none := by simpa [Addr.add] using World.cell?_spot (hall 0 (by omega)).1
      subst hspot
      refine ⟨sb, so, rfl, World.block_lt_of_cell? w _ (hall 0 (by omega)).1, fun j hj => ?_⟩
      obtain ⟨g0, g1, g2, g3⟩ := hall j (by omega)
      obtain ⟨N0, e0, _, _⟩ := DataW.trod_string u0 g2
      obtain ⟨N1, e1, _, _⟩ := DataW.trod_string u1 g3
      simp only [List.cons.injEq, and_true] at e0 e1
      rw [e0] at g0
      rw [e1] at g1
      simp only [e0, e1, strOf]
      rw [add_plain] at g0 g1
      exact ⟨g0, g1⟩
theorem it_of {e er : TypeId} {f0 f1 f2 f3 g0 g1 : Field} {fuel : Nat} {cs : List Value} {x : DataW H × List MemPlace} (he : P.underlying e = some (.struct #[f0, f1, f2, f3])) (hone : oneCellFields P #[f0, f1, f2, f3] = true)
    (u0 : P.underlying f0.type = some (.int .i64)) (u1 : P.underlying f1.type = some .string) (u2 : P.underlying f2.type = some .string) (u3 : P.underlying f3.type = some (.slice er))
    (er2 : P.underlying er = some (.struct #[g0, g1])) (cr : P.cellsOf er = 2) (o0 : g0.offset = 0) (o1 : g1.offset = 1) (k0 : P.cellsOf g0.type = 1) (k1 : P.cellsOf g1.type = 1) (v0 : P.underlying g0.type = some .string) (v1 : P.underlying g1.type = some .string)
    (hl : cs.length = 4) (h : DataW.trod enc P w 0 (fun _ => true) held fuel e cs = some x) :
    ∃ (q : ItD) (ad : Option Addr) (cp : Nat), cs = [.int .i64 q.U, .string q.NM, .string q.TX, .slice ad q.AC cp] ∧ q.NM.size ≤ maxLen ∧ q.TX.size ≤ maxLen ∧ q.AC ≤ maxLen ∧ q.AC ≤ cp ∧ (∀ j, j < q.AC → (q.AN j).size ≤ maxLen ∧ (q.AV j).size ≤ maxLen) ∧ AtAt w ad q.AC q.AN q.AV w.heap.size := by
  match cs, hl with
  | [c0, c1, c2, c3], _ =>
    obtain ⟨y0, y1, y2, y3, n, -, -, h0, h1, h2, h3⟩ := trod_struct4 he h
    obtain ⟨p0, q0⟩ := hone_of hone 0 f0 rfl
    obtain ⟨p1, q1⟩ := hone_of hone 1 f1 rfl
    obtain ⟨p2, q2⟩ := hone_of hone 2 f2 rfl
    obtain ⟨p3, q3⟩ := hone_of hone 3 f3 rfl
    simp only [p0, q0, p1, q1, p2, q2, p3, q3, List.drop_zero, List.drop_succ_cons, List.take_succ_cons, List.take_zero] at h0 h1 h2 h3
    obtain ⟨m0, e0, -, -⟩ := DataW.trod_int u0 h0
    obtain ⟨m1, e1, -, w1⟩ := DataW.trod_string u1 h1
    obtain ⟨m2, e2, -, w2⟩ := DataW.trod_string u2 h2
    obtain ⟨ad, nr, cp, N, V, e3, hn, hcp, hs, hr⟩ := at_of u3 er2 cr o0 o1 k0 k1 v0 v1 h3
    simp only [List.cons.injEq, and_true] at e0 e1 e2
    exact ⟨⟨m0, m1, m2, nr, N, V⟩, ad, cp, by rw [e0, e1, e2, e3], w1, w2, hn, hcp, hs, hr⟩
theorem dc_of {t e er : TypeId} {f0 f1 f2 f3 g0 g1 : Field} {fuel : Nat} {v : Value} {x : DataW H × List MemPlace} (ht : P.underlying t = some (.slice e)) (he : P.underlying e = some (.struct #[f0, f1, f2, f3])) (ce : P.cellsOf e = 4) (hone : oneCellFields P #[f0, f1, f2, f3] = true)
    (u0 : P.underlying f0.type = some (.int .i64)) (u1 : P.underlying f1.type = some .string) (u2 : P.underlying f2.type = some .string) (u3 : P.underlying f3.type = some (.slice er))
    (er2 : P.underlying er = some (.struct #[g0, g1])) (cr : P.cellsOf er = 2) (o0 : g0.offset = 0) (o1 : g1.offset = 1) (k0 : P.cellsOf g0.type = 1) (k1 : P.cellsOf g1.type = 1) (v0 : P.underlying g0.type = some .string) (v1 : P.underlying g1.type = some .string)
    (h : DataW.trod enc P w 0 (fun _ => true) held fuel t [v] = some x) :
    ∃ (a : Option Addr) (n c : Nat) (D : Dc), v = .slice a n c ∧ D.n = n ∧ DcSz D ∧ DcAt w a D w.heap.size := by
  rcases open_slice ht h with ⟨hc, -⟩ | ⟨a, len, cap, m, n, D, Pl, hc, -, hl, hm, hmm, -, hx⟩
  · simp only [List.cons.injEq, and_true] at hc
    exact ⟨none, 0, 0, ⟨0, fun _ => 0, fun _ => ⟨#[]⟩, fun _ => ⟨#[]⟩, fun _ => 0, fun _ _ => ⟨#[]⟩, fun _ _ => ⟨#[]⟩⟩, hc, rfl, ⟨Nat.zero_le _, fun j hj => absurd hj (Nat.not_lt_zero j)⟩, fun h0 => absurd h0 (Nat.lt_irrefl _)⟩
  · simp only [List.cons.injEq, and_true] at hc
    simp only [if_true] at hmm
    subst hmm
    have each : ∀ i, i < m → ∃ q : ItD, ∃ (ad : Option Addr) (cp : Nat), (w.cell? (a.add (i * 4)) = some (.int .i64 q.U) ∧ w.cell? (a.add (i * 4 + 1)) = some (.string q.NM) ∧ w.cell? (a.add (i * 4 + 2)) = some (.string q.TX) ∧ w.cell? (a.add (i * 4 + 3)) = some (.slice ad q.AC cp)) ∧ q.NM.size ≤ maxLen ∧ q.TX.size ≤ maxLen ∧ q.AC ≤ maxLen ∧ q.AC ≤ cp ∧ (∀ j, j < q.AC → (q.AN j).size ≤ maxLen ∧ (q.AV j).size ≤ maxLen) ∧ AtAt w ad q.AC q.AN q.AV w.heap.size := by
      intro i hi
      obtain ⟨cs', h1, h2⟩ := hx i hi
      rw [ce] at h1
      obtain ⟨_, hlen, hcell⟩ := World.cells?_some h1
      obtain ⟨q, ad, cp, rfl, r1, r2, r3, r4, r5, r6⟩ := it_of he hone u0 u1 u2 u3 er2 cr o0 o1 k0 k1 v0 v1 hlen h2
      refine ⟨q, ad, cp, ⟨?_, ?_, ?_, ?_⟩, r1, r2, r3, r4, r5, r6⟩
      · have := hcell 0 (by omega); rw [add_add] at this; simpa using this
      · have := hcell 1 (by omega); rw [add_add] at this; simpa using this
      · have := hcell 2 (by omega); rw [add_add] at this; simpa using this
      · have := hcell 3 (by omega); rw [add_add] at this; simpa using this
    obtain ⟨q, hq⟩ := choose_lt each
    refine ⟨some a, len, m, ⟨len, fun i => (q i).U, fun i => (q i).NM, fun i => (q i).TX, fun i => (q i).AC, fun i => (q i).AN, fun i => (q i).AV⟩, hc, rfl, ⟨by show len ≤ maxLen; omega, fun j hj => ?_⟩, fun h0 => ?_⟩
    · have hj' : j < len := hj
      obtain ⟨ad, cp, -, r1, r2, r3, -, r5, -⟩ := hq j (by omega)
      exact ⟨r1, r2, r3, r5⟩
    · obtain ⟨sb, so, spot⟩ := a
      have h0' : 0 < len := h0
      obtain ⟨_, _, ⟨hz, _⟩, _⟩ := hq 0 (by omega)
      have hspot : spot = none := by simpa [Addr.add] using World.cell?_spot hz
      subst hspot
      refine ⟨sb, so, rfl, World.block_lt_of_cell? w _ hz, fun j hj => ?_⟩
      obtain ⟨ad, cp, ⟨z0, z1, z2, z3⟩, -, -, -, r4, -, r6⟩ := hq j (by have hj' : j < len := hj; omega)
      rw [add_plain] at z0 z1 z2 z3
      exact ⟨ad, cp, ⟨z0, z1, z2, z3⟩, r6, r4⟩
end
end Go.Proofs.YtfbahffljhnjbaaGreatDoor
