/-
  Texts put together: RunesLaw0, MaI, MaB.
-/
import Derived.Test.YtepommmmmfaihaaDoorC18
import Derived.Test.YtepommmmmfaihaaDoorC14
import Derived.Test.YtepommmmmfaihaaDoorC12
/-
  What the law over Runes wants besides: rows that stay, a mark on an empty row, how many characters a text has at most.
-/
namespace Go.Proofs.YtepommmmmfaihaaDoor
open Go.RowKit
set_option linter.unusedVariables false
set_option linter.unusedSimpArgs false
theorem runesL_len : ∀ (f : Nat) (l : List UInt8), l.length ≤ f → ∀ x, runesL l = some x → x.length ≤ l.length
  | 0, l, hf, x, hx => by
    have : l = [] := List.length_eq_zero_iff.1 (by omega)
    subst this
    rw [runesL_nil] at hx
    cases hx
    exact Nat.le_refl _
  | f + 1, l, hf, x, hx => by
    by_cases h : l = []
    · subst h
      rw [runesL_nil] at hx
      cases hx
      exact Nat.le_refl _
    · by_cases hb : Lib.decodeL l = (65533, 1)
      · rw [runesL_bad h hb] at hx; cases hx
      · have hl : 0 < l.length := List.length_pos_iff.2 h
        have hw := Lib.decodeL_width l
        rw [runesL_step h hb] at hx
        cases hy : runesL (l.drop (Lib.decodeL l).2) with
        | none => rw [hy] at hx; cases hx
        | some y =>
          rw [hy] at hx
          simp at hx
          subst hx
          have := runesL_len f (l.drop (Lib.decodeL l).2) (by rw [List.length_drop]; omega) y hy
          rw [List.length_drop] at this
          simp
          omega
theorem outL_len (s : ByteArray) : (outL (rns s)).length ≤ 20000 := by
  unfold rns
  by_cases h : s.size ≤ 20000
  · rw [if_pos h]
    cases hx : runesL s.data.toList with
    | none => simp [outL]
    | some x =>
      have := runesL_len s.data.toList.length s.data.toList (Nat.le_refl _) x hx
      have e : s.data.toList.length = s.size := Array.length_toList
      rw [e] at this
      show x.length ≤ 20000
      omega
  · rw [if_neg h]; simp [outL]
theorem s_runes_lb (s : ByteArray) (L : List Int) (b : Bool) (w : World) (hs : s.size ≤ 1048576) (hL : outL (rns s) = L) (hb : (rns s).isSome = b) :
    Calls Tryd.prog 17 #[.string s] w fun e w' => ∃ ad c, e = .returned (.tuple #[.slice ad L.length c, .bool b]) ∧ w'.ownsRow w.heap.size 2 1 (.slice ad L.length c) L.length (L.map (Value.int .i64)) ∧ Below w.heap.size w w' := by
  subst hL; subst hb; exact s_runes s w hs
theorem i_runes_lb (s : ByteArray) (L : List Int) (b : Bool) (w : World) (hs : s.size ≤ 1048576) (hT : Tabs w) (hL : outL (rns s) = L) (hb : (rns s).isSome = b) :
    Calls Tryd.prog 15 #[.string s] w fun e w' => ∃ ad c, e = .returned (.tuple #[.slice ad L.length c, .bool b]) ∧ w'.ownsRow w.heap.size 2 1 (.slice ad L.length c) L.length (L.map (Value.int .i64)) ∧ Below w.heap.size w w' := by
  subst hL; subst hb; exact i_runes s w hs hT
theorem own_stays {w w' : World} {B X : Nat} {e : TypeId} {v : Value} {n : Nat} {xs : List Value} (h : w.ownsRow B e 1 v n xs) (hb : Below X w w') (hX : ∀ k, v.ownBlock = some k → k < X) : w'.ownsRow B e 1 v n xs := by
  refine ⟨h.1, ?_⟩
  rcases h.2 with hn | ⟨g, cap, cur, hv, hB, hg, rest⟩
  · exact .inl hn
  · refine .inr ⟨g, cap, cur, hv, hB, ?_, rest⟩
    rw [hb.block g (hX g (by rw [hv]; rfl))]; exact hg
theorem own_rowAt' {w : World} {B n c : Nat} {ad : Option Addr} {e : TypeId} {xs : List Int} (hx : xs.length = n) (h : w.ownsRow B e 1 (.slice ad n c) n (xs.map (Value.int .i64))) : RowAt .i64 w ad xs w.heap.size := by
  intro hne
  rcases h.2 with ⟨hv, h0⟩ | ⟨g, cap, cur, hv, hB, hg, rest⟩
  · exact absurd (List.length_eq_zero_iff.1 (by omega)) hne
  · simp only [Value.slice.injEq] at hv
    obtain ⟨rfl, _, rfl⟩ := hv
    refine ⟨g, 0, rfl, (h.lt g rfl).2, fun j hj => ?_⟩
    rw [Nat.zero_add, h.cellAt j (by omega)]
    simp [List.getElem?_eq_getElem hj]
theorem own_below' {w w' : World} {B : Nat} {e : TypeId} {v : Value} {n : Nat} {xs : List Value} (h : w.ownsRow B e 1 v n xs) (hb : Below w.heap.size w w') : w'.ownsRow B e 1 v n xs :=
  own_stays h hb (fun k hk => (h.lt k hk).2)
theorem tabs_below {w w' : World} (h : Tabs w) (hb : Below w.heap.size w w') : Tabs w' := by
  refine ⟨fun c hc => ?_, fun i hi => ⟨?_, ?_⟩⟩
  · exact (hb.cell (p := ⟨_, c, none⟩) (World.block_lt_of_cell? w _ (h.1 c hc))).trans (h.1 c hc)
  · exact (hb.cell (p := ⟨_, 2 * i, none⟩) (World.block_lt_of_cell? w _ (h.2 i hi).1)).trans (h.2 i hi).1
  · exact (hb.cell (p := ⟨_, 2 * i + 1, none⟩) (World.block_lt_of_cell? w _ (h.2 i hi).2)).trans (h.2 i hi).2
end Go.Proofs.YtepommmmmfaihaaDoor

/-
  Contract: does the machine take a text?
-/
namespace Go.Proofs.YtepommmmmfaihaaDoor
open Go.RowKit Go.Joins Go.Maps
set_option linter.unusedVariables false
set_option linter.unusedSimpArgs false
def TkA (X : Rx) (M : List Sp) (C : List Int) (bb : Bool) (S : Nat → Bool) (w : World) (e : Ending) (w' : World) : Prop := ∃ z, e = .returned (.bool z) ∧ (z = true ↔ bb = true ∧ C.length ≤ 300 ∧ Hr M (clX X C) C.length S 0) ∧ Below w.heap.size w w'
set_option maxRecDepth 100000 in
set_option maxHeartbeats 8000000 in
theorem i_takes (X : Rx) (len : Nat) (hX : X.len = len) (hlen : len ≤ 120) (hnr : ∀ j, j < len → X.NR j ≤ maxLen) (b0 off cap B R : Nat) (M : List Sp) (K b : Nat) (s : ByteArray) (C : List Int) (N : Nat) (bb : Bool) (hs : s.size ≤ 1048576) (hC : outL (rns s) = C) (hbb : (rns s).isSome = bb) (hN : C.length = N) (hM : M.length = K) (hK1 : 1 ≤ K) (hK4 : K ≤ 400000) (hW : Wf X M) (S : Nat → Bool) (hcl : Clo M S) (w : World) (hT : Tabs w) (hr : RxRow w b0 off X B) (hb0 : b0 < B) (h : MA B w R (.slice (some ⟨b0, off, none⟩) len cap) (.map (some b)) (.int .i64 0) M) (hps : PS w b S K) :
    Calls Tryd.prog 24 #[.pointer (some ⟨R, 0, none⟩), .string s] w (TkA X M C bb S w) := by
  have CR := hide (i_runes_lb s C bb w hs hT hC hbb)
  have hB := (ma_lt h).1
  have HM := hide h
  have HR := hide hr
  have HW := hide hW
  have HPS := hide hps
  have HCL := hide hcl
  have HML := hide hM
  have HNL := hide hN
  have HXL := hide hX
  have HNR := hide hnr
  rw [hN] at CR
  have hN2 : N ≤ 20000 := by rw [← hN, ← hC]; exact outL_len s
  clear hC hbb hT h hr hW hps hcl hM hN hX hnr
  go_enter Tryd.func24, Tryd.ntmps24
  go_wp2_with fail
  refine CR.out.mono ?_
  rintro e w1 ⟨ad, c, rfl, ho, hb1⟩
  have HO := hide (own_rowAt' HNL.out ho)
  have HB1 := hide hb1
  have hsz1 := hb1.size
  clear ho hb1 CR
  cases bb
  · go_wp2
    go_ret
    exact ⟨false, rfl, ⟨fun e => (by cases e), fun e => (by cases e.1)⟩, HB1.out⟩
  · by_cases h3 : (300 : Int) < (N : Int)
    · go_wp2
      go_ret
      exact ⟨false, rfl, ⟨fun e => (by cases e), fun e => (by have := e.2.1; rw [HNL.out] at this; omega)⟩, HB1.out⟩
    · obtain ⟨sa, sc, d0, d1, d2, d3, -⟩ := ma_at (ma_go HM.out HB1.out)
      go_wp2
      clear sa sc d0 d1 d2 d3
      go_loopw [7, 30] (fun v7 v30 wr => ∃ (i bh : Nat) (Sh : Nat → Bool), v7 = .map (some bh) ∧ v30 = .int .i64 i ∧ i ≤ N ∧ Hid (PS wr bh Sh K) ∧ Hid (Clo M Sh) ∧ Hid (Hr M (clX X C) N Sh i ↔ Hr M (clX X C) N S 0) ∧ Hid (Below w1.heap.size w1 wr)) (fun _ v _ => N - (intOf v).toNat)
      case atStart => exact ⟨0, b, S, rfl, rfl, Nat.zero_le _, hide (ps_kp HPS.out (kp_blM HB1.out (fun _ => False)) (fun e => e)), HCL, hide Iff.rfl, hide (Below.refl _ _)⟩
      case round =>
        obtain ⟨i, bh, Sh, rfl, rfl, hi, HP, HC, HH, HB⟩ := hrel
        have HMr := hide (ma_go (ma_go HM.out HB1.out) HB.out)
        by_cases hlt : i < N
        · obtain ⟨g, o, rfl, hg, hc⟩ := HO.out (by intro e; have := HNL.out; rw [e] at this; simp at this; omega)
          obtain ⟨ch, hch⟩ : ∃ ch, C[i]?.getD 0 = ch := ⟨_, rfl⟩
          have hci : wr.cell? ⟨g, o + i, none⟩ = some (.int .i64 ch) := (HB.out.cell (p := ⟨g, o + i, none⟩) hg).trans (by rw [hc i (by rw [HNL.out]; exact hlt), ← hch])
          have HCH := hide hch
          have CA := hide (i_after X len HXL.out hlen HNR.out b0 off cap B R (.map (some bh)) (.int .i64 0) M K bh ch HML.out hK4 HW.out Sh wr)
          have CA2 := hide (fun ve => i_after X len HXL.out hlen HNR.out b0 off cap B R (.map (some b)) (.int .i64 0) M K bh ch HML.out hK4 HW.out Sh wr (rxRow_go (rxRow_go HR.out hb0 (HB1.out.mono hB)) hb0 (HB.out.mono (Nat.le_trans hB hsz1))) hb0 HMr.out ve)
          clear hc CA hch
          go_wp2_with (go_at_call 40; refine (CA2.out HP.out).mono ?_; rintro e w4 ⟨T4, rfl, hp4, hc4, ha4, hb4⟩; have HP4 := hide hp4; have HC4 := hide hc4; have HA4 := hide ha4; have HB4 := hide (HB.out.trans (hb4.mono HB.out.size)); clear hp4 hc4 ha4 hb4)
          go_roundw
          case rel =>
            refine ⟨i + 1, wr.heap.size, T4, rfl, by go_num, by omega, HP4, HC4, hide ?_, HB4⟩
            rw [← HH.out]
            refine hr_step hlt HC.out (fun x => ?_)
            have e : (fun n => clX X C n i) = dX X ch := by
              funext n
              rw [clX_at (by rw [HNL.out]; exact hlt), HCH.out]
              rfl
            rw [e]
            exact HA4.out x
          case measure => simp [intOf]; omega
        · have hin : i = N := by omega
          subst hin
          obtain ⟨sa, sc, d0, d1, d2, d3, -⟩ := ma_at HMr.out
          obtain ⟨n, D, hown, hn, hmap, hh, hSK⟩ := HP.out
          have HOW := hide hown
          have hkey : keyOf Tryd.prog 2 (.int .i64 (0 : Int)) = some (.int .i64 (0 : Int)) := keyI (p := 0) (by omega)
          obtain ⟨z, hz⟩ : ∃ z, Sh 0 = z := ⟨_, rfl⟩
          have HHas : Maps.has D (.int .i64 (0 : Int)) = z := (ps_has hh 0).trans hz
          have HZ := hide hz
          clear hown hmap hh hSK hz
          go_wp2_with (at_lookup; refine wpList_lookup_own_unit _ rfl _ _ 59 rfl 2 79 lawI Tryd.underlying59 (zeroU _) bh n _ rfl HOW.out _ _ rfl hkey ?_; rw [HHas])
          go_ret
          refine ⟨z, rfl, ?_, (HB1.out.trans (HB.out.mono hsz1)).alloc (Nat.le_trans hsz1 HB.out.size) _⟩
          rw [HNL.out, ← HH.out, hr_end HC.out (fun n i hc => by have := clX_lt hc; rw [HNL.out] at this; exact this), HZ.out]
          exact ⟨fun e => ⟨rfl, by omega, e⟩, fun e => e.2.2⟩
end Go.Proofs.YtepommmmmfaihaaDoor

/-
  Contracts: a fork more, one place or another, what may be left out.
-/
namespace Go.Proofs.YtepommmmmfaihaaDoor
open Go.RowKit Go.Joins
set_option linter.unusedVariables false
set_option linter.unusedSimpArgs false
set_option maxRecDepth 100000 in
set_option maxHeartbeats 4000000 in
theorem i_addFork (B R : Nat) (v0 v2 v3 : Value) (M : List Sp) (m : Nat) (w : World) (hM : M.length = m) (hX : m ≤ 400000) (h : MA B w R v0 v2 v3 M) :
    Calls Tryd.prog 37 #[.pointer (some ⟨R, 0, none⟩)] w fun e w' => e = .returned (.int .i64 m) ∧ MA B w' R v0 v2 v3 (M ++ [⟨true, 0, m, m⟩]) ∧ Bf B R w w' := by
  have C := hide (i_addM B R v0 v2 v3 M ⟨true, 0, m, m⟩ m w hM hX h)
  obtain ⟨sa, sc, d0, d1, d2, d3, -⟩ := ma_at h
  rw [hM] at d1
  clear h hM
  go_enter Tryd.func37, Tryd.ntmps37
  go_wp2_with (go_at_call 52; refine C.out.mono ?_; rintro e w2 ⟨rfl, h2, hb2⟩; have H2 := hide h2; have HB2 := hide hb2; clear h2 hb2)
  go_ret
  exact ⟨rfl, H2.out, HB2.out⟩
/-- What either leaves. -/
def EiP (M2 : List Sp) (p q r : Nat) (M3 : List Sp) : Prop := (p = q ∧ r = p ∧ M3 = M2) ∨ (p ≠ q ∧ (∃ cs nx, M2[p]? = some ⟨true, cs, nx, q⟩) ∧ r = p ∧ M3 = M2) ∨ (p ≠ q ∧ r = M2.length ∧ M3 = M2 ++ [⟨true, 0, p, q⟩])
def EiA (B R : Nat) (v0 v2 v3 : Value) (M : List Sp) (p q : Nat) (w : World) (e : Ending) (w' : World) : Prop := ∃ r M3, e = .returned (.int .i64 (r : Nat)) ∧ EiP M p q r M3 ∧ MA B w' R v0 v2 v3 M3 ∧ Bf B R w w'
set_option maxRecDepth 100000 in
set_option maxHeartbeats 8000000 in
theorem i_either (B R : Nat) (v0 v2 v3 : Value) (M : List Sp) (p q m : Nat) (w : World) (hM : M.length = m) (hX : m ≤ 400000) (hp : p < m) (hq : q < m) (h : MA B w R v0 v2 v3 M) :
    Calls Tryd.prog 53 #[.pointer (some ⟨R, 0, none⟩), .int .i64 p, .int .i64 q] w (EiA B R v0 v2 v3 M p q w) := by
  obtain ⟨s, hs⟩ : ∃ s, M[p]? = some s := ⟨_, List.getElem?_eq_getElem (by omega)⟩
  have HS := hide hs
  have hB := ma_lt h
  have HB0 := hide hB.1
  have bA : ∀ o, Hid (Bf B R w (w.alloc o)) := fun o => hide (bf_alloc hB.1 _)
  have mA : ∀ o, Hid (MA B (w.alloc o) R v0 v2 v3 M) := fun o => hide (ma_go h ((Below.refl w.heap.size w).alloc (Nat.le_refl _) o))
  have CA := hide (fun w h => i_addM B R v0 v2 v3 M ⟨true, 0, p, q⟩ m w hM hX h)
  obtain ⟨sa, sc, d0, d1, d2, d3, hat⟩ := ma_at h
  obtain ⟨g, rfl, hg, s0, s1, s2, s3⟩ := hat p s hs
  obtain ⟨fk, cs, nx, ot⟩ := s
  simp only at s0 s1 s2 s3
  have HM := hide hM
  rw [hM] at d1
  have hi : (p : Int) < (m : Int) := by omega
  have hi0 : (0 : Int) ≤ (p : Int) := by omega
  clear h hM hs hat hB
  by_cases e : p = q
  · subst e
    go_enter Tryd.func53, Tryd.ntmps53
    go_wp2
    go_ret
    exact ⟨p, M, rfl, .inl ⟨rfl, rfl, rfl⟩, (mA _).out, (bA _).out⟩
  · have e1 : ((p : Int) == (q : Int)) = false := by rw [beq_eq_false_iff_ne]; omega
    by_cases e2 : fk = true ∧ ot = q
    · obtain ⟨rfl, rfl⟩ := e2
      go_enter Tryd.func53, Tryd.ntmps53
      go_wp2
      go_ret
      exact ⟨p, M, rfl, .inr (.inl ⟨e, ⟨cs, nx, HS.out⟩, rfl, rfl⟩), (mA _).out, (bA _).out⟩
    · cases fk
      · go_enter Tryd.func53, Tryd.ntmps53
        go_wp2_with (go_at_call 52; refine (CA.out _ (mA _).out).mono ?_; rintro e w2 ⟨rfl, h2, hb2⟩; have H2 := hide h2; have HB2 := hide (bf_trans (bA _).out hb2); clear h2 hb2)
        go_ret
        exact ⟨m, _, rfl, .inr (.inr ⟨e, HM.out.symm, rfl⟩), H2.out, HB2.out⟩
      · have e3 : ((ot : Int) == (q : Int)) = false := by
          rw [beq_eq_false_iff_ne]
          intro x
          exact e2 ⟨rfl, by omega⟩
        clear e2
        go_enter Tryd.func53, Tryd.ntmps53
        go_wp2_with (go_at_call 52; refine (CA.out _ (mA _).out).mono ?_; rintro e w2 ⟨rfl, h2, hb2⟩; have H2 := hide h2; have HB2 := hide (bf_trans (bA _).out hb2); clear h2 hb2)
        go_ret
        exact ⟨m, _, rfl, .inr (.inr ⟨e, HM.out.symm, rfl⟩), H2.out, HB2.out⟩
def lfB (kd mn mx : Int) : Bool := decide (kd = 5) && decide (mn = 0) && (decide (mx = 1) || decide (mx = -1))
set_option maxRecDepth 100000 in
set_option maxHeartbeats 4000000 in
theorem i_left (kd : Int) (nt : Bool) (a : Option Addr) (n c : Nat) (A B mn mx : Int) (w : World) :
    Calls Tryd.prog 64 #[.agg #[.int .i64 kd, .bool nt, .slice a n c, .int .i64 A, .int .i64 B, .int .i64 mn, .int .i64 mx]] w fun e w' => e = .returned (.bool (lfB kd mn mx)) ∧ Below w.heap.size w w' := by
  have st : ∀ o, Hid (Below w.heap.size w (w.alloc o)) := fun o => hide ((Below.refl _ _).alloc (Nat.le_refl _) _)
  by_cases h5 : kd = 5
  · subst h5
    by_cases h0 : mn = 0
    · subst h0
      by_cases h1 : mx = 1
      · subst h1
        go_enter Tryd.func64, Tryd.ntmps64
        go_wp2
        go_ret
        exact ⟨rfl, (st _).out⟩
      · have e1 : (mx == 1) = false := by rw [beq_eq_false_iff_ne]; exact h1
        by_cases h2 : mx = -1
        · subst h2
          go_enter Tryd.func64, Tryd.ntmps64
          go_wp2
          go_ret
          exact ⟨rfl, (st _).out⟩
        · have e2 : (mx == -1) = false := by rw [beq_eq_false_iff_ne]; exact h2
          have HV : Hid (lfB 5 0 mx = false) := hide (by simp [lfB, h1, h2])
          clear h1 h2
          go_enter Tryd.func64, Tryd.ntmps64
          go_wp2
          go_ret
          exact ⟨ret_bool HV.out.symm, (st _).out⟩
    · have e0 : (mn == 0) = false := by rw [beq_eq_false_iff_ne]; exact h0
      have HV : Hid (lfB 5 mn mx = false) := hide (by simp [lfB, h0])
      clear h0
      go_enter Tryd.func64, Tryd.ntmps64
      go_wp2
      go_ret
      exact ⟨ret_bool HV.out.symm, (st _).out⟩
  · have e0 : (kd == 5) = false := by rw [beq_eq_false_iff_ne]; exact h5
    have HV : Hid (lfB kd mn mx = false) := hide (by simp [lfB, h5])
    clear h5
    go_enter Tryd.func64, Tryd.ntmps64
    go_wp2
    go_ret
    exact ⟨ret_bool HV.out.symm, (st _).out⟩
end Go.Proofs.YtepommmmmfaihaaDoor
