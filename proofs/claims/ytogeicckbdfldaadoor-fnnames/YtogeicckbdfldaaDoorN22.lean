/-
  Texts put together: QnMath, QnS.
-/
import Derived.Test.YtogeicckbdfldaaDoorN21
import Derived.Test.YtogeicckbdfldaaDoorN10
import Derived.Test.YtogeicckbdfldaaDoorN2
/-
  Plain facts on the names of attributes, of no program's run: which are left out, what their prefixes are bound to, and the row of those that are told.
-/
namespace Go.Proofs.YtogeicckbdfldaaDoor
open Go.RowKit Go.Joins
set_option linter.unusedVariables false
set_option linter.unusedSimpArgs false
abbrev QL := List (ByteArray × ByteArray)
def qsk (nm : ByteArray) : Bool := (bdK nm).isSome
def qsp (D : Dc) (x : Int) (nm : ByteArray) : ByteArray := if (spl nm).1.toList.isEmpty = true then ⟨#[]⟩ else bnV D x (spl nm).1
def qok (D : Dc) (x : Int) (nm : ByteArray) : Bool := (spl nm).1.toList.isEmpty || bnK D x (spl nm).1
def qA (L : QL) (j : Nat) : ByteArray := (L[j]?.getD (⟨#[]⟩, ⟨#[]⟩)).1
def qB (L : QL) (j : Nat) : ByteArray := (L[j]?.getD (⟨#[]⟩, ⟨#[]⟩)).2
def qdup (L : QL) (x y : ByteArray) : Bool := anyQ L.length (qA L) (qB L) x y
/-- The names of the first k attributes at x; none: one has none, or two are one. -/
def qn (D : Dc) (x : Int) (N : Nat → ByteArray) : Nat → Option QL
  | 0 => some []
  | k + 1 => match qn D x N k with
    | none => none
    | some L => if qsk (N k) = true then some L else if qok D x (N k) = true then (if qdup L (qsp D x (N k)) (spl (N k)).2.1 = true then none else some (L ++ [(qsp D x (N k), (spl (N k)).2.1)])) else none
section
variable {D : Dc} {x : Int} {N : Nat → ByteArray} {k : Nat} {L : QL}
theorem qn_skip (h : qn D x N k = some L) (hs : qsk (N k) = true) : qn D x N (k + 1) = some L := by
  rw [qn, h]; dsimp only; rw [if_pos hs]
theorem qn_bad (h : qn D x N k = some L) (hs : qsk (N k) = false) (ho : qok D x (N k) = false) : qn D x N (k + 1) = none := by
  rw [qn, h]; dsimp only; rw [if_neg (by rw [hs]; decide), if_neg (by rw [ho]; decide)]
theorem qn_dup (h : qn D x N k = some L) (hs : qsk (N k) = false) (ho : qok D x (N k) = true) (hd : qdup L (qsp D x (N k)) (spl (N k)).2.1 = true) : qn D x N (k + 1) = none := by
  rw [qn, h]; dsimp only; rw [if_neg (by rw [hs]; decide), if_pos ho, if_pos hd]
theorem qn_put (h : qn D x N k = some L) (hs : qsk (N k) = false) (ho : qok D x (N k) = true) (hd : qdup L (qsp D x (N k)) (spl (N k)).2.1 = false) : qn D x N (k + 1) = some (L ++ [(qsp D x (N k), (spl (N k)).2.1)]) := by
  rw [qn, h]; dsimp only; rw [if_neg (by rw [hs]; decide), if_pos ho, if_neg (by rw [hd]; decide)]
theorem qn_none (h : qn D x N k = none) : ∀ m, k ≤ m → qn D x N m = none
  | 0, hm => by
    have : k = 0 := by omega
    subst this; exact h
  | m + 1, hm => by
    by_cases e : k = m + 1
    · subst e; exact h
    · rw [qn, qn_none h m (by omega)]
theorem qn_len : ∀ (k : Nat) (L : QL), qn D x N k = some L → L.length ≤ k
  | 0, L, h => by rw [qn] at h; cases h; exact Nat.le_refl _
  | k + 1, L, h => by
    rw [qn] at h
    cases hk : qn D x N k with
    | none => rw [hk] at h; cases h
    | some L' =>
      rw [hk] at h
      dsimp only at h
      have := qn_len k L' hk
      split at h
      · cases h; omega
      · split at h
        · split at h
          · cases h
          · cases h; simp; omega
        · cases h
end
theorem pairs_put {xs : List Value} {L : QL} {m : Nat} (h : PairsS xs m (qA L) (qB L)) (hl : xs.length = m * 2) (hm : L.length = m) (q : ByteArray × ByteArray) : PairsS (xs ++ [.string q.1, .string q.2]) (m + 1) (qA (L ++ [q])) (qB (L ++ [q])) := by
  intro j hj
  by_cases e : j = m
  · subst e
    have e1 : (L ++ [q])[j]? = some q := by rw [List.getElem?_append_right (by omega)]; simp [hm]
    unfold qA qB
    rw [e1, List.getElem?_append_right (by omega), List.getElem?_append_right (by omega), hl, show j * 2 - j * 2 = 0 by omega, show j * 2 + 1 - j * 2 = 1 by omega]
    exact ⟨rfl, rfl⟩
  · obtain ⟨h1, h2⟩ := h j (by omega)
    have e1 : (L ++ [q])[j]? = L[j]? := List.getElem?_append_left (by omega)
    unfold qA at h1
    unfold qB at h2
    unfold qA qB
    rw [e1, List.getElem?_append_left (by omega), List.getElem?_append_left (by omega)]
    exact ⟨h1, h2⟩
theorem own_put {B m c2 : Nat} {w2 : World} {ad2 : Option Addr} {xs : List Value} {L : QL} (hp : PairsS xs m (qA L) (qB L)) (hl : xs.length = m * 2) (hm : L.length = m) (q : ByteArray × ByteArray)
    (ho : w2.ownsRow B 41 2 (.slice ad2 (m + 1) c2) (m + 1) (xs ++ [.string q.1, .string q.2])) : OwnQ B w2 ad2 (m + 1) c2 (qA (L ++ [q])) (qB (L ++ [q])) := ⟨_, ho, pairs_put hp hl hm q⟩
/-- What is left out, as the specification asks it. -/
theorem skip_spec {nm : ByteArray} (h : (spl nm).2.2 = true) : qsk nm = (((spl nm).1.toList == [120, 109, 108, 110, 115]) || ((spl nm).1.toList.isEmpty && ((spl nm).2.1.toList == [120, 109, 108, 110, 115]))) := by
  unfold qsk bdK
  cases f1 : ((spl nm).1.toList == [120, 109, 108, 110, 115])
  · rw [if_neg (by decide)]
    rcases colon_cases nm with hc | ⟨k, hc, hk⟩
    · have hn : nameB nm = true := by
        cases hb : nameB nm
        · rw [spl_b hc hb] at h; cases h
        · rfl
      rw [spl_a hc hn]
      have e0 : (noText : ByteArray).toList.isEmpty = true := by rw [ByteArray.toList_eq]; rfl
      dsimp only
      rw [e0]
      cases f2 : (nm.toList == [120, 109, 108, 110, 115])
      · rfl
      · rfl
    · have f2 : (nm.toList == [120, 109, 108, 110, 115]) = false := by
        cases f2 : (nm.toList == [120, 109, 108, 110, 115])
        · rfl
        · rw [beq_iff_eq, ByteArray.toList_eq] at f2
          unfold colon at hc
          rw [f2] at hc
          have : Lib.indexByte [120, 109, 108, 110, 115] 58 = -1 := by decide
          rw [this] at hc
          omega
      have f3 : (spl nm).1.toList.isEmpty = false := by
        cases h1 : nameB (nm.extract 0 k)
        · rw [spl_d hc (.inl h1)] at h; cases h
        · cases h2 : nameB (nm.extract (k + 1) nm.size)
          · rw [spl_d hc (.inr h2)] at h; cases h
          · rw [spl_c hc h1 h2]
            dsimp only
            rw [List.isEmpty_eq_false_iff]
            intro e
            rw [ByteArray.toList_eq] at e
            have : (nm.extract 0 k).size = 0 := by
              have h9 : (nm.extract 0 k).data.toList.length = 0 := by rw [e]; rfl
              simpa using h9
            rw [nameB_none _ this] at h1
            cases h1
      rw [f2, f3]
      rfl
  · rfl
/-- An answer of names. -/
def QAns (o : Option QL) (w : World) (e : Ending) (w' : World) : Prop := Below w.heap.size w w' ∧
  ((o = none ∧ e = .returned (.tuple #[.slice none 0 0, .bool false])) ∨ ∃ L ad c, o = some L ∧ e = .returned (.tuple #[.slice ad L.length c, .bool true]) ∧ OwnQ w.heap.size w' ad L.length c (qA L) (qB L))
theorem infoQ : (Tryd.prog.info? 41).map (fun i => (i.zero, i.size, i.bytes)) = some (some (.agg #[.string ⟨#[]⟩, .string ⟨#[]⟩]), 2, 32) := by kernel_rfl
end Go.Proofs.YtogeicckbdfldaaDoor

/-
  Contract: the names of an item's attributes, by the specification.
-/
namespace Go.Proofs.YtogeicckbdfldaaDoor
open Go.RowKit Go.Joins
set_option linter.unusedVariables false
set_option linter.unusedSimpArgs false
theorem s_splitB (s : ByteArray) (w : World) (hs : s.size ≤ 1048576) : Calls Tryd.prog 40 #[.string s] w fun e w' => e = .returned (.tuple #[.string (spl s).1, .string (spl s).2.1, .bool (spl s).2.2]) ∧ Below w.heap.size w w' := by
  refine (s_split s w hs).mono ?_
  rintro e w' ⟨rfl, q, rfl⟩
  exact ⟨rfl, ⟨rfl, rfl, rfl, Nat.le_refl _, fun _ _ => rfl⟩⟩
theorem spl_sz (s : ByteArray) : (spl s).1.size ≤ s.size ∧ (spl s).2.1.size ≤ s.size := by
  have h0 : (noText : ByteArray).size = 0 := rfl
  have ha := ByteArray.size_extract (a := s) (b := 0) (e := (colon s).toNat)
  have hb := ByteArray.size_extract (a := s) (b := (colon s).toNat + 1) (e := s.size)
  unfold spl
  split
  · split
    · exact ⟨by show noText.size ≤ _; omega, Nat.le_refl _⟩
    · exact ⟨by show noText.size ≤ _; omega, by show noText.size ≤ _; omega⟩
  · split
    · exact ⟨by show (pre s).size ≤ _; unfold pre; omega, by show (post s).size ≤ _; unfold post; omega⟩
    · exact ⟨by show noText.size ≤ _; omega, by show noText.size ≤ _; omega⟩
/-- While the names are told. -/
def QsRel (D : Dc) (x : Int) (N : Nat → ByteArray) (w wr : World) (i : Nat) (L : QL) (ad : Option Addr) (c : Nat) : Prop := qn D x N i = some L ∧ OwnQ w.heap.size wr ad L.length c (qA L) (qB L) ∧ Below w.heap.size w wr
theorem qs_go {D : Dc} {x : Int} {N : Nat → ByteArray} {w wr w2 : World} {i : Nat} {L : QL} {ad : Option Addr} {c : Nat} (h : QsRel D x N w wr i L ad c) (hb : Below wr.heap.size wr w2) : QsRel D x N w w2 i L ad c :=
  ⟨h.1, ownQ_go h.2.1 hb, h.2.2.trans (hb.mono h.2.2.size)⟩
/-- While a name is held against those that were told: it lies in the block G. -/
def QiRel (w2 wr : World) (B G : Nat) (L : QL) (ad : Option Addr) (c : Nat) (sp lo : ByteArray) (k : Nat) : Prop := CellsAt wr G #[.string sp, .string lo] ∧ OwnQ B wr ad L.length c (qA L) (qB L) ∧ Below G w2 wr ∧ G < wr.heap.size ∧ ∀ j, j < k → (sameS sp (qA L j) && sameS lo (qB L j)) = false
theorem qi_drew {w2 wr : World} {B G : Nat} {L : QL} {ad : Option Addr} {c : Nat} {sp lo : ByteArray} {k : Nat} (h : QiRel w2 wr B G L ad c sp lo k) (he : (sameS sp (qA L k) && sameS lo (qB L k)) = false) : QiRel w2 wr.drew B G L ad c sp lo (k + 1) := by
  obtain ⟨h1, h2, h3, h4, h5⟩ := h
  refine ⟨h1, h2, ⟨h3.os, h3.tape, h3.output, h3.size, h3.block⟩, h4, fun j hj => ?_⟩
  by_cases e : j = k
  · subst e; exact he
  · exact h5 j (by omega)
theorem qi_start {D : Dc} {x : Int} {N : Nat → ByteArray} {w w2 W : World} {i : Nat} {L : QL} {ad : Option Addr} {c : Nat} {sp lo : ByteArray} (h : QsRel D x N w w2 i L ad c) (hk : CellsAt W w2.heap.size #[.string sp, .string lo]) (hb : Below w2.heap.size w2 W) (hs : w2.heap.size < W.heap.size) : QiRel w2 W w.heap.size w2.heap.size L ad c sp lo 0 :=
  ⟨hk, ownQ_go h.2.1 hb, hb, hs, fun j hj => by omega⟩
set_option maxRecDepth 100000 in
set_option maxHeartbeats 8000000 in
theorem s_qattrs (D : Dc) (n b off cap : Nat) (w : World) (x : Nat) (hD : D.n = n) (hn : n ≤ 200) (hx : x < n) (hbs : b < w.heap.size) (hr : DcRow w b off D w.heap.size) (hdec : ∀ j, j < n → -1 ≤ D.U j ∧ D.U j < j) (hac : ∀ j, j < n → D.AC j ≤ 1048576 ∧ ∀ i, i < D.AC j → (D.AN j i).size ≤ 1048576) (hok : AttrsOk D n) :
    Calls Tryd.prog 42 #[.slice (some ⟨b, off, none⟩) n cap, .int .i64 x] w (QAns (qn D x (D.AN x) (D.AC x)) w) := by
  obtain ⟨i0, hi, hz0, hz1, hz2⟩ := info_parts infoQ
  have HD := hide hD
  have HR := hide hr
  have hxn : (x : Int) < (n : Int) := by omega
  have hacx := (hac x hx).1
  have HSZ := hide (hac x hx).2
  have HOK := hide (hok x hx).1
  have CB : Hid (∀ (w2 : World) (p : ByteArray), p.size ≤ 1048576 → b < w2.heap.size → DcRow w2 b off D w2.heap.size → Calls Tryd.prog 41 #[.slice (some ⟨b, off, none⟩) n cap, .int .i64 x, .string p] w2 fun e w' => e = .returned (.tuple #[.string (bnV D x p), .bool (bnK D x p)]) ∧ w' = w2) := hide fun w2 p hp hb2 hr2 =>
    s_bound D n b off cap w2 x p hD hn hx hb2 hr2 (fun j hj => (hdec j hj).2) (fun j hj => (hdec j hj).1) (fun j hj => (hac j hj).1) hp
  obtain ⟨adx, cpx, hcx, hatx, hlx⟩ := hr x (by omega)
  have HCX := hide hcx
  have HAX := hide hatx
  obtain ⟨m, hm⟩ : ∃ m, D.AC x = m := ⟨_, rfl⟩
  have HMM := hide hm
  rw [hm] at hacx HSZ HOK HAX hlx ⊢
  clear hr hD hdec hac hok hcx hatx hm
  go_enter Tryd.func42, Tryd.ntmps42
  go_wp2
  go_loopw [6, 7] (fun v iv wr => ∃ (i : Nat) (L : QL) (ad : Option Addr) (c : Nat), i ≤ m ∧ iv = .int .i64 i ∧ v = .slice ad L.length c ∧ QsRel D x (D.AN x) w wr i L ad c) (fun _ iv _ => m - (intOf iv).toNat)
  case atStart => exact ⟨0, [], some ⟨w.heap.size, 0, none⟩, 0, Nat.zero_le _, rfl, rfl, rfl, ⟨[], World.ownsRow_made (base := w.heap.size) (e := 41) (size := 2) w #[] 0 (Nat.le_refl _) (Nat.zero_le _) rfl, fun j hj => by cases hj⟩, (Below.refl _ _).alloc (Nat.le_refl _) _⟩
  case round =>
    obtain ⟨i, L, ad, c, hi9, rfl, rfl, hrel⟩ := hrel
    have HB := hide hrel.2.2
    have HRL := hide hrel
    have hLi := qn_len i L hrel.1
    obtain ⟨c0, c1, c2, c3⟩ := dcCells_go HCX.out hbs HB.out
    rw [HMM.out] at c3
    clear hrel
    by_cases hlt : i < m
    · obtain ⟨ba, oa, rfl, hba, hca⟩ := HAX.out (by omega)
      have a0 : wr.cell? ⟨ba, oa + i * 2, none⟩ = some (.string (D.AN x i)) := (HB.out.cell hba).trans (hca i hlt).1
      have hiI : (i : Int) < (m : Int) := by omega
      have hsp := skip_spec (HOK.out i hlt)
      have hnz := HSZ.out i hlt
      obtain ⟨N, hN⟩ : ∃ N, D.AN x i = N := ⟨_, rfl⟩
      have HN := hide hN
      rw [hN] at a0 hsp hnz
      have hpz := spl_sz N
      have CS := hide (fun w9 => s_splitB N w9 hnz)
      obtain ⟨P, hP⟩ : ∃ P, (spl N).1 = P := ⟨_, rfl⟩
      obtain ⟨Lo, hLo⟩ : ∃ Lo, (spl N).2.1 = Lo := ⟨_, rfl⟩
      have HP := hide hP
      have HLo := hide hLo
      rw [hP, hLo] at CS hsp hpz
      have hPz : P.size ≤ 1048576 := by omega
      have HSP := hide hsp
      clear hca hN hP hLo hsp hpz hnz
      have CB' : Hid (∀ (w2 : World), b < w2.heap.size → DcRow w2 b off D w2.heap.size → Calls Tryd.prog 41 #[.slice (some ⟨b, off, none⟩) n cap, .int .i64 x, .string P] w2 fun e w' => e = .returned (.tuple #[.string (bnV D x P), .bool (bnK D x P)]) ∧ w' = w2) := hide fun w9 h1 h2 => CB.out w9 P hPz h1 h2
      cases f1 : (P.toList == [120, 109, 108, 110, 115])
      · cases f2 : P.toList.isEmpty
        · have HSK : Hid (qsk (D.AN x i) = false) := hide (by rw [HN.out, HSP.out, f1, f2]; rfl)
          obtain ⟨S, hS⟩ : ∃ S, bnV D x P = S := ⟨_, rfl⟩
          have HQSP : Hid (qsp D x (D.AN x i) = S) := hide (by unfold qsp; rw [HN.out, HP.out, if_neg (by rw [f2]; decide)]; exact hS)
          cases hK : bnK D x P
          · have HQOK : Hid (qok D x (D.AN x i) = false) := hide (by unfold qok; rw [HN.out, HP.out, f2, hK]; rfl)
            rw [hS, hK] at CB'
            clear hS
            go_wp2_with (first | (go_at_call 40; refine (CS.out _).mono ?_; rintro e w2 ⟨rfl, hb2⟩; have HRL2 := hide (qs_go HRL.out hb2); clear hb2))
            have hbw2 : b < w2.heap.size := Nat.lt_of_lt_of_le hbs HRL2.out.2.2.size
            refine (CB'.out _ (by simp; omega) (dcRow_up (dcRow_go HR.out hbs (HRL2.out.2.2.alloc HRL2.out.2.2.size _)) (HRL2.out.2.2.alloc HRL2.out.2.2.size _).size)).mono ?_
            rintro e w9 ⟨rfl, h9⟩
            rw [h9]
            clear h9 w9
            go_wp2
            go_ret2
            exact ⟨HRL2.out.2.2.alloc HRL2.out.2.2.size _, .inl ⟨qn_none (qn_bad HRL2.out.1 HSK.out HQOK.out) m (by omega), rfl⟩⟩
          · have HQOK : Hid (qok D x (D.AN x i) = true) := hide (by unfold qok; rw [HN.out, HP.out, f2, hK]; rfl)
            rw [hS, hK] at CB'
            clear hS
            go_wp2_with (first | (go_at_call 40; refine (CS.out _).mono ?_; rintro e w2 ⟨rfl, hb2⟩; have HRL2 := hide (qs_go HRL.out hb2); clear hb2))
            have hbw2 : b < w2.heap.size := Nat.lt_of_lt_of_le hbs HRL2.out.2.2.size
            refine (CB'.out _ (by simp; omega) (dcRow_up (dcRow_go HR.out hbs (HRL2.out.2.2.alloc HRL2.out.2.2.size _)) (HRL2.out.2.2.alloc HRL2.out.2.2.size _).size)).mono ?_
            rintro e w9 ⟨rfl, h9⟩
            rw [h9]
            clear h9 w9
            go_wp2
            go_loopw [14] (fun kv wq => ∃ k : Nat, k ≤ L.length ∧ kv = .int .i64 k ∧ QiRel w2 wq w.heap.size w2.heap.size L ad c S Lo k) (fun kv _ => L.length - (intOf kv).toNat)
            case atStart => exact ⟨0, Nat.zero_le _, rfl, qi_start HRL2.out (cellsAt_new w2 #[.string S, .string Lo] 41) ((Below.refl _ _).alloc (Nat.le_refl _) _) (by simp)⟩
            case round =>
              obtain ⟨k, hk, rfl, hq⟩ := hrel
              have HQ := hide hq
              have q0 : wr.cell? ⟨w2.heap.size, 0, none⟩ = some (.string S) := cellsAt_cell hq.1 0
              have q1 : wr.cell? ⟨w2.heap.size, 1, none⟩ = some (.string Lo) := cellsAt_cell hq.1 1
              have hBw := hide ((HRL2.out.2.2).trans (hq.2.2.1.mono HRL2.out.2.2.size))
              have hszw : w.heap.size ≤ wr.heap.size := hBw.out.size
              clear hq
              by_cases hkl : k < L.length
              · obtain ⟨bq, oq, hadq, hbq, hcq⟩ := ownQ_at HQ.out.2.1 (by omega)
                have r0 := (hcq k hkl).1
                have r1 := (hcq k hkl).2
                have hkI : (k : Int) < (L.length : Int) := by omega
                have hk0 : (0 : Int) ≤ (k : Int) := by omega
                subst hadq
                clear hcq hbq
                by_cases e1 : (qA L k).toList = S.toList
                · by_cases e2 : (qB L k).toList = Lo.toList
                  · have HE : Hid (qdup L S Lo = true) := hide (anyQ_hit hkl (by unfold sameS; rw [e1, e2]; simp))
                    go_wp2
                    go_region
                    go_wp2
                    go_ret2
                    exact ⟨below_dq hBw.out, .inl ⟨qn_none (qn_dup HRL2.out.1 HSK.out HQOK.out (by rw [HQSP.out, HN.out, HLo.out]; exact HE.out)) m (by omega), rfl⟩⟩
                  · have HE : Hid ((sameS S (qA L k) && sameS Lo (qB L k)) = false) := hide (by unfold sameS; rw [beq_eq_false_iff_ne.2 (Ne.symm e2)]; simp)
                    go_wp2
                    go_region
                    go_wp2
                    go_roundw
                    case rel => exact ⟨k + 1, by omega, by go_num, qi_drew HQ.out HE.out⟩
                    case measure => simp [intOf]; omega
                · have HE : Hid ((sameS S (qA L k) && sameS Lo (qB L k)) = false) := hide (by unfold sameS; rw [beq_eq_false_iff_ne.2 (Ne.symm e1)]; simp)
                  go_wp2
                  go_region
                  go_wp2
                  go_roundw
                  case rel => exact ⟨k + 1, by omega, by go_num, qi_drew HQ.out HE.out⟩
                  case measure => simp [intOf]; omega
              · have hkn : k = L.length := by omega
                subst hkn
                obtain ⟨xs, hox, hpx⟩ := HQ.out.2.1
                have HOX := hide hox
                have HPX := hide hpx
                have HNE := hide (qn_put HRL2.out.1 HSK.out HQOK.out (by rw [HQSP.out, HN.out, HLo.out]; exact anyQ_no HQ.out.2.2.2.2))
                clear hox hpx
                go_wp2_with (first | (at_builtin; refine wpList_append_own _ rfl (.tmp 77) (.tmp 79) 37 rfl w.heap.size 41 i0 (.agg #[.string ⟨#[]⟩, .string ⟨#[]⟩]) 2 32 Tryd.underlying37 hi hz0 hz1 hz2 rfl (by decide) _ _ _ rfl (HOX.out.alloc _) ⟨wr.heap.size, 0, none⟩ 1 1 [.string S, .string Lo] rfl rfl (fun j u hj => gTwo_new wr _ _ _ j u hj) (gStr_two _ _) (by unfold maxLen; omega) (by omega) (by simp; omega) ?_; intro v2 w4 hown2 hgrow2 _; obtain ⟨ad2, c2', hv2⟩ := gOwn_shape hown2; rw [hv2] at hown2 ⊢; clear hv2; have HB4 := hide (gBelow_one hBw.out HOX.out hgrow2); have HO4 := hide hown2; clear hown2 hgrow2))
                go_roundw
                case rel =>
                  refine ⟨i + 1, L ++ [(S, Lo)], ad2, c2', by omega, by go_num, by simp, ?_, ?_, HB4.out⟩
                  · rw [HNE.out, HQSP.out, HN.out, HLo.out]
                  · have h := own_put HPX.out HOX.out.1 rfl (S, Lo) HO4.out
                    simpa using h
                case measure => simp [intOf]; omega
        · cases f3 : (Lo.toList == [120, 109, 108, 110, 115])
          · have HSK : Hid (qsk (D.AN x i) = false) := hide (by rw [HN.out, HSP.out, f1, f2, f3]; rfl)
            obtain ⟨E, hE⟩ : ∃ E : ByteArray, (⟨#[]⟩ : ByteArray) = E := ⟨_, rfl⟩
            have HEE := hide hE
            have HQSP : Hid (qsp D x (D.AN x i) = E) := hide (by unfold qsp; rw [HN.out, HP.out, if_pos f2]; exact hE)
            clear hE
            have HQOK : Hid (qok D x (D.AN x i) = true) := hide (by unfold qok; rw [HN.out, HP.out, f2]; rfl)
            go_wp2_with (first | (go_at_call 40; refine (CS.out _).mono ?_; rintro e w2 ⟨rfl, hb2⟩; have HRL2 := hide (qs_go HRL.out hb2); clear hb2))
            go_loopw [14] (fun kv wq => ∃ k : Nat, k ≤ L.length ∧ kv = .int .i64 k ∧ QiRel w2 wq w.heap.size w2.heap.size L ad c E Lo k) (fun kv _ => L.length - (intOf kv).toNat)
            case atStart => exact ⟨0, Nat.zero_le _, rfl, by rw [← HEE.out]; exact qi_start HRL2.out (cellsAt_new w2 #[.string ⟨#[]⟩, .string Lo] 41) ((Below.refl _ _).alloc (Nat.le_refl _) _) (by simp)⟩
            case round =>
              obtain ⟨k, hk, rfl, hq⟩ := hrel
              have HQ := hide hq
              have q0 : wr.cell? ⟨w2.heap.size, 0, none⟩ = some (.string E) := cellsAt_cell hq.1 0
              have q1 : wr.cell? ⟨w2.heap.size, 1, none⟩ = some (.string Lo) := cellsAt_cell hq.1 1
              have hBw := hide ((HRL2.out.2.2).trans (hq.2.2.1.mono HRL2.out.2.2.size))
              have hszw : w.heap.size ≤ wr.heap.size := hBw.out.size
              clear hq
              by_cases hkl : k < L.length
              · obtain ⟨bq, oq, hadq, hbq, hcq⟩ := ownQ_at HQ.out.2.1 (by omega)
                have r0 := (hcq k hkl).1
                have r1 := (hcq k hkl).2
                have hkI : (k : Int) < (L.length : Int) := by omega
                have hk0 : (0 : Int) ≤ (k : Int) := by omega
                subst hadq
                clear hcq hbq
                by_cases e1 : (qA L k).toList = E.toList
                · by_cases e2 : (qB L k).toList = Lo.toList
                  · have HE : Hid (qdup L E Lo = true) := hide (anyQ_hit hkl (by unfold sameS; rw [e1, e2]; simp))
                    go_wp2
                    go_region
                    go_wp2
                    go_ret2
                    exact ⟨below_dq hBw.out, .inl ⟨qn_none (qn_dup HRL2.out.1 HSK.out HQOK.out (by rw [HQSP.out, HN.out, HLo.out]; exact HE.out)) m (by omega), rfl⟩⟩
                  · have HE : Hid ((sameS E (qA L k) && sameS Lo (qB L k)) = false) := hide (by unfold sameS; rw [beq_eq_false_iff_ne.2 (Ne.symm e2)]; simp)
                    go_wp2
                    go_region
                    go_wp2
                    go_roundw
                    case rel => exact ⟨k + 1, by omega, by go_num, qi_drew HQ.out HE.out⟩
                    case measure => simp [intOf]; omega
                · have HE : Hid ((sameS E (qA L k) && sameS Lo (qB L k)) = false) := hide (by unfold sameS; rw [beq_eq_false_iff_ne.2 (Ne.symm e1)]; simp)
                  go_wp2
                  go_region
                  go_wp2
                  go_roundw
                  case rel => exact ⟨k + 1, by omega, by go_num, qi_drew HQ.out HE.out⟩
                  case measure => simp [intOf]; omega
              · have hkn : k = L.length := by omega
                subst hkn
                obtain ⟨xs, hox, hpx⟩ := HQ.out.2.1
                have HOX := hide hox
                have HPX := hide hpx
                have HNE := hide (qn_put HRL2.out.1 HSK.out HQOK.out (by rw [HQSP.out, HN.out, HLo.out]; exact anyQ_no HQ.out.2.2.2.2))
                clear hox hpx
                go_wp2_with (first | (at_builtin; refine wpList_append_own _ rfl (.tmp 77) (.tmp 79) 37 rfl w.heap.size 41 i0 (.agg #[.string ⟨#[]⟩, .string ⟨#[]⟩]) 2 32 Tryd.underlying37 hi hz0 hz1 hz2 rfl (by decide) _ _ _ rfl (HOX.out.alloc _) ⟨wr.heap.size, 0, none⟩ 1 1 [.string E, .string Lo] rfl rfl (fun j u hj => gTwo_new wr _ _ _ j u hj) (gStr_two _ _) (by unfold maxLen; omega) (by omega) (by simp; omega) ?_; intro v2 w4 hown2 hgrow2 _; obtain ⟨ad2, c2', hv2⟩ := gOwn_shape hown2; rw [hv2] at hown2 ⊢; clear hv2; have HB4 := hide (gBelow_one hBw.out HOX.out hgrow2); have HO4 := hide hown2; clear hown2 hgrow2))
                go_roundw
                case rel =>
                  refine ⟨i + 1, L ++ [(E, Lo)], ad2, c2', by omega, by go_num, by simp, ?_, ?_, HB4.out⟩
                  · rw [HNE.out, HQSP.out, HN.out, HLo.out]
                  · have h := own_put HPX.out HOX.out.1 rfl (E, Lo) HO4.out
                    simpa using h
                case measure => simp [intOf]; omega
          · go_wp2_with (first | (go_at_call 40; refine (CS.out _).mono ?_; rintro e w2 ⟨rfl, hb2⟩; have HRL2 := hide (qs_go HRL.out hb2); clear hb2))
            go_roundw
            case rel => exact ⟨i + 1, L, ad, c, by omega, by go_num, rfl, qn_skip HRL2.out.1 (by rw [HN.out, HSP.out]; rw [f1, f2, f3]; rfl), HRL2.out.2⟩
            case measure => simp [intOf]; omega
      · go_wp2_with (first | (go_at_call 40; refine (CS.out _).mono ?_; rintro e w2 ⟨rfl, hb2⟩; have HRL2 := hide (qs_go HRL.out hb2); clear hb2))
        go_roundw
        case rel => exact ⟨i + 1, L, ad, c, by omega, by go_num, rfl, qn_skip HRL2.out.1 (by rw [HN.out, HSP.out]; rw [f1]; rfl), HRL2.out.2⟩
        case measure => simp [intOf]; omega
    · have him : i = m := by omega
      subst him
      go_wp2
      go_ret2
      exact ⟨HB.out, .inr ⟨L, ad, c, HRL.out.1, rfl, HRL.out.2.1⟩⟩
end Go.Proofs.YtogeicckbdfldaaDoor
