/-
  Texts put together: QnN, QnO, FnA.
-/
import Derived.Test.YtogeicckbdfldaaDoorN23
import Derived.Test.YtogeicckbdfldaaDoorN18
import Derived.Test.YtogeicckbdfldaaDoorN21
/-
  Contracts: NamesOf, the program's and the specification's; the walk of FnExactNamesOf.
-/
namespace Go.Proofs.YtogeicckbdfldaaDoor
open Go.RowKit Go.Joins Go.Maps
set_option linter.unusedVariables false
set_option linter.unusedSimpArgs false
/-- The name of item k; none: it has none, or its attributes have not. -/
def nmQ (D : Dc) (k : Nat) : Option (ByteArray × ByteArray) := if (D.NM k).toList.isEmpty = true then some (⟨#[]⟩, ⟨#[]⟩) else if bnK D k (spl (D.NM k)).1 = true ∧ (qn D k (D.AN k) (D.AC k)).isSome = true then some (bnV D k (spl (D.NM k)).1, (spl (D.NM k)).2.1) else none
def nmF (D : Dc) : Nat → Option QL
  | 0 => some []
  | k + 1 => match nmF D k with
    | none => none
    | some L => match nmQ D k with
      | none => none
      | some q => some (L ++ [q])
theorem nmF_put {D : Dc} {k : Nat} {L : QL} {q : ByteArray × ByteArray} (h : nmF D k = some L) (hq : nmQ D k = some q) : nmF D (k + 1) = some (L ++ [q]) := by rw [nmF, h]; dsimp only; rw [hq]
theorem nmF_no {D : Dc} {k : Nat} {L : QL} (h : nmF D k = some L) (hq : nmQ D k = none) : nmF D (k + 1) = none := by rw [nmF, h]; dsimp only; rw [hq]
theorem nmF_none {D : Dc} {k : Nat} (h : nmF D k = none) : ∀ m, k ≤ m → nmF D m = none
  | 0, hm => by
    have : k = 0 := by omega
    subst this; exact h
  | m + 1, hm => by
    by_cases e : k = m + 1
    · subst e; exact h
    · rw [nmF, nmF_none h m (by omega)]
theorem nmF_len {D : Dc} : ∀ (k : Nat) (L : QL), nmF D k = some L → L.length = k
  | 0, L, h => by rw [nmF] at h; cases h; rfl
  | k + 1, L, h => by
    rw [nmF] at h
    cases hk : nmF D k with
    | none => rw [hk] at h; cases h
    | some L' =>
      rw [hk] at h
      dsimp only at h
      have := nmF_len k L' hk
      cases hq : nmQ D k with
      | none => rw [hq] at h; cases h
      | some q => rw [hq] at h; cases h; simp; omega
theorem nmQ_text {D : Dc} {k : Nat} (h : (D.NM k).toList.isEmpty = true) : nmQ D k = some (⟨#[]⟩, ⟨#[]⟩) := by unfold nmQ; rw [if_pos h]
theorem nmQ_yes {D : Dc} {k : Nat} (h : (D.NM k).toList.isEmpty = false) (h1 : bnK D k (spl (D.NM k)).1 = true) (h2 : (qn D k (D.AN k) (D.AC k)).isSome = true) : nmQ D k = some (bnV D k (spl (D.NM k)).1, (spl (D.NM k)).2.1) := by unfold nmQ; rw [if_neg (by rw [h]; decide), if_pos ⟨h1, h2⟩]
theorem nmQ_no1 {D : Dc} {k : Nat} (h : (D.NM k).toList.isEmpty = false) (h1 : bnK D k (spl (D.NM k)).1 = false) : nmQ D k = none := by unfold nmQ; rw [if_neg (by rw [h]; decide), if_neg (by rw [h1]; simp)]
theorem nmQ_no2 {D : Dc} {k : Nat} (h : (D.NM k).toList.isEmpty = false) (h1 : qn D k (D.AN k) (D.AC k) = none) : nmQ D k = none := by unfold nmQ; rw [if_neg (by rw [h]; decide), if_neg (by rw [h1]; simp)]
def noQ (D : Dc) : Option QL := if docokB D = true then nmF D D.n else none
theorem noQ_no {D : Dc} (h : docokB D = false) : noQ D = none := by unfold noQ; rw [h]; rfl
theorem noQ_yes {D : Dc} (h : docokB D = true) : noQ D = nmF D D.n := by unfold noQ; rw [h]; rfl
theorem noQ_len {D : Dc} (hz : dcTot D ≤ 1048576) : (lst (noQ D)).length ≤ 1048576 := by
  unfold lst noQ
  cases h : docokB D
  · exact Nat.zero_le _
  · rw [if_pos rfl]
    cases hq : nmF D D.n with
    | none => exact Nat.zero_le _
    | some L =>
      have h1 := nmF_len _ L hq
      have h2 := (dc_sz hz).1
      show L.length ≤ _
      omega
/-- A text of a right document has no attributes. -/
theorem text_none {D : Dc} (hd : docokB D = true) {k : Nat} (hk : k < D.n) (h : (D.NM k).toList.isEmpty = true) : D.AC k = 0 := by
  have h1 := (docok_facts hd).2.1 k hk
  unfold itB at h1
  rw [Bool.and_eq_true] at h1
  have h2 := h1.2
  unfold pB partB at h2
  split at h2
  · simp only [Bool.and_eq_true, beq_iff_eq] at h2
    have := h2.2.1
    omega
  · rename_i hne
    exact absurd h hne
/-- While the names of items are told. -/
def NoRel (D : Dc) (w wr : World) (i : Nat) (L : QL) (ad : Option Addr) (c : Nat) : Prop := nmF D i = some L ∧ OwnQ w.heap.size wr ad L.length c (qA L) (qB L) ∧ Below w.heap.size w wr
theorem no_go {D : Dc} {w wr w2 : World} {i : Nat} {L : QL} {ad : Option Addr} {c : Nat} (h : NoRel D w wr i L ad c) (hb : Below wr.heap.size wr w2) : NoRel D w w2 i L ad c :=
  ⟨h.1, ownQ_go h.2.1 hb, h.2.2.trans (hb.mono h.2.2.size)⟩
set_option maxRecDepth 100000 in
set_option maxHeartbeats 8000000 in
theorem s_namesof (D : Dc) (n : Nat) (a : Option Addr) (cap : Nat) (w : World) (hD : D.n = n) (hz : dcTot D ≤ 1048576) (hr : DcAt w a D w.heap.size) :
    Calls Tryd.prog 16 #[.slice a n cap] w (QAns (noQ D) w) := by
  have HD := hide hD
  have HR := hide hr
  have HZ := hide hz
  have CD := hide (s_docok D n a cap w hD hz hr)
  have hn : n ≤ 1048576 := by rw [← hD]; exact (dc_sz hz).1
  obtain ⟨i0, hi, hz0, hz1, hz2⟩ := info_parts infoQ
  have HSN : Hid (∀ j, j < n → (D.NM j).size ≤ 1048576) := hide (fun j hj => by have := ((dc_sz hz).2 j (by omega)).1; omega)
  clear hr hD hz
  cases hd : docokB D
  · have HV := hide (noQ_no hd)
    rw [hd] at CD
    go_enter Tryd.func16, Tryd.ntmps16
    go_wp2_with (first | (go_at_call 22; refine CD.out.mono ?_; rintro e w1 ⟨rfl, hb1⟩; have HB := hide hb1; clear hb1))
    go_ret2
    exact qans_no HV.out HB.out
  · have HF := hide (dc_facts hd HZ.out)
    have HV := hide (noQ_yes hd)
    obtain ⟨⟨g1, g2⟩, -, -⟩ := docok_facts hd
    rw [HD.out] at g1 g2 HF HV
    rw [hd] at CD
    obtain ⟨b, off, rfl, hbs, hrow⟩ := HR.out (by rw [HD.out]; omega)
    have HRW := hide hrow
    clear hrow hd
    go_enter Tryd.func16, Tryd.ntmps16
    go_wp2_with (first | (go_at_call 22; refine CD.out.mono ?_; rintro e w1 ⟨rfl, hb1⟩; have HB := hide hb1; clear hb1))
    go_loopw [4, 5] (fun v iv wr => ∃ (i : Nat) (L : QL) (ad : Option Addr) (c : Nat), i ≤ n ∧ iv = .int .i64 i ∧ v = .slice ad L.length c ∧ NoRel D w wr i L ad c) (fun _ iv _ => n - (intOf iv).toNat)
    case atStart => exact ⟨0, [], some ⟨w1.heap.size, 0, none⟩, 0, Nat.zero_le _, rfl, rfl, rfl, ⟨[], World.ownsRow_made (base := w.heap.size) (e := 41) (size := 2) w1 #[] 0 HB.out.size (Nat.zero_le _) rfl, fun j hj => by cases hj⟩, HB.out.alloc HB.out.size _⟩
    case round =>
      obtain ⟨i, L, ad, c, hi9, rfl, rfl, hrel⟩ := hrel
      have HRL := hide hrel
      have hLi := nmF_len i L hrel.1
      have hszw := hrel.2.2.size
      have hbw : b < wr.heap.size := Nat.lt_of_lt_of_le hbs hszw
      have HRWr := hide (dcRow_up (dcRow_go HRW.out hbs hrel.2.2) hszw)
      clear hrel
      by_cases hlt : i < n
      · obtain ⟨ad9, cp9, hc9, -⟩ := HRWr.out i (by rw [HD.out]; omega)
        obtain ⟨c0, c1, c2, c3⟩ := hc9
        have hiI : (i : Int) < (n : Int) := by omega
        have hi00 : (0 : Int) ≤ (i : Int) := by omega
        have hnz := HSN.out i hlt
        have HLI := hide hLi
        have hLn : L.length ≤ 200 := by omega
        clear hLi
        cases he : (D.NM i).toList.isEmpty
        · have CS := hide (fun w9 => s_splitB (D.NM i) w9 hnz)
          have hpz := (spl_sz (D.NM i)).1
          have CB : Hid (∀ w9 : World, b < w9.heap.size → DcRow w9 b off D w9.heap.size → Calls Tryd.prog 41 #[.slice (some ⟨b, off, none⟩) n cap, .int .i64 i, .string (spl (D.NM i)).1] w9 fun e w' => e = .returned (.tuple #[.string (bnV D i (spl (D.NM i)).1), .bool (bnK D i (spl (D.NM i)).1)]) ∧ w' = w9) := hide fun w9 h1 h2 =>
            s_bound D n b off cap w9 i _ HD.out g2 hlt h1 h2 (fun j hj => (HF.out.2.2.1 j hj).2) (fun j hj => (HF.out.2.2.1 j hj).1) (fun j hj => (HF.out.2.2.2.2 j hj).1) (by omega)
          have CA : Hid (∀ w9 : World, b < w9.heap.size → DcRow w9 b off D w9.heap.size → Calls Tryd.prog 42 #[.slice (some ⟨b, off, none⟩) n cap, .int .i64 i] w9 (QAns (qn D i (D.AN i) (D.AC i)) w9)) := hide fun w9 h1 h2 =>
            s_qattrs D n b off cap w9 i HD.out g2 hlt h1 h2 HF.out.2.2.1 HF.out.2.2.2.2 HF.out.2.2.2.1
          have HN1 := hide (nmQ_no1 (D := D) (k := i) he)
          have HN2 := hide (nmQ_no2 (D := D) (k := i) he)
          have HNY := hide (nmQ_yes (D := D) (k := i) he)
          obtain ⟨N, hN⟩ : ∃ N, D.NM i = N := ⟨_, rfl⟩
          rw [hN] at c1 he CS CB HN1 HNY hnz
          obtain ⟨P, hP⟩ : ∃ P, (spl N).1 = P := ⟨_, rfl⟩
          obtain ⟨Lo, hLo⟩ : ∃ Lo, (spl N).2.1 = Lo := ⟨_, rfl⟩
          rw [hP] at CB HN1
          rw [hP, hLo] at CS HNY
          obtain ⟨V, hV⟩ : ∃ V, bnV D i P = V := ⟨_, rfl⟩
          obtain ⟨K, hK⟩ : ∃ K, bnK D i P = K := ⟨_, rfl⟩
          rw [hV, hK] at CB HNY
          rw [hK] at HN1
          clear hN hP hLo hV hK hpz
          go_wp2_with fail
          refine (CS.out _).mono ?_
          rintro e w2 ⟨rfl, hb2⟩
          have HRL2 := hide (no_go HRL.out hb2)
          have hbw2 : b < w2.heap.size := Nat.lt_of_lt_of_le hbw hb2.size
          have HRW2 := hide (dcRow_up (dcRow_go HRWr.out hbw hb2) hb2.size)
          clear hb2 c0 c1 c2 c3
          go_wp2_with fail
          refine (CB.out _ hbw2 HRW2.out).mono ?_
          rintro e w9 ⟨rfl, h9⟩
          rw [h9]
          clear h9 w9
          go_wp2_with fail
          refine (CA.out _ hbw2 HRW2.out).mono ?_
          intro e w3 hq
          obtain ⟨hb3, ⟨h1, rfl⟩ | ⟨L3, ad3, c3, h1, rfl, -⟩⟩ := hq
          · have HRL3 := hide (no_go HRL2.out hb3)
            have HE := hide (nmF_none (nmF_no HRL3.out.1 (HN2.out h1)) n (by omega))
            clear hb3 h1
            cases K
            all_goals
              go_wp2
              go_ret2
              exact qans_no (by rw [HV.out]; exact HE.out) HRL3.out.2.2
          · have HRL3 := hide (no_go HRL2.out hb3)
            have HQS : Hid ((qn D i (D.AN i) (D.AC i)).isSome = true) := hide (by rw [h1]; rfl)
            have hs3 := HRL3.out.2.2.size
            clear hb3 h1
            cases K
            · have HE := hide (nmF_none (nmF_no HRL3.out.1 (HN1.out rfl)) n (by omega))
              go_wp2
              go_ret2
              exact qans_no (by rw [HV.out]; exact HE.out) HRL3.out.2.2
            · obtain ⟨xs, hox, hpx⟩ := HRL3.out.2.1
              have HOX := hide hox
              have HPX := hide hpx
              have HNE := hide (nmF_put HRL3.out.1 (HNY.out rfl HQS.out))
              clear hox hpx
              go_wp2_with (first | (at_builtin; refine wpList_append_own _ rfl (.tmp 62) (.tmp 66) 37 rfl w.heap.size 41 i0 (.agg #[.string ⟨#[]⟩, .string ⟨#[]⟩]) 2 32 Tryd.underlying37 hi hz0 hz1 hz2 rfl (by decide) _ _ _ rfl (HOX.out.alloc _) ⟨w3.heap.size, 0, none⟩ 1 1 [.string V, .string Lo] rfl rfl (fun j u hj => gTwo_new w3 _ _ _ j u hj) (gStr_two _ _) (by unfold maxLen; omega) (by omega) (by simp; omega) ?_; intro v2 w6 hown2 hgrow2 _; obtain ⟨ad2, c2', hv2⟩ := gOwn_shape hown2; rw [hv2] at hown2 ⊢; clear hv2; have HB6 := hide (gBelow_one HRL3.out.2.2 HOX.out hgrow2); have HO6 := hide hown2; clear hown2 hgrow2))
              go_roundw
              case rel =>
                refine ⟨i + 1, L ++ [(V, Lo)], ad2, c2', by omega, by go_num, by simp, HNE.out, ?_, HB6.out⟩
                have h := own_put HPX.out HOX.out.1 rfl (V, Lo) HO6.out
                simpa using h
              case measure => simp [intOf]; omega
        · obtain ⟨xs, hox, hpx⟩ := HRL.out.2.1
          have HOX := hide hox
          have HPX := hide hpx
          have HNE := hide (nmF_put HRL.out.1 (nmQ_text he))
          clear hox hpx
          go_wp2_with (first | (at_builtin; refine wpList_append_own _ rfl (.tmp 29) (.tmp 31) 37 rfl w.heap.size 41 i0 (.agg #[.string ⟨#[]⟩, .string ⟨#[]⟩]) 2 32 Tryd.underlying37 hi hz0 hz1 hz2 rfl (by decide) _ _ _ rfl (HOX.out.alloc _) ⟨wr.heap.size, 0, none⟩ 1 1 [.string ⟨#[]⟩, .string ⟨#[]⟩] rfl rfl (fun j u hj => gTwo_new wr _ _ _ j u hj) (gStr_two _ _) (by unfold maxLen; omega) (by omega) (by simp; omega) ?_; intro v2 w6 hown2 hgrow2 _; obtain ⟨ad2, c2', hv2⟩ := gOwn_shape hown2; rw [hv2] at hown2 ⊢; clear hv2; have HB6 := hide (gBelow_one HRL.out.2.2 HOX.out hgrow2); have HO6 := hide hown2; clear hown2 hgrow2))
          go_roundw
          case rel =>
            refine ⟨i + 1, L ++ [(⟨#[]⟩, ⟨#[]⟩)], ad2, c2', by omega, by go_num, by simp, HNE.out, ?_, HB6.out⟩
            have h := own_put HPX.out HOX.out.1 rfl (⟨#[]⟩, ⟨#[]⟩) HO6.out
            simpa using h
          case measure => simp [intOf]; omega
      · have him : i = n := by omega
        subst him
        go_wp2
        go_ret2
        exact ⟨HRL.out.2.2, .inr ⟨L, ad, c, by rw [HV.out]; exact HRL.out.1, rfl, HRL.out.2.1⟩⟩
end Go.Proofs.YtogeicckbdfldaaDoor

/-
  Contract: NamesOf, the program's; the walk of FnExactNamesOf.
-/
namespace Go.Proofs.YtogeicckbdfldaaDoor
open Go.RowKit Go.Joins Go.Maps
set_option linter.unusedVariables false
set_option linter.unusedSimpArgs false
/-- While the names of items are told: the block at the end of w holds the document and the maps. -/
def NpRel (D : Dc) (n b off cap : Nat) (sa : Option Addr) (c : Nat) (ms : List Nat) (w wr : World) (i : Nat) (L : QL) (ad : Option Addr) (c' : Nat) : Prop :=
  nmF D i = some L ∧ OwnQ (w.heap.size + 1) wr ad L.length c' (qA L) (qB L) ∧ Below (w.heap.size + 1) (w.alloc (.cells #[.slice (some ⟨b, off, none⟩) n cap, .slice sa n c] 62)) wr ∧ ScAt wr D n b off cap sa c ms
section
variable {D : Dc} {n b off cap : Nat} {sa : Option Addr} {c : Nat} {ms : List Nat} {w wr w2 : World} {i : Nat} {L : QL} {ad : Option Addr} {c' : Nat}
theorem np_size (h : NpRel D n b off cap sa c ms w wr i L ad c') : w.heap.size + 1 ≤ wr.heap.size := by have := h.2.2.1.size; simpa using this
theorem np_go (h : NpRel D n b off cap sa c ms w wr i L ad c') (hb : Below wr.heap.size wr w2) : NpRel D n b off cap sa c ms w w2 i L ad c' :=
  ⟨h.1, ownQ_go h.2.1 hb, h.2.2.1.trans (hb.mono (np_size h)), scAt_go h.2.2.2 hb⟩
theorem np_below (h : NpRel D n b off cap sa c ms w wr i L ad c') : Below w.heap.size w wr := ((Below.refl w.heap.size w).alloc (Nat.le_refl _) _).trans (h.2.2.1.mono (Nat.le_succ _))
theorem np_box (h : NpRel D n b off cap sa c ms w wr i L ad c') : CellsAt wr w.heap.size #[.slice (some ⟨b, off, none⟩) n cap, .slice sa n c] := cellsAt_go (cellsAt_new w _ _) h.2.2.1 (Nat.lt_succ_self _)
end
set_option maxRecDepth 100000 in
set_option maxHeartbeats 8000000 in
theorem i_namesof (D : Dc) (n : Nat) (a : Option Addr) (cap : Nat) (w : World) (hD : D.n = n) (hz : dcTot D ≤ 1048576) (hr : DcAt w a D w.heap.size) (hT : Tabs w) :
    Calls Tryd.prog 15 #[.slice a n cap] w (QAns (noQ D) w) := by
  have HD := hide hD
  have HR := hide hr
  have HZ := hide hz
  have CD := hide (i_docok D n a cap w hD hz hr hT)
  have hn : n ≤ 1048576 := by rw [← hD]; exact (dc_sz hz).1
  obtain ⟨i0, hi, hz0, hz1, hz2⟩ := info_parts infoQ
  have HSN : Hid (∀ j, j < n → (D.NM j).size ≤ 1048576) := hide (fun j hj => by have := ((dc_sz hz).2 j (by omega)).1; omega)
  clear hr hD hz hT
  cases hd : docokB D
  · have HV := hide (noQ_no hd)
    rw [hd] at CD
    go_enter Tryd.func15, Tryd.ntmps15
    go_wp2_with (first | (go_at_call 13; refine CD.out.mono ?_; rintro e w1 ⟨rfl, hb1⟩; have HB := hide hb1; clear hb1))
    go_ret2
    exact qans_no HV.out HB.out
  · have HF := hide (dc_facts hd HZ.out)
    have HV := hide (noQ_yes hd)
    have HTN : Hid (∀ k, k < n → (D.NM k).toList.isEmpty = true → D.AC k = 0) := hide (fun k hk he => text_none hd (by rw [HD.out]; exact hk) he)
    obtain ⟨⟨g1, g2⟩, -, -⟩ := docok_facts hd
    rw [HD.out] at g1 g2 HF HV
    rw [hd] at CD
    obtain ⟨b, off, rfl, hbs, hrow⟩ := HR.out (by rw [HD.out]; omega)
    have HRW := hide hrow
    clear hrow hd
    go_enter Tryd.func15, Tryd.ntmps15
    go_wp2_with fail
    refine CD.out.mono ?_
    rintro e w1 ⟨rfl, hb1⟩
    have hbw : b < w1.heap.size := Nat.lt_of_lt_of_le hbs hb1.size
    have hrow1 := dcRow_up (dcRow_go HRW.out hbs hb1) hb1.size
    have CS := hide (i_scopes D n b off cap w1 HD.out g2 hbw hrow1 HF.out.2.2.2.2)
    have HRW1 := hide hrow1
    have HB := hide hb1
    clear hb1 hrow1
    go_wp2_with fail
    refine CS.out.mono ?_
    rintro e w2 ⟨sa, c, ms, rfl, hml, ho, hms, hb2⟩
    have HS2 : Hid (ScAt w2 D n b off cap sa c ms) := hide ⟨Nat.lt_of_lt_of_le hbw hb2.size, dcRow_up (dcRow_go HRW1.out hbw hb2) hb2.size, hml, ⟨_, ho⟩, hms⟩
    have HB2 := hide (HB.out.trans (hb2.mono HB.out.size))
    clear ho hms hb2
    go_wp2
    go_loopw [5, 19] (fun v iv wr => ∃ (i : Nat) (L : QL) (ad : Option Addr) (c' : Nat), i ≤ n ∧ iv = .int .i64 i ∧ v = .slice ad L.length c' ∧ NpRel D n b off cap sa c ms w2 wr i L ad c') (fun _ iv _ => n - (intOf iv).toNat)
    case atStart => exact ⟨0, [], none, 0, Nat.zero_le _, rfl, rfl, rfl, ownQ_none _ _ _ _, Below.refl _ _, scAt_go HS2.out ((Below.refl _ _).alloc (Nat.le_refl _) _)⟩
    case round =>
      obtain ⟨i, L, ad, c', hi9, rfl, rfl, hrel⟩ := hrel
      have HRL := hide hrel
      have hLi := nmF_len i L hrel.1
      have HBw := hide (HB2.out.trans ((np_below hrel).mono HB2.out.size))
      have hsz := np_size hrel
      have g0 : wr.cell? ⟨w2.heap.size, 0, none⟩ = some (.slice (some ⟨b, off, none⟩) n cap) := cellsAt_cell (np_box hrel) 0
      have g1' : wr.cell? ⟨w2.heap.size, 1, none⟩ = some (.slice sa n c) := cellsAt_cell (np_box hrel) 1
      by_cases hlt : i < n
      · obtain ⟨ad9, cp9, hc9, -⟩ := hrel.2.2.2.2.1 i (by rw [HD.out]; omega)
        obtain ⟨c0, c1, c2, c3⟩ := hc9
        clear hrel
        have hiI : (i : Int) < (n : Int) := by omega
        have hi00 : (0 : Int) ≤ (i : Int) := by omega
        have hnz := HSN.out i hlt
        have HLI := hide hLi
        have hLn : L.length ≤ 200 := by omega
        clear hLi
        have HRL1 := hide (np_go HRL.out ((Below.refl wr.heap.size wr).alloc (Nat.le_refl _) (.cells #[.int .i64 (D.U i), .string (D.NM i), .string (D.TX i), .slice ad9 (D.AC i) cp9] 34)))
        have CA : Hid (∀ w9 : World, ScAt w9 D n b off cap sa c ms → Calls Tryd.prog 39 #[.agg #[.slice (some ⟨b, off, none⟩) n cap, .slice sa n c], .int .i64 i] w9 (QAns (qn D i (D.AN i) (D.AC i)) w9)) := hide fun w9 h => i_attrNames D n b off cap sa c ms w9 i HF.out hlt h
        obtain ⟨V, Lo, K, HCN, HNO, HNY⟩ : ∃ (V Lo : ByteArray) (K : Bool), Hid (∀ w9 : World, ScAt w9 D n b off cap sa c ms → Calls Tryd.prog 38 #[.agg #[.slice (some ⟨b, off, none⟩) n cap, .slice sa n c], .int .i64 i, .string (D.NM i)] w9 fun e w' => e = .returned (.tuple #[.agg #[.string V, .string Lo], .bool K]) ∧ Below w9.heap.size w9 w') ∧ Hid (K = false ∨ qn D i (D.AN i) (D.AC i) = none → nmQ D i = none) ∧ Hid (K = true → (qn D i (D.AN i) (D.AC i)).isSome = true → nmQ D i = some (V, Lo)) := by
          cases he : (D.NM i).toList.isEmpty
          · refine ⟨_, _, _, hide fun w9 h => i_nameOf D n b off cap sa c ms w9 i (D.NM i) HF.out hlt hnz he h, hide ?_, hide fun h1 h2 => nmQ_yes he h1 h2⟩
            rintro (h | h)
            · exact nmQ_no1 he h
            · exact nmQ_no2 he h
          · refine ⟨⟨#[]⟩, ⟨#[]⟩, true, hide fun w9 h => i_nameOf0 _ _ _ (D.NM i) w9 he ⟨_, rfl⟩ ⟨_, _, _, rfl⟩ ⟨_, _, _, rfl⟩, hide ?_, hide fun _ _ => nmQ_text he⟩
            rintro (h | h)
            · cases h
            · rw [HTN.out i hlt he] at h; cases h
        have up : ∀ (q : Addr) (v : Value), q.block < wr.heap.size → wr.cell? q = some v → ∀ o, (wr.alloc o).cell? q = some v := fun q v hq h o => (((Below.refl wr.heap.size wr).alloc (Nat.le_refl _) o).cell hq).trans h
        have u0 := up ⟨w2.heap.size, 0, none⟩ _ (by show w2.heap.size < wr.heap.size; omega) g0
        have u1 := up ⟨w2.heap.size, 1, none⟩ _ (by show w2.heap.size < wr.heap.size; omega) g1'
        clear up
        go_wp2_with fail
        refine (HCN.out _ HRL1.out.2.2.2).mono ?_
        rintro e w3 ⟨rfl, hb3⟩
        have HRL3 := hide (np_go HRL1.out hb3)
        clear hb3 g0 g1' c0 c1 c2 c3 u0 u1
        have HRL4 := hide (np_go HRL3.out ((Below.refl w3.heap.size w3).alloc (Nat.le_refl _) (.cells #[.string V, .string Lo] 41)))
        have K4 := hide (cellsAt_new w3 #[.string V, .string Lo] 41)
        cases K
        · have HE := hide (nmF_none (nmF_no HRL3.out.1 (HNO.out (.inl rfl))) n (by omega))
          go_wp2
          go_ret2
          exact qans_no (by rw [HV.out]; exact HE.out) (HB2.out.trans ((np_below HRL4.out).mono HB2.out.size))
        · have g0 : (w3.alloc (.cells #[.string V, .string Lo] 41)).cell? ⟨w2.heap.size, 0, none⟩ = some (.slice (some ⟨b, off, none⟩) n cap) := cellsAt_cell (np_box HRL4.out) 0
          have g1' : (w3.alloc (.cells #[.string V, .string Lo] 41)).cell? ⟨w2.heap.size, 1, none⟩ = some (.slice sa n c) := cellsAt_cell (np_box HRL4.out) 1
          have h0 : w3.cell? ⟨w2.heap.size, 0, none⟩ = some (.slice (some ⟨b, off, none⟩) n cap) := cellsAt_cell (np_box HRL3.out) 0
          have h1' : w3.cell? ⟨w2.heap.size, 1, none⟩ = some (.slice sa n c) := cellsAt_cell (np_box HRL3.out) 1
          go_wp2_with fail
          refine (CA.out _ HRL4.out.2.2.2).mono ?_
          intro e w5 hq
          obtain ⟨hb5, ⟨h1, rfl⟩ | ⟨L5, ad5, c5, h1, rfl, -⟩⟩ := hq
          · have HRL5 := hide (np_go HRL4.out hb5)
            have HE := hide (nmF_none (nmF_no HRL5.out.1 (HNO.out (.inr h1))) n (by omega))
            clear hb5 h1 g0 g1' h0 h1'
            go_wp2
            go_ret2
            exact qans_no (by rw [HV.out]; exact HE.out) (HB2.out.trans ((np_below HRL5.out).mono HB2.out.size))
          · have HRL5 := hide (np_go HRL4.out hb5)
            have K5 := hide (cellsAt_go K4.out hb5 (by simp))
            have k0 : w5.cell? ⟨w3.heap.size, 0, none⟩ = some (.string V) := cellsAt_cell K5.out 0
            have k1 : w5.cell? ⟨w3.heap.size, 1, none⟩ = some (.string Lo) := cellsAt_cell K5.out 1
            have hsz5 := np_size HRL5.out
            have HNE := hide (nmF_put HRL5.out.1 (HNY.out (by first | rfl | trivial) (by rw [h1]; rfl)))
            obtain ⟨xs, hox, hpx⟩ := HRL5.out.2.1
            have HOX := hide hox
            have HPX := hide hpx
            clear hox hpx hb5 h1 g0 g1' h0 h1'
            go_wp2_with (first | (at_builtin; refine wpList_append_own _ rfl (.tmp 42) (.tmp 44) 37 rfl (w2.heap.size + 1) 41 i0 (.agg #[.string ⟨#[]⟩, .string ⟨#[]⟩]) 2 32 Tryd.underlying37 hi hz0 hz1 hz2 rfl (by decide) _ _ _ rfl (HOX.out.alloc _) ⟨w5.heap.size, 0, none⟩ 1 1 [.string V, .string Lo] rfl rfl (fun j u hj => gTwo_new w5 _ _ _ j u hj) (gStr_two _ _) (by unfold maxLen; omega) (by omega) (by simp; omega) ?_; intro v2 w6 hown2 hgrow2 _; obtain ⟨ad2, c2', hv2⟩ := gOwn_shape hown2; rw [hv2] at hown2 ⊢; clear hv2; have HB6 := hide (gBelow_oneB HRL5.out.2.2.1 (np_size HRL5.out) HOX.out hgrow2); have HO6 := hide hown2; clear hown2 hgrow2))
            go_roundw
            case rel =>
              refine ⟨i + 1, L ++ [(V, Lo)], ad2, c2', by omega, by go_num, by simp, HNE.out, ?_, HB6.out, ?_⟩
              · have h := own_put HPX.out HOX.out.1 rfl (V, Lo) HO6.out
                simpa using h
              · exact scAt_go HS2.out (((Below.refl w2.heap.size w2).alloc (Nat.le_refl _) _).trans (HB6.out.mono (Nat.le_succ _)))
            case measure => simp [intOf]; omega
      · have him : i = n := by omega
        subst him
        clear hrel
        go_wp2
        go_ret2
        exact ⟨HBw.out, .inr ⟨L, ad, c', by rw [HV.out]; exact HRL.out.1, rfl, ownQ_lower HRL.out.2.1 (by have := HB2.out.size; omega)⟩⟩
end Go.Proofs.YtogeicckbdfldaaDoor

/-
  The drawn document alone; plain facts on names: each item's is told, no two attributes' are one.
-/
namespace Go.Proofs.YtogeicckbdfldaaDoor
open Go.RowKit Go.Joins
set_option linter.unusedVariables false
set_option linter.unusedSimpArgs false
set_option maxHeartbeats 1000000 in
theorem d_namesof (a : Option Addr) (n cap : Nat) (zs : List Int) (w : World) (hgrow : ∀ G, GrowAt G a n cap zs) (hl : zs.length = n) (hz : ∀ x ∈ zs, 0 ≤ x ∧ x ≤ 255) (hn : n ≤ 1048576) (hs : SrcAt w a zs w.heap.size) :
    Calls Tryd.prog 14 #[.slice a n cap] w fun e w' => ∃ ad m c D, e = .returned (.slice ad m c) ∧ D.n = m ∧ (1 ≤ m ∧ m ≤ 40) ∧ dcTot D ≤ 1048576 ∧ DcAt w' ad D w'.heap.size ∧ Below w.heap.size w w' := by
  have HS := hide hs
  have HL := hide hl
  have HZ := hide hz
  have HGR := hide hgrow
  clear hs hl hz hgrow
  go_enter Tryd.func14, Tryd.ntmps14
  go_wp2_with fail
  refine (d_open a n cap zs _ HL.out HZ.out hn HS.out).mono ?_
  rintro e w1 ⟨rfl, hrd, hb1⟩
  have HRD := hide hrd
  have HB1 := hide hb1
  clear hrd hb1
  go_wp2_with fail
  refine (d_spaces w.heap.size a n cap zs _ (HGR.out _) HRD.out).mono ?_
  rintro e w2 ⟨ad, m, c, D, rfl, hg, hm1, hm2⟩
  have HGS := hide hg
  clear hg
  go_wp2
  go_ret
  exact ⟨ad, m, c, D, rfl, (drIt_dcB HGS.out.2.1).1, ⟨hm1, hm2⟩, drIt_totB HGS.out.2.1 (by omega), (drIt_dcB HGS.out.2.1).2, HB1.out.trans HGS.out.2.2.1⟩
theorem qA_app {L : QL} {q : ByteArray × ByteArray} {j : Nat} (h : j < L.length) : qA (L ++ [q]) j = qA L j ∧ qB (L ++ [q]) j = qB L j := by
  unfold qA qB
  rw [List.getElem?_append_left h]
  exact ⟨rfl, rfl⟩
theorem qA_last {L : QL} {q : ByteArray × ByteArray} : qA (L ++ [q]) L.length = q.1 ∧ qB (L ++ [q]) L.length = q.2 := by
  unfold qA qB
  rw [List.getElem?_append_right (Nat.le_refl _), Nat.sub_self]
  exact ⟨rfl, rfl⟩
theorem nmF_at {D : Dc} : ∀ (m : Nat) (L : QL), nmF D m = some L → ∀ k, k < m → nmQ D k = some (qA L k, qB L k)
  | 0, L, h, k, hk => by omega
  | m + 1, L, h, k, hk => by
    rw [nmF] at h
    cases h1 : nmF D m with
    | none => rw [h1] at h; cases h
    | some L1 =>
      rw [h1] at h
      dsimp only at h
      cases h2 : nmQ D m with
      | none => rw [h2] at h; cases h
      | some q =>
        rw [h2] at h
        have e : L1 ++ [q] = L := Option.some.inj h
        subst e
        have hl := nmF_len m L1 h1
        by_cases e : k < m
        · have := nmF_at m L1 h1 k e
          rw [(qA_app (q := q) (by omega : k < L1.length)).1, (qA_app (q := q) (by omega : k < L1.length)).2]
          exact this
        · have e : k = m := by omega
          subst e
          have hq := qA_last (L := L1) (q := q)
          rw [hl] at hq
          rw [hq.1, hq.2]
          exact h2
/-- No two of the names are one. -/
def QSep (L : QL) : Prop := ∀ k j, j < k → k < L.length → ¬ ((qA L k).toList = (qA L j).toList ∧ (qB L k).toList = (qB L j).toList)
theorem qn_sep {D : Dc} {x : Int} {N : Nat → ByteArray} : ∀ (m : Nat) (L : QL), qn D x N m = some L → QSep L
  | 0, L, h => by
    have e : ([] : QL) = L := Option.some.inj h
    subst e
    intro k j hj hk
    simp at hk
  | m + 1, L, h => by
    rw [qn] at h
    cases h1 : qn D x N m with
    | none => rw [h1] at h; cases h
    | some L1 =>
      rw [h1] at h
      dsimp only at h
      have ih := qn_sep m L1 h1
      by_cases h2 : qsk (N m) = true
      · rw [if_pos h2] at h
        have e : L1 = L := Option.some.inj h
        subst e
        exact ih
      · rw [if_neg h2] at h
        by_cases h3 : qok D x (N m) = true
        · rw [if_pos h3] at h
          by_cases h4 : qdup L1 (qsp D x (N m)) (spl (N m)).2.1 = true
          · rw [if_pos h4] at h; cases h
          · rw [if_neg h4] at h
            have e : L1 ++ [(qsp D x (N m), (spl (N m)).2.1)] = L := Option.some.inj h
            subst e
            intro k j hj hk
            rw [List.length_append, List.length_singleton] at hk
            by_cases e : k < L1.length
            · rw [(qA_app e).1, (qA_app e).2, (qA_app (by omega : j < L1.length)).1, (qA_app (by omega : j < L1.length)).2]
              exact ih k j hj e
            · have e : k = L1.length := by omega
              subst e
              rw [qA_last.1, qA_last.2, (qA_app (by omega : j < L1.length)).1, (qA_app (by omega : j < L1.length)).2]
              rintro ⟨e1, e2⟩
              refine h4 (anyQ_hit hj ?_)
              unfold sameS
              rw [e1, e2]
              simp
        · rw [if_neg h3] at h; cases h
/-- What the law asks of an item whose name is told. -/
theorem nm_text {D : Dc} {L : QL} (hd : docokB D = true) (h : noQ D = some L) {k : Nat} (hk : k < D.n) (he : (D.NM k).toList.isEmpty = true) : qA L k = ⟨#[]⟩ ∧ qB L k = ⟨#[]⟩ := by
  rw [noQ_yes hd] at h
  have h1 := nmF_at D.n L h k hk
  rw [nmQ_text he] at h1
  have e := Option.some.inj h1
  exact ⟨(congrArg Prod.fst e).symm, (congrArg Prod.snd e).symm⟩
theorem nm_elem {D : Dc} {L : QL} (hd : docokB D = true) (h : noQ D = some L) {k : Nat} (hk : k < D.n) (he : (D.NM k).toList.isEmpty = false) : qA L k = baV D k (spl (D.NM k)).1 ∧ baK D k (spl (D.NM k)).1 = true ∧ qB L k = (spl (D.NM k)).2.1 ∧ ∃ A, anQ D k = some A ∧ QSep A ∧ A.length ≤ D.AC k := by
  have hh := x_has hd hk
  obtain ⟨e1, e2⟩ := ba_yes (p := (spl (D.NM k)).1) hh
  rw [noQ_yes hd] at h
  have h1 := nmF_at D.n L h k hk
  unfold nmQ at h1
  rw [if_neg (by rw [he]; decide)] at h1
  by_cases h2 : bnK D k (spl (D.NM k)).1 = true ∧ (qn D k (D.AN k) (D.AC k)).isSome = true
  · rw [if_pos h2] at h1
    have e := Option.some.inj h1
    obtain ⟨A, hA⟩ := Option.isSome_iff_exists.1 h2.2
    refine ⟨by rw [e1]; exact (congrArg Prod.fst e).symm, by rw [e2]; exact h2.1, (congrArg Prod.snd e).symm, A, ?_, qn_sep _ _ hA, qn_len _ _ hA⟩
    rw [anQ_yes hh]
    exact hA
  · rw [if_neg h2] at h1; cases h1
theorem no_doc {D : Dc} {L : QL} (h : noQ D = some L) : docokB D = true ∧ L.length = D.n := by
  cases hd : docokB D with
  | false => rw [noQ_no hd] at h; cases h
  | true => rw [noQ_yes hd] at h; exact ⟨rfl, nmF_len _ _ h⟩
end Go.Proofs.YtogeicckbdfldaaDoor
