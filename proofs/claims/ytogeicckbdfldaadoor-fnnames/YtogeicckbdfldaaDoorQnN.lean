/-
  Contracts: NamesOf, the program's and the specification's; the walk of FnExactNamesOf.
-/
import Derived.Test.YtogeicckbdfldaaDoorQnK
namespace Go.Proofs.YtogeicckbdfldaaDoor
open Go.RowKit Go.Joins Go.Maps
set_option linter.unusedVariables false
set_option linter.unusedSimpArgs false
/-- The name of item k; none: it has none, or its attributes have not. -/
def nmQ (D : Dc) (k : Nat) : Option (ByteArray × ByteArray) := if (D.NM k).toList.isEmpty = true then some (⟨#[]⟩, ⟨#[]⟩) else if bnK D k (spl (D.NM k)).1 = true ∧ (qn D k (D.AN k) (D.AC k)).isSome = true then some (bnV D k (spl (D.NM k)).1, (spl (D.NM k)).2.1) else none
def nmF (D : Dc) : Nat → Option QL
  | 0 => some []
  | k + 1 => match nmF D k with
    | none => none
    | some L => match nmQ D k with
      | none => none
      | some q => some (L ++ [q])
theorem nmF_put {D : Dc} {k : Nat} {L : QL} {q : ByteArray × ByteArray} (h : nmF D k = some L) (hq : nmQ D k = some q) : nmF D (k + 1) = some (L ++ [q]) := by rw [nmF, h]; dsimp only; rw [hq]
theorem nmF_no {D : Dc} {k : Nat} {L : QL} (h : nmF D k = some L) (hq : nmQ D k = none) : nmF D (k + 1) = none := by rw [nmF, h]; dsimp only; rw [hq]
theorem nmF_none {D : Dc} {k : Nat} (h : nmF D k = none) : ∀ m, k ≤ m → nmF D m = none
  | 0, hm => by
    have : k = 0 := by omega
    subst this; exact h
  | m + 1, hm => by
    by_cases e : k = m + 1
    · subst e; exact h
    · rw [nmF, nmF_none h m (by omega)]
theorem nmF_len {D : Dc} : ∀ (k : Nat) (L : QL), nmF D k = some L → L.length = k
  | 0, L, h => by rw [nmF] at h; cases h; rfl
  | k + 1, L, h => by
    rw [nmF] at h
    cases hk : nmF D k with
    | none => rw [hk] at h; cases h
    | some L' =>
      rw [hk] at h
      dsimp only at h
      have := nmF_len k L' hk
      cases hq : nmQ D k with
      | none => rw [hq] at h; cases h
      | some q => rw [hq] at h; cases h; simp; omega
theorem nmQ_text {D : Dc} {k : Nat} (h : (D.NM k).toList.isEmpty = true) : nmQ D k = some (⟨#[]⟩, ⟨#[]⟩) := by unfold nmQ; rw [if_pos h]
theorem nmQ_yes {D : Dc} {k : Nat} (h : (D.NM k).toList.isEmpty = false) (h1 : bnK D k (spl (D.NM k)).1 = true) (h2 : (qn D k (D.AN k) (D.AC k)).isSome = true) : nmQ D k = some (bnV D k (spl (D.NM k)).1, (spl (D.NM k)).2.1) := by unfold nmQ; rw [if_neg (by rw [h]; decide), if_pos ⟨h1, h2⟩]
theorem nmQ_no1 {D : Dc} {k : Nat} (h : (D.NM k).toList.isEmpty = false) (h1 : bnK D k (spl (D.NM k)).1 = false) : nmQ D k = none := by unfold nmQ; rw [if_neg (by rw [h]; decide), if_neg (by rw [h1]; simp)]
theorem nmQ_no2 {D : Dc} {k : Nat} (h : (D.NM k).toList.isEmpty = false) (h1 : qn D k (D.AN k) (D.AC k) = none) : nmQ D k = none := by unfold nmQ; rw [if_neg (by rw [h]; decide), if_neg (by rw [h1]; simp)]
def noQ (D : Dc) : Option QL := if docokB D = true then nmF D D.n else none
theorem noQ_no {D : Dc} (h : docokB D = false) : noQ D = none := by unfold noQ; rw [h]; rfl
theorem noQ_yes {D : Dc} (h : docokB D = true) : noQ D = nmF D D.n := by unfold noQ; rw [h]; rfl
theorem noQ_len {D : Dc} (hz : dcTot D ≤ 1048576) : (lst (noQ D)).length ≤ 1048576 := by
  unfold lst noQ
  cases h : docokB D
  · exact Nat.zero_le _
  · rw [if_pos rfl]
    cases hq : nmF D D.n with
    | none => exact Nat.zero_le _
    | some L =>
      have h1 := nmF_len _ L hq
      have h2 := (dc_sz hz).1
      show L.length ≤ _
      omega
/-- A text of a right document has no attributes. -/
theorem text_none {D : Dc} (hd : docokB D = true) {k : Nat} (hk : k < D.n) (h : (D.NM k).toList.isEmpty = true) : D.AC k = 0 := by
  have h1 := (docok_facts hd).2.1 k hk
  unfold itB at h1
  rw [Bool.and_eq_true] at h1
  have h2 := h1.2
  unfold pB partB at h2
  split at h2
  · simp only [Bool.and_eq_true, beq_iff_eq] at h2
    have := h2.2.1
    omega
  · rename_i hne
    exact absurd h hne
/-- While the names of items are told. -/
def NoRel (D : Dc) (w wr : World) (i : Nat) (L : QL) (ad : Option Addr) (c : Nat) : Prop := nmF D i = some L ∧ OwnQ w.heap.size wr ad L.length c (qA L) (qB L) ∧ Below w.heap.size w wr
theorem no_go {D : Dc} {w wr w2 : World} {i : Nat} {L : QL} {ad : Option Addr} {c : Nat} (h : NoRel D w wr i L ad c) (hb : Below wr.heap.size wr w2) : NoRel D w w2 i L ad c :=
  ⟨h.1, ownQ_go h.2.1 hb, h.2.2.trans (hb.mono h.2.2.size)⟩
set_option maxRecDepth 100000 in
set_option maxHeartbeats 8000000 in
theorem s_namesof (D : Dc) (n : Nat) (a : Option Addr) (cap : Nat) (w : World) (hD : D.n = n) (hz : dcTot D ≤ 1048576) (hr : DcAt w a D w.heap.size) :
    Calls Tryd.prog 16 #[.slice a n cap] w (QAns (noQ D) w) := by
  have HD := hide hD
  have HR := hide hr
  have HZ := hide hz
  have CD := hide (s_docok D n a cap w hD hz hr)
  have hn : n ≤ 1048576 := by rw [← hD]; exact (dc_sz hz).1
  obtain ⟨i0, hi, hz0, hz1, hz2⟩ := info_parts infoQ
  have HSN : Hid (∀ j, j < n → (D.NM j).size ≤ 1048576) := hide (fun j hj => by have := ((dc_sz hz).2 j (by omega)).1; omega)
  clear hr hD hz
  cases hd : docokB D
  · have HV := hide (noQ_no hd)
    rw [hd] at CD
    go_enter Tryd.func16, Tryd.ntmps16
    go_wp2_with (first | (go_at_call 22; refine CD.out.mono ?_; rintro e w1 ⟨rfl, hb1⟩; have HB := hide hb1; clear hb1))
    go_ret2
    exact qans_no HV.out HB.out
  · have HF := hide (dc_facts hd HZ.out)
    have HV := hide (noQ_yes hd)
    obtain ⟨⟨g1, g2⟩, -, -⟩ := docok_facts hd
    rw [HD.out] at g1 g2 HF HV
    rw [hd] at CD
    obtain ⟨b, off, rfl, hbs, hrow⟩ := HR.out (by rw [HD.out]; omega)
    have HRW := hide hrow
    clear hrow hd
    go_enter Tryd.func16, Tryd.ntmps16
    go_wp2_with (first | (go_at_call 22; refine CD.out.mono ?_; rintro e w1 ⟨rfl, hb1⟩; have HB := hide hb1; clear hb1))
    go_loopw [4, 5] (fun v iv wr => ∃ (i : Nat) (L : QL) (ad : Option Addr) (c : Nat), i ≤ n ∧ iv = .int .i64 i ∧ v = .slice ad L.length c ∧ NoRel D w wr i L ad c) (fun _ iv _ => n - (intOf iv).toNat)
    case atStart => exact ⟨0, [], some ⟨w1.heap.size, 0, none⟩, 0, Nat.zero_le _, rfl, rfl, rfl, ⟨[], World.ownsRow_made (base := w.heap.size) (e := 41) (size := 2) w1 #[] 0 HB.out.size (Nat.zero_le _) rfl, fun j hj => by cases hj⟩, HB.out.alloc HB.out.size _⟩
    case round =>
      obtain ⟨i, L, ad, c, hi9, rfl, rfl, hrel⟩ := hrel
      have HRL := hide hrel
      have hLi := nmF_len i L hrel.1
      have hszw := hrel.2.2.size
      have hbw : b < wr.heap.size := Nat.lt_of_lt_of_le hbs hszw
      have HRWr := hide (dcRow_up (dcRow_go HRW.out hbs hrel.2.2) hszw)
      clear hrel
      by_cases hlt : i < n
      · obtain ⟨ad9, cp9, hc9, -⟩ := HRWr.out i (by rw [HD.out]; omega)
        obtain ⟨c0, c1, c2, c3⟩ := hc9
        have hiI : (i : Int) < (n : Int) := by omega
        have hi00 : (0 : Int) ≤ (i : Int) := by omega
        have hnz := HSN.out i hlt
        have HLI := hide hLi
        have hLn : L.length ≤ 200 := by omega
        clear hLi
        cases he : (D.NM i).toList.isEmpty
        · have CS := hide (fun w9 => s_splitB (D.NM i) w9 hnz)
          have hpz := (spl_sz (D.NM i)).1
          have CB : Hid (∀ w9 : World, b < w9.heap.size → DcRow w9 b off D w9.heap.size → Calls Tryd.prog 41 #[.slice (some ⟨b, off, none⟩) n cap, .int .i64 i, .string (spl (D.NM i)).1] w9 fun e w' => e = .returned (.tuple #[.string (bnV D i (spl (D.NM i)).1), .bool (bnK D i (spl (D.NM i)).1)]) ∧ w' = w9) := hide fun w9 h1 h2 =>
            s_bound D n b off cap w9 i _ HD.out g2 hlt h1 h2 (fun j hj => (HF.out.2.2.1 j hj).2) (fun j hj => (HF.out.2.2.1 j hj).1) (fun j hj => (HF.out.2.2.2.2 j hj).1) (by omega)
          have CA : Hid (∀ w9 : World, b < w9.heap.size → DcRow w9 b off D w9.heap.size → Calls Tryd.prog 42 #[.slice (some ⟨b, off, none⟩) n cap, .int .i64 i] w9 (QAns (qn D i (D.AN i) (D.AC i)) w9)) := hide fun w9 h1 h2 =>
            s_qattrs D n b off cap w9 i HD.out g2 hlt h1 h2 HF.out.2.2.1 HF.out.2.2.2.2 HF.out.2.2.2.1
          have HN1 := hide (nmQ_no1 (D := D) (k := i) he)
          have HN2 := hide (nmQ_no2 (D := D) (k := i) he)
          have HNY := hide (nmQ_yes (D := D) (k := i) he)
          obtain ⟨N, hN⟩ : ∃ N, D.NM i = N := ⟨_, rfl⟩
          rw [hN] at c1 he CS CB HN1 HNY hnz
          obtain ⟨P, hP⟩ : ∃ P, (spl N).1 = P := ⟨_, rfl⟩
          obtain ⟨Lo, hLo⟩ : ∃ Lo, (spl N).2.1 = Lo := ⟨_, rfl⟩
          rw [hP] at CB HN1
          rw [hP, hLo] at CS HNY
          obtain ⟨V, hV⟩ : ∃ V, bnV D i P = V := ⟨_, rfl⟩
          obtain ⟨K, hK⟩ : ∃ K, bnK D i P = K := ⟨_, rfl⟩
          rw [hV, hK] at CB HNY
          rw [hK] at HN1
          clear hN hP hLo hV hK hpz
          go_wp2_with fail
          refine (CS.out _).mono ?_
          rintro e w2 ⟨rfl, hb2⟩
          have HRL2 := hide (no_go HRL.out hb2)
          have hbw2 : b < w2.heap.size := Nat.lt_of_lt_of_le hbw hb2.size
          have HRW2 := hide (dcRow_up (dcRow_go HRWr.out hbw hb2) hb2.size)
          clear hb2 c0 c1 c2 c3
          go_wp2_with fail
          refine (CB.out _ hbw2 HRW2.out).mono ?_
          rintro e w9 ⟨rfl, h9⟩
          rw [h9]
          clear h9 w9
          go_wp2_with fail
          refine (CA.out _ hbw2 HRW2.out).mono ?_
          intro e w3 hq
          obtain ⟨hb3, ⟨h1, rfl⟩ | ⟨L3, ad3, c3, h1, rfl, -⟩⟩ := hq
          · have HRL3 := hide (no_go HRL2.out hb3)
            have HE := hide (nmF_none (nmF_no HRL3.out.1 (HN2.out h1)) n (by omega))
            clear hb3 h1
            cases K
            all_goals
              go_wp2
              go_ret2
              exact qans_no (by rw [HV.out]; exact HE.out) HRL3.out.2.2
          · have HRL3 := hide (no_go HRL2.out hb3)
            have HQS : Hid ((qn D i (D.AN i) (D.AC i)).isSome = true) := hide (by rw [h1]; rfl)
            have hs3 := HRL3.out.2.2.size
            clear hb3 h1
            cases K
            · have HE := hide (nmF_none (nmF_no HRL3.out.1 (HN1.out rfl)) n (by omega))
              go_wp2
              go_ret2
              exact qans_no (by rw [HV.out]; exact HE.out) HRL3.out.2.2
            · obtain ⟨xs, hox, hpx⟩ := HRL3.out.2.1
              have HOX := hide hox
              have HPX := hide hpx
              have HNE := hide (nmF_put HRL3.out.1 (HNY.out rfl HQS.out))
              clear hox hpx
              go_wp2_with (first | (at_builtin; refine wpList_append_own _ rfl (.tmp 62) (.tmp 66) 37 rfl w.heap.size 41 i0 (.agg #[.string ⟨#[]⟩, .string ⟨#[]⟩]) 2 32 Tryd.underlying37 hi hz0 hz1 hz2 rfl (by decide) _ _ _ rfl (HOX.out.alloc _) ⟨w3.heap.size, 0, none⟩ 1 1 [.string V, .string Lo] rfl rfl (fun j u hj => gTwo_new w3 _ _ _ j u hj) (gStr_two _ _) (by unfold maxLen; omega) (by omega) (by simp; omega) ?_; intro v2 w6 hown2 hgrow2 _; obtain ⟨ad2, c2', hv2⟩ := gOwn_shape hown2; rw [hv2] at hown2 ⊢; clear hv2; have HB6 := hide (gBelow_one HRL3.out.2.2 HOX.out hgrow2); have HO6 := hide hown2; clear hown2 hgrow2))
              go_roundw
              case rel =>
                refine ⟨i + 1, L ++ [(V, Lo)], ad2, c2', by omega, by go_num, by simp, HNE.out, ?_, HB6.out⟩
                have h := own_put HPX.out HOX.out.1 rfl (V, Lo) HO6.out
                simpa using h
              case measure => simp [intOf]; omega
        · obtain ⟨xs, hox, hpx⟩ := HRL.out.2.1
          have HOX := hide hox
          have HPX := hide hpx
          have HNE := hide (nmF_put HRL.out.1 (nmQ_text he))
          clear hox hpx
          go_wp2_with (first | (at_builtin; refine wpList_append_own _ rfl (.tmp 29) (.tmp 31) 37 rfl w.heap.size 41 i0 (.agg #[.string ⟨#[]⟩, .string ⟨#[]⟩]) 2 32 Tryd.underlying37 hi hz0 hz1 hz2 rfl (by decide) _ _ _ rfl (HOX.out.alloc _) ⟨wr.heap.size, 0, none⟩ 1 1 [.string ⟨#[]⟩, .string ⟨#[]⟩] rfl rfl (fun j u hj => gTwo_new wr _ _ _ j u hj) (gStr_two _ _) (by unfold maxLen; omega) (by omega) (by simp; omega) ?_; intro v2 w6 hown2 hgrow2 _; obtain ⟨ad2, c2', hv2⟩ := gOwn_shape hown2; rw [hv2] at hown2 ⊢; clear hv2; have HB6 := hide (gBelow_one HRL.out.2.2 HOX.out hgrow2); have HO6 := hide hown2; clear hown2 hgrow2))
          go_roundw
          case rel =>
            refine ⟨i + 1, L ++ [(⟨#[]⟩, ⟨#[]⟩)], ad2, c2', by omega, by go_num, by simp, HNE.out, ?_, HB6.out⟩
            have h := own_put HPX.out HOX.out.1 rfl (⟨#[]⟩, ⟨#[]⟩) HO6.out
            simpa using h
          case measure => simp [intOf]; omega
      · have him : i = n := by omega
        subst him
        go_wp2
        go_ret2
        exact ⟨HRL.out.2.2, .inr ⟨L, ad, c, by rw [HV.out]; exact HRL.out.1, rfl, HRL.out.2.1⟩⟩
end Go.Proofs.YtogeicckbdfldaaDoor
