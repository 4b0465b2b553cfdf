/-
  The draw of a text, and the walk of FnLiteral.
-/
import Derived.Test.YtepommmmmfaihaaDoorC26
import Derived.Test.YtepommmmmfaihaaDoorC28
import Derived.Test.YtepommmmmfaihaaDoorC49
import Derived.Test.YtepommmmmfaihaaDoorC47
namespace Go.Proofs.YtepommmmmfaihaaDoor
open Go.RowKit Go.Joins
set_option linter.unusedVariables false
set_option linter.unusedSimpArgs false
set_option maxRecDepth 100000 in
set_option maxHeartbeats 4000000 in
theorem d_drawLiteral (a : Option Addr) (n cap : Nat) (zs : List Int) (w : World) (hl : zs.length = n) (hz : ∀ x ∈ zs, 0 ≤ x ∧ x ≤ 255) (hn : n ≤ 1048576) (hs : SrcAt w a zs w.heap.size) :
    Calls Tryd.prog 5 #[.slice a n cap] w fun e w' => ∃ t : ByteArray, t.size ≤ 20000 ∧ e = .returned (.string t) ∧ Below w.heap.size w w' := by
  obtain ⟨G, hG⟩ : ∃ G, w.heap.size = G := ⟨_, rfl⟩
  have HS1 := hide hs
  have HL := hide hl
  have HZ := hide hz
  have HG := hide hG
  clear hs hl hz hG
  go_enter Tryd.func5, Tryd.ntmps5
  go_wp2_with fail
  refine (d_open a n cap zs _ HL.out HZ.out hn HS1.out).mono ?_
  rintro e w1 ⟨rfl, hr1, hb1⟩
  rw [HG.out] at hr1 hb1 ⊢
  have R1 := hide hr1
  have B1 := hide hb1
  clear hr1 hb1
  go_wp2_with fail
  refine (d_text G a n cap zs _ R1.out).mono ?_
  rintro e w2 ⟨t, hts, rfl, hd⟩
  have B2 := hide (below_drewG B1.out hd (Nat.le_of_lt (rd_lt R1.out)))
  have R2 := hide hd.1
  have hgw := rd_lt hd.1
  clear hd
  go_wp2_with fail
  refine (d_below G a n cap zs 5 _ (by omega) (by omega) (rd_alloc R2.out _)).mono ?_
  rintro e w5 ⟨x, hx0, hx1, rfl, hd⟩
  obtain ⟨u, hu, hus⟩ := str_cellG 3 hd.2 hx0 hx1 rfl hgw (fun q hq => by
    have hq' : q < 5 := hq
    rcases (show q = 0 ∨ q = 1 ∨ q = 2 ∨ q = 3 ∨ q = 4 by omega) with e | e | e | e | e <;> subst e <;> exact ⟨_, rfl, by decide⟩)
  have B5 := hide (below_drewG B2.out (drew_alloc _ hd) (Nat.le_of_lt hgw))
  have hx6 : x < 5 := hx1
  clear hd
  go_wp2
  go_ret
  exact ⟨t ++ u, by rw [te_size]; omega, rfl, by rw [HG.out]; exact B5.out⟩
theorem lw_facts (s : ByteArray) (h : (rns s).isSome = true) (h60 : (outL (rns s)).length ≤ 60) : rxB (rxOf (litV (outL (rns s)) (rns s).isSome)) = true ∧ ∀ D bb, MtP (rxOf (litV (outL (rns s)) (rns s).isSome)) D bb ↔ bb = true ∧ D = outL (rns s) := by
  rw [h]
  exact lt_all (fun x hx => outL_ch s x hx) h60
/-- Two texts of the same characters are one. -/
theorem rn_inj {s t : ByteArray} (h1 : (rns s).isSome = true) (h2 : (rns t).isSome = true) (h : outL (rns s) = outL (rns t)) : s = t := by
  have key : ∀ u : ByteArray, (rns u).isSome = true → strOfNums (numsL u.data.toList) = u ∧ goR [] (outL (rns u)) = some (numsL u.data.toList) := fun u hu => by
    refine ⟨nums_str u, ?_⟩
    unfold rns at hu ⊢
    split at hu
    · rename_i hsz
      rw [if_pos hsz]
      cases hr : runesL u.data.toList with
      | none => rw [hr] at hu; cases hu
      | some xs =>
        have := runes_back u.data.toList.length u.data.toList (Nat.le_refl _) xs [] hr (by simp; exact hsz)
        rw [List.nil_append] at this
        exact this
    · cases hu
  obtain ⟨a1, a2⟩ := key s h1
  obtain ⟨b1, b2⟩ := key t h2
  rw [h, b2] at a2
  have e := Option.some.inj a2
  rw [← a1, ← e]
  exact b1
theorem mt_noL {z : Bool} {P : Prop} (h : z = true ↔ P) (n : ¬ P) : z = false := by
  cases z
  · rfl
  · exact absurd (h.1 rfl) n
theorem str_neM {s t : ByteArray} (h : t ≠ s) : (t.toList == s.toList) = false := by
  rw [beq_eq_false_iff_ne]
  intro e
  refine h (ByteArray.ext (Array.ext' ?_))
  rw [← ByteArray.toList_eq, ← ByteArray.toList_eq]
  exact e
set_option maxRecDepth 100000 in
set_option maxHeartbeats 8000000 in
theorem lw_walk (a : Option Addr) (n cap : Nat) (zs : List Int) (w : World) (hl : zs.length = n) (hz : ∀ x ∈ zs, 0 ≤ x ∧ x ≤ 255) (hn : n ≤ 1048576) (hs : SrcAt w a zs w.heap.size) (hT : Tabs w) :
    Calls Tryd.prog 3 #[.slice a n cap] w fun e w' => e = .returned (.bool true) ∧ Below w.heap.size w w' := by
  have HD := hide (d_drawLiteral a n cap zs w hl hz hn hs)
  have HDM := hide (fun (W : World) (hW : SrcAt W a zs W.heap.size) => d_drawMatches a n cap zs W hl hz hn hW)
  have HSr := hide hs
  have HT := hide hT
  clear hl hz hs hT
  go_enter Tryd.func3, Tryd.ntmps3
  go_wp2_with (first | (go_at_call 4; refine (l_bigM _ _ _ _ hn).mono ?_; rintro e w9 ⟨rfl, h9⟩; rw [h9]; clear h9 w9))
  refine HD.out.mono ?_
  rintro e w1 ⟨s, hsz, rfl, hb1⟩
  have HB1 := hide hb1
  have HT1 := hide (tabs_below HT.out hb1)
  clear hb1 HD
  have HFC := hide (lw_facts s)
  have HINJ := hide (fun t (h1 : (rns s).isSome = true) (h2 : (rns t).isSome = true) (h : outL (rns t) = outL (rns s)) => rn_inj h2 h1 h)
  obtain ⟨C, hC⟩ : ∃ C, outL (rns s) = C := ⟨_, rfl⟩
  obtain ⟨b, hb⟩ : ∃ b, (rns s).isSome = b := ⟨_, rfl⟩
  have CI := hide (i_literal s C b w1 (by omega) HT1.out hC hb)
  have CS := hide (fun W => s_literal s C b W (by omega) hC hb)
  have CM := hide (fun X len ad c (W : World) hX hlen hnr hr hTW => i_matches X len ad c s C b W hX hlen hnr hr (by omega) hTW hC hb)
  have HCB : Hid (∀ t, t = s → outL (rns t) = C ∧ (rns t).isSome = b) := hide (fun t e => by subst e; exact ⟨hC, hb⟩)
  rw [hC, hb] at HFC HINJ
  clear hC hb HT1
  have hvl := litV_len C b
  have HLB : Hid (litB C b = true → b = true ∧ C.length ≤ 60) := hide (fun h => by unfold litB at h; rw [Bool.and_eq_true, decide_eq_true_iff] at h; exact h)
  obtain ⟨V, hV⟩ : ∃ V, litV C b = V := ⟨_, rfl⟩
  obtain ⟨ok, hok⟩ : ∃ ok, litB C b = ok := ⟨_, rfl⟩
  unfold LtAnL at CI CS
  rw [hV, hok] at CI
  simp only [hV, hok] at CS
  rw [hV] at hvl HFC
  rw [hok] at HLB
  obtain ⟨vn, hvn⟩ : ∃ vn, V.length = vn := ⟨_, rfl⟩
  have HVN := hide hvn
  rw [hvn] at CI hvl
  simp only [hvn] at CS
  clear hV hok hvn
  go_wp2_with fail
  refine CI.out.mono ?_
  rintro e w2 ⟨ad, c, rfl, hx2, hb2⟩
  have HB2 := hide (HB1.out.trans (hb2.mono HB1.out.size))
  have O2 := hide hx2
  clear hb2 hx2 CI HB1
  go_wp2_with fail
  refine (CS.out _).mono ?_
  rintro e w3 ⟨ad3, c3, rfl, hx3, hb3⟩
  have HB3 := hide (HB2.out.trans (hb3.mono HB2.out.size))
  have O3 := hide (xo_below O2.out hb3)
  have P3 := hide hx3
  clear hb3 hx3 CS HB2 O2
  have HNR := hide (fun (W : World) B' ad' c' (hW : XO B' (fun j => B' ≤ j) W ad' c' V) => xo_nrM HVN.out hW)
  have CN := hide (fun (W : World) B1 B2 c1 c2 ad1 ad2 (h1 : XO B1 (fun j => B1 ≤ j) W ad1 c1 V) (h2 : XO B2 (fun j => B2 ≤ j) W ad2 c2 V) => l_sameNs (rxOf V) vn ad1 ad2 c1 c2 W HVN.out (by omega) (fun j hj => by have h9 := xo_at5 h1 (show j < V.length by rw [HVN.out]; exact hj); show (ndAt V j).L.length ≤ 1048576; omega) (xo_rx h1) (xo_rx h2))
  cases ok
  · go_wp2_with (first | (go_at_call 8; have _hh := O5; clear _hh; refine (CN.out _ _ _ _ _ _ _ O5.out P5.out).mono ?_; rintro e w6 ⟨rfl, hb6⟩; have HB6 := hide (HB5.out.trans (hb6.mono HB5.out.size)); clear hb6) | (go_at_call 8; refine (CN.out _ _ _ _ _ _ _ O3.out P3.out).mono ?_; rintro e w5 ⟨rfl, hb5⟩; have HB5 := hide (HB3.out.trans (hb5.mono HB3.out.size)); have O5 := hide (xo_below O3.out hb5); have P5 := hide (xo_below P3.out hb5); clear hb5))
    go_ret
    exact ⟨rfl, HB6.out⟩
  · obtain ⟨rfl, h60⟩ := HLB.out rfl
    obtain ⟨hrx, hmt⟩ := HFC.out rfl h60
    have HRX := hide hrx
    have HMT := hide hmt
    clear hrx hmt HFC HLB
    go_wp2_with (go_at_call 8; refine (CN.out _ _ _ _ _ _ _ O3.out P3.out).mono ?_; rintro e w5 ⟨rfl, hb5⟩; have HB5 := hide (HB3.out.trans (hb5.mono HB3.out.size)); have O5 := hide (xo_below O3.out hb5); clear hb5)
    clear O3 P3 CN
    have HDM5 := hide (HDM.out w5 (src_goM HSr.out HB5.out))
    refine HDM5.out.mono ?_
    rintro e w6 ⟨V6, B6, ad6, c6, t, hv6, ht6, rfl, -, hb6⟩
    have HB6 := hide (HB5.out.trans (hb6.mono HB5.out.size))
    have O6 := hide (xo_below O5.out hb6)
    clear hb6 O5 HDM5
    have CG := hide (i_regex (rxOf V) vn ad c w6 HVN.out (by unfold maxLen; omega) (HNR.out _ _ _ _ O6.out) (xo_rx O6.out))
    rw [HRX.out] at CG
    have CM1 := hide (fun (W : World) (hW : XO w1.heap.size (fun j => w1.heap.size ≤ j) W ad c V) hTW => CM.out (rxOf V) vn ad c W HVN.out (by unfold maxLen; omega) (HNR.out _ _ _ _ hW) (xo_rx hW) hTW)
    have HI := hide (HINJ.out t (by first | rfl | trivial))
    obtain ⟨Ct, hCt⟩ : ∃ Ct, outL (rns t) = Ct := ⟨_, rfl⟩
    obtain ⟨bt, hbt⟩ : ∃ bt, (rns t).isSome = bt := ⟨_, rfl⟩
    have CM2 := hide (fun (W : World) (hW : XO w1.heap.size (fun j => w1.heap.size ≤ j) W ad c V) hTW => i_matches (rxOf V) vn ad c t Ct bt W HVN.out (by unfold maxLen; omega) (HNR.out _ _ _ _ hW) (xo_rx hW) (by omega) hTW hCt hbt)
    have HEQ := hide (HCB.out t)
    rw [hbt, hCt] at HI HEQ
    clear hCt hbt
    by_cases hts : t = s
    · have hne : (t.toList == s.toList) = true := by rw [hts]; simp
      have HYes : Hid (MtP (rxOf V) Ct bt) := hide ((HMT.out Ct bt).2 ⟨(HEQ.out hts).2, (HEQ.out hts).1⟩)
      clear hts
      go_wp2_with (first
        | (go_at_call 10; refine CG.out.mono ?_; rintro e w7 ⟨rfl, hb7⟩; have HB7 := hide (HB6.out.trans (hb7.mono HB6.out.size)); have O7 := hide (xo_below O6.out hb7); clear hb7)
        | (go_at_call 11; have _hh := O8; clear _hh; refine (CM2.out _ O8.out (tabs_below HT.out HB8.out)).mono ?_; rintro e w9 ⟨z9, rfl, hz9, hb9⟩; have hzf : z9 = true := hz9.2 HYes.out; subst hzf; have HB9 := hide (HB8.out.trans (hb9.mono HB8.out.size)); clear hb9 hz9)
        | (go_at_call 11; refine (CM1.out _ O7.out (tabs_below HT.out HB7.out)).mono ?_; rintro e w8 ⟨z8, rfl, hz8, hb8⟩; have hzt : z8 = true := hz8.2 ((HMT.out C true).2 ⟨rfl, rfl⟩); subst hzt; have HB8 := hide (HB7.out.trans (hb8.mono HB7.out.size)); have O8 := hide (xo_below O7.out hb8); clear hb8 hz8))
      go_ret
      exact ⟨rfl, HB9.out⟩
    · have hne := str_neM hts
      have HNo : Hid (¬ MtP (rxOf V) Ct bt) := hide (fun h => by
        obtain ⟨h1, h2⟩ := (HMT.out Ct bt).1 h
        exact hts (HI.out h1 h2))
      go_wp2_with (first
        | (go_at_call 10; refine CG.out.mono ?_; rintro e w7 ⟨rfl, hb7⟩; have HB7 := hide (HB6.out.trans (hb7.mono HB6.out.size)); have O7 := hide (xo_below O6.out hb7); clear hb7)
        | (go_at_call 11; have _hh := O8; clear _hh; refine (CM2.out _ O8.out (tabs_below HT.out HB8.out)).mono ?_; rintro e w9 ⟨z9, rfl, hz9, hb9⟩; have hzf : z9 = false := mt_noL hz9 HNo.out; subst hzf; have HB9 := hide (HB8.out.trans (hb9.mono HB8.out.size)); clear hb9 hz9)
        | (go_at_call 11; refine (CM1.out _ O7.out (tabs_below HT.out HB7.out)).mono ?_; rintro e w8 ⟨z8, rfl, hz8, hb8⟩; have hzt : z8 = true := hz8.2 ((HMT.out C true).2 ⟨rfl, rfl⟩); subst hzt; have HB8 := hide (HB7.out.trans (hb8.mono HB7.out.size)); have O8 := hide (xo_below O7.out hb8); clear hb8 hz8))
      go_ret
      exact ⟨rfl, HB9.out⟩
end Go.Proofs.YtepommmmmfaihaaDoor
