/-
  Texts put together: RgZ, TabOf.
-/
import Derived.Test.YtibagghpimadfaaGreatDoorV51
import Derived.Test.YtibagghpimadfaaGreatDoorV52
import Derived.WalkKit
import Derived.ProofKit
import Derived.Below
import Derived.Lib.SmallJoins
import Derived.Lib.LaidIn
import Derived.Lib.LaidU8T
/-
  The walk of the law on drawn expressions: a right one comes back from its text.
-/
namespace Go.Proofs.YtibagghpimadfaaGreatDoor
open Go.RowKit Go.Joins
set_option linter.unusedVariables false
set_option linter.unusedSimpArgs false
theorem rg_s : RgS := fun s w hs => by
  refine (s_readRegex s _ _ w (by omega) rfl rfl).mono ?_
  unfold LtAns
  rintro e w' ⟨ad, c, rfl, hx, hb⟩
  exact ⟨_, _, ad, c, rgV_len _ _, rfl, hx, hb⟩
theorem rxT_sz (X : Rx) : (rxT X).size ≤ 20000 := by
  by_cases h : rxB X = true
  · exact rxT_size h
  · unfold rxT
    rw [if_neg h]
    exact Nat.zero_le _
set_option maxRecDepth 100000 in
set_option maxHeartbeats 8000000 in
theorem rt_walk (a : Option Addr) (n cap : Nat) (zs : List Int) (w : World) (hl : zs.length = n) (hz : ∀ x ∈ zs, 0 ≤ x ∧ x ≤ 255) (hn : n ≤ 1048576) (hs : SrcAt w a zs w.heap.size) (hT : Tabs w) (hp : PwT w) :
    Calls Tryz.prog 3 #[.slice a n cap] w fun e w' => e = .returned (.bool true) ∧ Below w.heap.size w w' := by
  have HD := hide (d_regexText a n cap zs w rg_s hl hz hn hs)
  have HT := hide hT
  have HP := hide hp
  clear hl hz hs hT hp
  go_enter Tryz.func3, Tryz.ntmps3
  go_wp2_with (first | (go_at_call 4; refine (l_bigR _ _ _ _ hn).mono ?_; rintro e w9 ⟨rfl, h9⟩; rw [h9]; clear h9 w9))
  refine HD.out.mono ?_
  rintro e w1 ⟨V, B, ad, c, hv, rfl, hx1, hb1⟩
  have HB1 := hide hb1
  have HT1 := hide (tabs_below HT.out hb1)
  have HP1 := hide (pw_go HP.out hb1)
  have O1 := hide hx1
  obtain ⟨vn, hvn⟩ : ∃ vn, V.length = vn := ⟨_, rfl⟩
  have HVN := hide hvn
  rw [hvn] at hv ⊢
  clear hb1 HD hx1 hvn HT HP
  have HNR : Hid (∀ (W : World), XO B (fun j => B ≤ j) W ad c V → ∀ j, j < vn → (rxOf V).NR j ≤ maxLen) := hide (fun W hW j hj => by
    have h9 := xo_at5 hW (show j < V.length by rw [HVN.out]; exact hj)
    show (ndAt V j).L.length ≤ maxLen
    unfold maxLen
    omega)
  have CT := hide (i_regexT (rxOf V) vn ad c w1 HVN.out (by unfold maxLen; omega) (HNR.out _ O1.out) (xo_rx O1.out) HP1.out)
  have CS := hide (fun (W : World) (hW : XO B (fun j => B ≤ j) W ad c V) => s_regexT (rxOf V) vn ad c W HVN.out (by unfold maxLen; omega) (HNR.out _ hW) (xo_rx hW))
  have CG := hide (fun (W : World) (hW : XO B (fun j => B ≤ j) W ad c V) => i_regex (rxOf V) vn ad c W HVN.out (by unfold maxLen; omega) (HNR.out _ hW) (xo_rx hW))
  have htz := rxT_sz (rxOf V)
  have HRD := hide (fun C hC hl hX => tx_read (X := V) hX (C := C) hC hl)
  have HNO : Hid (rxB (rxOf V) = false → rxT (rxOf V) = ⟨#[]⟩) := hide (fun h => by unfold rxT; rw [if_neg (by rw [h]; decide)])
  obtain ⟨t, ht⟩ : ∃ t, rxT (rxOf V) = t := ⟨_, rfl⟩
  obtain ⟨rb, hrb⟩ : ∃ rb, rxB (rxOf V) = rb := ⟨_, rfl⟩
  rw [ht] at CT CS htz HRD HNO
  rw [hrb] at CG HRD HNO
  clear ht hrb HP1 HNR
  go_wp2_with fail
  refine CT.out.mono ?_
  rintro e w2 ⟨rfl, hb2⟩
  have HB2 := hide (HB1.out.trans (hb2.mono HB1.out.size))
  have O2 := hide (xo_below O1.out hb2)
  have HT2 := hide (tabs_below HT1.out hb2)
  clear hb2 O1 CT HT1 HB1
  obtain ⟨o2, ho2⟩ : ∃ o2, rns t = o2 := ⟨_, rfl⟩
  have CR := hide (fun (W : World) (hW : Tabs W) => i_runes_lb t (outL o2) o2.isSome W (by omega) hW (by rw [ho2]) (by rw [ho2]))
  have CJ := hide (i_readRegex t (outL o2) o2.isSome w2 (by omega) HT2.out (by rw [ho2]) (by rw [ho2]))
  have HRD2 : Hid (∀ C, o2 = some C → C.length ≤ 400 → rb = true → rgW C true = some V) := hide (fun C hC hl hX => HRD.out C (by rw [ho2, hC]) hl hX)
  clear ho2 HRD
  obtain ⟨V2, hV2⟩ : ∃ V2, rgV (outL o2) o2.isSome = V2 := ⟨_, rfl⟩
  obtain ⟨k2, hk2⟩ : ∃ k2, rgO (outL o2) o2.isSome = k2 := ⟨_, rfl⟩
  have HQ : Hid (∀ C, o2 = some C → C.length ≤ 400 → rb = true → V2 = V ∧ k2 = true) := hide (fun C hC hl hX => by
    have h9 := HRD2.out C hC hl hX
    subst hC
    have e1 : rgV C true = V2 := hV2
    have e2 : rgO C true = k2 := hk2
    unfold rgV at e1
    unfold rgO at e2
    rw [h9] at e1 e2
    exact ⟨e1.symm, e2.symm⟩)
  rw [hV2, hk2] at CJ
  clear hV2 hk2 HRD2
  unfold LtAns at CJ
  go_wp2_with fail
  refine CJ.out.mono ?_
  rintro e w3 ⟨adJ, cJ, rfl, hoJ, hb3⟩
  have OJ3 := hide hoJ
  have O3 := hide (xo_below O2.out hb3)
  have HB3 := hide (HB2.out.trans (hb3.mono HB2.out.size))
  have HT3 := hide (tabs_below HT2.out hb3)
  obtain ⟨vm, hvm⟩ : ∃ vm, V2.length = vm := ⟨_, rfl⟩
  have HVM := hide hvm
  rw [hvm]
  clear hoJ hb3 O2 HB2 HT2 CJ hvm
  obtain ⟨BJ, hBJ⟩ : ∃ BJ, w2.heap.size = BJ := ⟨_, rfl⟩
  rw [hBJ] at OJ3
  clear hBJ
  go_wp2_with fail
  refine (CS.out _ O3.out).mono ?_
  rintro e w4 ⟨rfl, hb4⟩
  have OJ4 := hide (xo_below OJ3.out hb4)
  have O4 := hide (xo_below O3.out hb4)
  have HB4 := hide (HB3.out.trans (hb4.mono HB3.out.size))
  have HT4 := hide (tabs_below HT3.out hb4)
  clear hb4 OJ3 O3 HB3 HT3
  go_wp2_with fail
  refine (CG.out _ O4.out).mono ?_
  rintro e w5 ⟨rfl, hb5⟩
  have OJ5 := hide (xo_below OJ4.out hb5)
  have O5 := hide (xo_below O4.out hb5)
  have HB5 := hide (HB4.out.trans (hb5.mono HB4.out.size))
  have HT5 := hide (tabs_below HT4.out hb5)
  clear hb5 OJ4 O4 HB4 HT4 CG
  cases rb with
  | false =>
    have e9 := HNO.out rfl
    subst e9
    go_wp2_with fail
    refine (CS.out _ O5.out).mono ?_
    rintro e w6 ⟨rfl, hb6⟩
    have HB6 := hide (HB5.out.trans (hb6.mono HB5.out.size))
    clear hb6
    go_wp2
    go_ret
    exact ⟨rfl, HB6.out⟩
  | true =>
    clear HNO CS
    go_wp2_with fail
    refine (CR.out _ HT5.out).mono ?_
    rintro e w6 ⟨ta, tc, rfl, hr6, hb6⟩
    have HB6 := hide (HB5.out.trans (hb6.mono HB5.out.size))
    have O6 := hide (xo_below O5.out hb6)
    have OJ6 := hide (xo_below OJ5.out hb6)
    clear hb6 O5 OJ5 CR HT5 hr6 HB5
    cases o2 with
    | none =>
      go_wp2
      go_ret
      exact ⟨rfl, HB6.out⟩
    | some C =>
      have E1 : outL (some C) = C := rfl
      have E2 : (some C).isSome = true := rfl
      simp only [E1, E2]
      by_cases h4 : 400 < C.length
      · have h4' : (400 : Int) < (C.length : Int) := by omega
        go_wp2
        go_ret
        exact ⟨rfl, HB6.out⟩
      · have h4' : ¬ (400 : Int) < (C.length : Int) := by omega
        obtain ⟨q1, q2⟩ := HQ.out C (by first | trivial | rfl) (by omega) (by first | trivial | rfl)
        have q3 : vm = vn := by rw [← HVM.out, ← HVN.out, q1]
        rw [q1] at OJ6
        subst q2
        subst q3
        clear HQ q1 HVM E1 E2
        go_wp2_with fail
        refine (same_xo HVN.out hv (by omega) OJ6.out O6.out).mono ?_
        rintro e w7 ⟨rfl, hb7⟩
        have HB7 := hide (HB6.out.trans (hb7.mono HB6.out.size))
        clear hb7
        go_wp2
        go_ret
        exact ⟨rfl, HB7.out⟩
end Go.Proofs.YtibagghpimadfaaGreatDoor

/-
  A table of numbers that lies as its initialiser laid it, as a list: of no program.
-/
namespace Go.Proofs.YtibagghpimadfaaGreatDoor
open Go.RowKit Go.Joins
theorem tabis_of {P : Program} {W : World} {name : String} {k : IntKind} {zs : List Int} {g : Nat} {t e : TypeId} {n : Nat} (hg : P.globalNamed name = some g) (hty : (P.globals[g]?).map (·.type) = some t) (ht : P.underlying t = some (.array n e)) (he : P.underlying e = some (.int k)) (hce : P.cellsOf e = 1) (hct : P.cellsOf t = n)
    (h : Lib.VarReads P W name (Lib.tabData k zs)) : Lib.TabIs P W name k zs := by
  obtain ⟨g', t', cs, fuel, p, hg', ht', hvar, hd⟩ := h
  obtain rfl := Option.some.inj (hg.symm.trans hg')
  obtain rfl := Option.some.inj (hty.symm.trans ht')
  have e := Lib.cells_of_tab ht he hce hct hd
  unfold Lib.TabIs
  rw [hvar]; congr 1; cases cs; simp at e; rw [e]
end Go.Proofs.YtibagghpimadfaaGreatDoor
