/-
  Texts put together: LiI, RgN.
-/
import Derived.Test.YtepommmmmfaihaaDoorC27
import Derived.Test.YtepommmmmfaihaaDoorC4
import Derived.Deep.QuietTactic
/-
  Contract: the program's Literal: the nodes of a text's own expression, in new memory.
-/
namespace Go.Proofs.YtepommmmmfaihaaDoor
open Go.RowKit Go.Joins
set_option linter.unusedVariables false
set_option linter.unusedSimpArgs false
theorem own_pr1 {w : World} {q : Nat} {a : Int} (h : w.heap[q]? = some (.cells #[.int .i64 a, .int .i64 a] 46 (0, 0))) : w.ownsRow 0 46 2 (.slice (some ⟨q, 0, none⟩) 1 1) 1 (prV [(a, a)]) :=
  ⟨rfl, .inr ⟨q, 1, #[.int .i64 a, .int .i64 a], rfl, Nat.zero_le _, h, Nat.le_refl _, by unfold maxLen; omega, rfl, rfl⟩⟩
set_option maxHeartbeats 2000000 in
theorem i_classOf (a : Int) (w : World) : Calls Tryd.prog 16 #[.int .i64 a] w fun e w' => ∃ q, e = .returned (.agg #[.int .i64 2, .bool false, .slice (some ⟨q, 0, none⟩) 1 1, .int .i64 0, .int .i64 0, .int .i64 0, .int .i64 0]) ∧ w.heap.size ≤ q ∧ w'.ownsRow 0 46 2 (.slice (some ⟨q, 0, none⟩) 1 1) 1 (prV [(a, a)]) ∧ Below w.heap.size w w' := by
  go_enter Tryd.func16, Tryd.ntmps16
  have h1 : ((w.alloc (.cells #[.int .i64 2, .bool false, .slice (some ⟨w.heap.size + 1, 0, none⟩) 1 1, .int .i64 0, .int .i64 0, .int .i64 0, .int .i64 0] 43)).alloc (.cells #[.int .i64 a, .int .i64 a] 46)).heap[w.heap.size + 1]? = some (.cells #[.int .i64 a, .int .i64 a] 46 (0, 0)) := by
    have h := heap_alloc_new (w.alloc (.cells #[.int .i64 2, .bool false, .slice (some ⟨w.heap.size + 1, 0, none⟩) 1 1, .int .i64 0, .int .i64 0, .int .i64 0, .int .i64 0] 43)) (.cells #[.int .i64 a, .int .i64 a] 46)
    rw [show (w.alloc (.cells #[.int .i64 2, .bool false, .slice (some ⟨w.heap.size + 1, 0, none⟩) 1 1, .int .i64 0, .int .i64 0, .int .i64 0, .int .i64 0] 43)).heap.size = w.heap.size + 1 by simp] at h
    exact h
  have H1 := hide (own_pr1 h1)
  have HB := hide (((Below.refl w.heap.size w).alloc (Nat.le_refl _) (.cells #[.int .i64 2, .bool false, .slice (some ⟨w.heap.size + 1, 0, none⟩) 1 1, .int .i64 0, .int .i64 0, .int .i64 0, .int .i64 0] 43)).alloc (by simp) (.cells #[.int .i64 a, .int .i64 a] 46))
  clear h1
  go_wp2
  refine bodyPost_ret (v := .agg #[.int .i64 2, .bool false, .slice (some ⟨w.heap.size + 1, 0, none⟩) 1 1, .int .i64 0, .int .i64 0, .int .i64 0, .int .i64 0]) (by simp [results, Tryd.results16, go_sem]) rfl ?_
  exact ⟨w.heap.size + 1, rfl, by omega, H1.out, HB.out⟩
set_option maxRecDepth 100000 in
set_option maxHeartbeats 8000000 in
theorem i_literal (s : ByteArray) (C : List Int) (b : Bool) (w : World) (hs : s.size ≤ 1048576) (hTb : Tabs w) (hC : outL (rns s) = C) (hb : (rns s).isSome = b) :
    Calls Tryd.prog 6 #[.string s] w (LtAnL (litV C b) (litB C b) w) := by
  obtain ⟨i0, hi0, hz0, hz1, hz2⟩ := info_parts infoNL
  have CR := hide (i_runes_lb s C b w hs hTb hC hb)
  have hcl : C.length ≤ 20000 := by rw [← hC]; exact outL_len s
  clear hC hb hTb
  go_enter Tryd.func6, Tryd.ntmps6
  go_wp2_with fail
  refine CR.out.mono ?_
  rintro e w1 ⟨ta, tc, rfl, ho1, hb1⟩
  have HO1 := hide ho1
  have HB1 := hide hb1
  clear ho1 hb1 CR
  cases b
  · go_wp2
    go_ret2
    exact lt_none (by simp) HB1.out
  · by_cases h60 : 60 < C.length
    · have h60' : (60 : Int) < (C.length : Int) := by omega
      go_wp2
      go_ret2
      exact lt_none (by omega) HB1.out
    · have h60' : ¬ (60 : Int) < (C.length : Int) := by omega
      by_cases h0 : C.length = 0
      · have h0' : (((C.length : Nat) : Int) == 0) = true := by rw [h0]; rfl
        have HE := hide (litV_em h0)
        have HX := hide (xo_em (B := w.heap.size) w1 HB1.out.size)
        have HB2 := hide (HB1.out.alloc HB1.out.size (.cells #[.int .i64 1, .bool false, .slice none 0 0, .int .i64 0, .int .i64 0, .int .i64 0, .int .i64 0] 43))
        go_wp2
        go_ret2
        rw [HE.out.1, HE.out.2]
        exact ⟨some ⟨w1.heap.size, 0, none⟩, 1, rfl, HX.out, HB2.out⟩
      · have h0' : (((C.length : Nat) : Int) == 0) = false := by simp only [beq_eq_false_iff_ne, ne_eq]; omega
        have HE := hide (litV_yes (by omega) h0)
        obtain ⟨tb, tcap, hv, htB, htg⟩ := HO1.out.form (by omega)
        simp only [Value.slice.injEq] at hv
        obtain ⟨rfl, -, rfl⟩ := hv
        have hc0 : 0 < C.length := by omega
        have hc0' : (0 : Int) < (C.length : Int) := by omega
        have hc1' : (1 : Int) ≤ (C.length : Int) := by omega
        have htcap : C.length ≤ tc := by
          rcases HO1.out.2 with ⟨-, hz⟩ | ⟨g', cap', cur', hv', -, -, hcc, -⟩
          · omega
          · simp only [Value.slice.injEq] at hv'
            omega
        have htc' : (C.length : Int) ≤ (tc : Int) := by omega
        have ct0 : w1.cell? ⟨tb, 0, none⟩ = some (.int .i64 C[0]) := by
          rw [HO1.out.cellAt 0 (by omega)]
          simp [List.getElem?_eq_getElem hc0]
        have HL1 : Hid (litL (C.take (0 + 1)) = [clsL C[0]]) := hide (by rw [litL_take hc0]; rfl)
        obtain ⟨c0, hcc0⟩ : ∃ c0, C[0] = c0 := ⟨_, rfl⟩
        rw [hcc0] at ct0 HL1
        clear hcc0
        go_wp2_with fail
        refine (i_classOf c0 _).mono ?_
        rintro e w2 ⟨q, rfl, hq, hr2, hb2⟩
        have HX2 := hide (xo_cls (B := w.heap.size) (Nat.le_trans HB1.out.size hb2.size) (Nat.le_trans HB1.out.size hq) hr2)
        have HB2 := hide ((HB1.out.trans (hb2.mono HB1.out.size)).alloc (Nat.le_trans HB1.out.size hb2.size) (.cells #[.int .i64 2, .bool false, .slice (some ⟨q, 0, none⟩) 1 1, .int .i64 0, .int .i64 0, .int .i64 0, .int .i64 0] 43))
        have HT2 := hide (own_below' (own_below' HO1.out hb2) ((Below.refl w2.heap.size w2).alloc (Nat.le_refl _) (.cells #[.int .i64 2, .bool false, .slice (some ⟨q, 0, none⟩) 1 1, .int .i64 0, .int .i64 0, .int .i64 0, .int .i64 0] 43)))
        clear hr2 hb2 ct0
        have HX2' : Hid (XO w.heap.size (fun j => w.heap.size ≤ j) (w2.alloc (.cells #[.int .i64 2, .bool false, .slice (some ⟨q, 0, none⟩) 1 1, .int .i64 0, .int .i64 0, .int .i64 0, .int .i64 0] 43)) (some ⟨w2.heap.size, 0, none⟩) 1 (litL (C.take (0 + 1)))) := hide (by rw [HL1.out]; exact HX2.out)
        clear HX2
        go_wp2_with fail
        all_goals
          go_loopw [6, 8, 9, 35] (fun vo v8 v9 vi wr => ∃ (j : Nat) (oa : Option Addr) (oc : Nat), j + 1 ≤ C.length ∧ vi = .int .i64 j ∧ vo = .slice oa (litL (C.take (j + 1))).length oc ∧ Hid (XO w.heap.size (fun j => w.heap.size ≤ j) wr oa oc (litL (C.take (j + 1)))) ∧ Hid (Below w.heap.size w wr) ∧ Hid (∃ tc', wr.ownsRow w.heap.size 2 1 (.slice (some ⟨tb, 0, none⟩) C.length tc') C.length (C.map (Value.int .i64)))) (fun _ _ _ vi _ => C.length - (intOf vi).toNat)
          case atStart => exact ⟨0, some ⟨w2.heap.size, 0, none⟩, 1, by omega, rfl, by rw [HL1.out]; rfl, HX2', HB2, hide ⟨_, HT2.out⟩⟩
          case round =>
            clear HX2' HB2 HT2 HL1 HO1 HB1
            obtain ⟨j, oa, oc, hj, rfl, rfl, HX, HB, HT⟩ := hrel
            by_cases hlt : j + 1 < C.length
            · first
                | (exfalso; omega)
                | (have hjj : (j : Int) < ((C.length - 1 : Nat) : Int) := by omega
                   have hjn : j < C.length - 1 := by omega
                   have HLT := hide (litL_take hlt)
                   have hll := litL_len (C.take (j + 1))
                   rw [List.length_take] at hll
                   obtain ⟨tc', ht'⟩ := HT.out
                   have ct : wr.cell? ⟨tb, 1 + j, none⟩ = some (.int .i64 C[j + 1]) := by
                     rw [ht'.cellAt (1 + j) (by omega), Nat.add_comm 1 j]
                     simp [List.getElem?_eq_getElem hlt]
                   have HT' := hide ht'
                   obtain ⟨cc, hcc⟩ : ∃ cc, C[j + 1] = cc := ⟨_, rfl⟩
                   rw [hcc] at ct HLT
                   obtain ⟨X, hX⟩ : ∃ X, litL (C.take (j + 1)) = X := ⟨_, rfl⟩
                   rw [hX] at HX HLT hll
                   rw [hX]
                   have hxl : X.length ≤ 119 := by omega
                   have hx0 : X.length ≠ 0 := by omega
                   have hx1 : 1 ≤ X.length := by omega
                   have HZ : Hid (litL (C.take (j + 1 + 1)) = (X ++ [clsL cc]) ++ [sqL ((X.length : Int) - 1)]) := hide (by rw [HLT.out, litS_more hx0])
                   have hsz := HB.out.size
                   clear hX hll hcc ht' HLT hx0 HT
                   go_wp2_with fail
                   refine (i_classOf cc _).mono ?_
                   rintro e w3 ⟨q3, rfl, hq3, hr3, hb3⟩
                   have HR3 := hide hr3
                   obtain ⟨xs, hown, hits, hdj⟩ := HX.out
                   have HQN : Hid (∀ k, k < X.length → kb7 xs k ≠ some q3) := hide (fun k hk e => by have := (xits_kb hits hk e).2; omega)
                   have kk : Kp (fun _ => False) wr w3 := ⟨hb3.os, hb3.tape, hb3.output, hb3.size, fun k hk _ => hb3.block k hk⟩
                   have HOW := hide (own_kp hown kk (fun _ _ x => x))
                   have HIT := hide (xits_kp hits kk (fun _ _ _ _ _ _ _ _ _ x => x))
                   have HDJ := hide hdj
                   have HB3 := hide (HB.out.trans (hb3.mono HB.out.size))
                   have HT3 := hide (own_kp HT'.out kk (fun _ _ x => x))
                   have hs3 : w.heap.size ≤ w3.heap.size := HB3.out.size
                   have hq3' : w.heap.size ≤ q3 := by omega
                   clear hr3 hb3 hown hits hdj kk HX HB HT' ct
                   go_wp2_with (at_builtin; refine wpList_append_lies _ (by rfl) (.tmp 42) (.tmp 49) 25 (by rfl) w.heap.size 43 i0 _ 7 72 Tryd.underlying25 hi0 hz0 hz1 hz2 rfl (by omega) (.slice oa X.length oc) X.length xs (by rfl) (HOW.out.alloc _) ⟨w3.heap.size, 0, none⟩ 2 2 (ndV (clsL cc) (some ⟨q3, 0, none⟩) 1 ++ ndV ⟨3, false, [], (X.length : Int) - 1, (X.length : Int), 0, 0⟩ none 0) (by rfl) (by rfl) (World.news_of_block (cs := #[.int .i64 2, .bool false, .slice (some ⟨q3, 0, none⟩) 1 1, .int .i64 0, .int .i64 0, .int .i64 0, .int .i64 0, .int .i64 3, .bool false, .slice none 0 0, .int .i64 ((X.length : Int) - 1), .int .i64 (X.length : Int), .int .i64 0, .int .i64 0]) (t := 43) (fr := (0, 0)) (heap_alloc_new w3 _)) (by simp [Value.oneCell', ndV]) (by omega) (by unfold maxLen; omega) (by omega) (by simp; omega) (w3.heap.size + 1) (by simp) ?_; intro g4 cap4 w4 hown4 hgrow4 hat4 hlt4; have H4 := hide (lt_app3 (nd := ⟨3, false, [], (X.length : Int) - 1, (X.length : Int), 0, 0⟩) rfl hq3' HR3.out HQN.out HOW.out HIT.out HDJ.out hown4 hgrow4); have HB4 := hide (lt_below1 HB3.out HOW.out hgrow4); have HT4 := hide (lt_text1 HT3.out HOW.out hgrow4); clear hown4 hgrow4 hat4)
                   go_roundw
                   case rel =>
                     have hq : (⟨3, false, [], (X.length : Int) - 1, (X.length : Int), 0, 0⟩ : Nd) = sqL ((X.length : Int) - 1) := by
                       unfold sqL
                       congr 1
                       omega
                     refine ⟨j + 1, some ⟨g4, 0, none⟩, cap4, by omega, by go_num, ?_, ?_, HB4, hide ⟨_, HT4.out⟩⟩
                     · rw [HZ.out]; simp
                     · rw [HZ.out, ← hq]; exact H4
                   case measure => (simp [intOf]; omega))
            · have hjj : ¬ (j : Int) < ((C.length - 1 : Nat) : Int) := by omega
              have hjn : ¬ j < C.length - 1 := by omega
              have hin : j + 1 = C.length := by omega
              have HE2 : Hid (litL (C.take (j + 1)) = litL C) := hide (by rw [hin, List.take_length])
              clear hin
              obtain ⟨V, hV⟩ : ∃ V, litL (C.take (j + 1)) = V := ⟨_, rfl⟩
              rw [hV] at HX HE2
              rw [hV]
              clear hV
              go_wp2
              go_ret2
              rw [HE.out.1, HE.out.2, ← HE2.out]
              exact ⟨oa, oc, rfl, HX.out, HB.out⟩
end Go.Proofs.YtepommmmmfaihaaDoor

/-
  Contract of the laws' helper: two rows of nodes that are alike are told so.
-/
namespace Go.Proofs.YtepommmmmfaihaaDoor
open Go.RowKit Go.Joins
set_option linter.unusedVariables false
set_option linter.unusedSimpArgs false
theorem kp9_block {w w' : World} {b o : Nat} (h : b < w.heap.size) (k : Below w.heap.size w w') : w'.cell? ⟨b, o, none⟩ = w.cell? ⟨b, o, none⟩ := by
  simp only [World.cell?]
  rw [k.block b h]
set_option maxRecDepth 100000 in
set_option maxHeartbeats 8000000 in
theorem l_sameNs (X : Rx) (n : Nat) (a1 a2 : Option Addr) (c1 c2 : Nat) (w : World) (hX : X.len = n) (hn : n ≤ 1048576) (hnr : ∀ j, j < n → X.NR j ≤ 1048576) (h1 : RxAt w a1 X w.heap.size) (h2 : RxAt w a2 X w.heap.size) :
    Calls Tryd.prog 8 #[.slice a1 n c1, .slice a2 n c2] w fun e w' => e = .returned (.bool true) ∧ Below w.heap.size w w' := by
  have H1 := hide h1
  have H2 := hide h2
  have HNR := hide hnr
  have HX := hide hX
  have hne : ((n : Int) != (n : Int)) = false := by simp
  clear h1 h2 hnr hX
  go_enter Tryd.func8, Tryd.ntmps8
  go_wp2_with fail
  go_loopw [5] (fun iv wr => ∃ i : Nat, i ≤ n ∧ iv = .int .i64 i ∧ Hid (Below w.heap.size w wr)) (fun iv _ => n - (intOf iv).toNat)
  case atStart => exact ⟨0, Nat.zero_le _, rfl, hide (Below.refl _ _)⟩
  case round =>
    obtain ⟨i, hi, rfl, HB⟩ := hrel
    by_cases hlt : i < n
    · have hii : (i : Int) < (n : Int) := by omega
      have hi0 : (0 : Int) ≤ (i : Int) := by omega
      obtain ⟨b1, o1, rfl, hb1, hr1⟩ := H1.out (by rw [HX.out]; omega)
      obtain ⟨b2, o2, rfl, hb2, hr2⟩ := H2.out (by rw [HX.out]; omega)
      obtain ⟨ad1, cp1, ⟨p0, p1, p2, p3, p4, p5, p6⟩, g1⟩ := hr1 i (by rw [HX.out]; exact hlt)
      obtain ⟨ad2, cp2, ⟨q0, q1, q2, q3, q4, q5, q6⟩, g2⟩ := hr2 i (by rw [HX.out]; exact hlt)
      have hnr := HNR.out i hlt
      rw [← kp9_block hb1 HB.out] at p0 p1 p2 p3 p4 p5 p6
      rw [← kp9_block hb2 HB.out] at q0 q1 q2 q3 q4 q5 q6
      have G1 := hide (rngAt_go g1 HB.out)
      have G2 := hide (rngAt_go g2 HB.out)
      have hs := HB.out.size
      have hbr1 : b1 < wr.heap.size := by omega
      have hbr2 : b2 < wr.heap.size := by omega
      obtain ⟨K, hK⟩ : ∃ K, X.K i = K := ⟨_, rfl⟩
      obtain ⟨NT, hNT⟩ : ∃ NT, X.NT i = NT := ⟨_, rfl⟩
      obtain ⟨A, hA⟩ : ∃ A, X.A i = A := ⟨_, rfl⟩
      obtain ⟨B, hB⟩ : ∃ B, X.B i = B := ⟨_, rfl⟩
      obtain ⟨MN, hMN⟩ : ∃ MN, X.MN i = MN := ⟨_, rfl⟩
      obtain ⟨MX, hMX⟩ : ∃ MX, X.MX i = MX := ⟨_, rfl⟩
      obtain ⟨NR, hNR⟩ : ∃ NR, X.NR i = NR := ⟨_, rfl⟩
      obtain ⟨LL, hLL⟩ : ∃ LL, X.L i = LL := ⟨_, rfl⟩
      obtain ⟨HL, hHL⟩ : ∃ HL, X.H i = HL := ⟨_, rfl⟩
      rw [hK] at p0 q0
      rw [hNT] at p1 q1
      rw [hNR] at p2 q2 G1 G2 hnr
      rw [hA] at p3 q3
      rw [hB] at p4 q4
      rw [hMN] at p5 q5
      rw [hMX] at p6 q6
      rw [hLL, hHL] at G1 G2
      have m0 : (K != K) = false := by simp
      have m1 : (NT != NT) = false := by simp
      have m3 : (A != A) = false := by simp
      have m4 : (B != B) = false := by simp
      have m5 : (MN != MN) = false := by simp
      have m6 : (MX != MX) = false := by simp
      have m2 : ((NR : Int) != (NR : Int)) = false := by simp
      clear g1 g2 hr1 hr2 hK hNT hA hB hMN hMX hNR hLL hHL
      have hA1 : ((wr.alloc (.cells #[.int .i64 K, .bool NT, .slice ad1 NR cp1, .int .i64 A, .int .i64 B, .int .i64 MN, .int .i64 MX] 43)).alloc (.cells #[.int .i64 K, .bool NT, .slice ad2 NR cp2, .int .i64 A, .int .i64 B, .int .i64 MN, .int .i64 MX] 43)).cell? ⟨wr.heap.size, 2, none⟩ = some (.slice ad1 NR cp1) := by
        rw [kp9_block (w := wr.alloc _) (by simp) ((Below.refl _ _).alloc (Nat.le_refl _) _), cell_of_row _ wr.heap.size 2 _ _ (0, 0) (heap_alloc_new wr _)]
        rfl
      have hA2 : ((wr.alloc (.cells #[.int .i64 K, .bool NT, .slice ad1 NR cp1, .int .i64 A, .int .i64 B, .int .i64 MN, .int .i64 MX] 43)).alloc (.cells #[.int .i64 K, .bool NT, .slice ad2 NR cp2, .int .i64 A, .int .i64 B, .int .i64 MN, .int .i64 MX] 43)).cell? ⟨wr.heap.size + 1, 2, none⟩ = some (.slice ad2 NR cp2) := by
        have h9 := heap_alloc_new (wr.alloc (.cells #[.int .i64 K, .bool NT, .slice ad1 NR cp1, .int .i64 A, .int .i64 B, .int .i64 MN, .int .i64 MX] 43)) (.cells #[.int .i64 K, .bool NT, .slice ad2 NR cp2, .int .i64 A, .int .i64 B, .int .i64 MN, .int .i64 MX] 43)
        rw [show (wr.alloc (.cells #[.int .i64 K, .bool NT, .slice ad1 NR cp1, .int .i64 A, .int .i64 B, .int .i64 MN, .int .i64 MX] 43)).heap.size = wr.heap.size + 1 by simp] at h9
        rw [cell_of_row _ (wr.heap.size + 1) 2 _ _ (0, 0) h9]
        rfl
      have HBA : Hid (Below wr.heap.size wr ((wr.alloc (.cells #[.int .i64 K, .bool NT, .slice ad1 NR cp1, .int .i64 A, .int .i64 B, .int .i64 MN, .int .i64 MX] 43)).alloc (.cells #[.int .i64 K, .bool NT, .slice ad2 NR cp2, .int .i64 A, .int .i64 B, .int .i64 MN, .int .i64 MX] 43))) := hide (((Below.refl _ _).alloc (Nat.le_refl _) _).alloc (by simp) _)
      have hsz : ((wr.alloc (.cells #[.int .i64 K, .bool NT, .slice ad1 NR cp1, .int .i64 A, .int .i64 B, .int .i64 MN, .int .i64 MX] 43)).alloc (.cells #[.int .i64 K, .bool NT, .slice ad2 NR cp2, .int .i64 A, .int .i64 B, .int .i64 MN, .int .i64 MX] 43)).heap.size = wr.heap.size + 1 + 1 := by simp
      have HA1 := hide hA1
      have HA2 := hide hA2
      have HSZ := hide hsz
      clear hA1 hA2 hsz
      go_wp2_with fail
      obtain ⟨W, hW⟩ : ∃ W, (wr.alloc (.cells #[.int .i64 K, .bool NT, .slice ad1 NR cp1, .int .i64 A, .int .i64 B, .int .i64 MN, .int .i64 MX] 43)).alloc (.cells #[.int .i64 K, .bool NT, .slice ad2 NR cp2, .int .i64 A, .int .i64 B, .int .i64 MN, .int .i64 MX] 43) = W := ⟨_, rfl⟩
      rw [hW] at HA1 HA2 HBA HSZ ⊢
      obtain ⟨Q, hQ⟩ : ∃ Q, wr.heap.size = Q := ⟨_, rfl⟩
      have HQ := hide hQ
      rw [hQ] at HA1 HA2 HSZ ⊢
      clear hW hQ p0 p1 p2 p3 p4 p5 p6 q0 q1 q2 q3 q4 q5 q6
      have HBW := hide (HB.out.trans (HBA.out.mono hs))
      have W1 := hide (rngAt_go G1.out (HBA.out.mono hs))
      have W2 := hide (rngAt_go G2.out (HBA.out.mono hs))
      have hwW : w.heap.size ≤ W.heap.size := HBW.out.size
      have hQW : Q + 1 < W.heap.size := by rw [HSZ.out]; omega
      clear HBA HSZ HQ G1 G2 HB
      go_loopw [8] (fun kv wx => ∃ k : Nat, k ≤ NR ∧ kv = .int .i64 k ∧ Hid (Below W.heap.size W wx)) (fun kv _ => NR - (intOf kv).toNat)
      case atStart => exact ⟨0, Nat.zero_le _, rfl, hide (Below.refl _ _)⟩
      case round =>
        obtain ⟨k, hk, rfl, HC⟩ := hrel
        have s1 : wr.cell? ⟨Q, 2, none⟩ = some (.slice ad1 NR cp1) := (kp9_block (by omega) HC.out).trans HA1.out
        have s2 : wr.cell? ⟨Q + 1, 2, none⟩ = some (.slice ad2 NR cp2) := (kp9_block (by omega) HC.out).trans HA2.out
        by_cases hk2 : k < NR
        · have hki : (k : Int) < (NR : Int) := by omega
          have hk0 : (0 : Int) ≤ (k : Int) := by omega
          obtain ⟨rb1, ro1, rfl, hrb1, hc1⟩ := W1.out (by omega)
          obtain ⟨rb2, ro2, rfl, hrb2, hc2⟩ := W2.out (by omega)
          obtain ⟨u1, u2⟩ := hc1 k hk2
          obtain ⟨v1, v2⟩ := hc2 k hk2
          rw [← kp9_block (by omega) HC.out] at u1 u2 v1 v2
          obtain ⟨lo9, hlo⟩ : ∃ lo9, LL k = lo9 := ⟨_, rfl⟩
          obtain ⟨hi9, hhi⟩ : ∃ hi9, HL k = hi9 := ⟨_, rfl⟩
          rw [hlo] at u1 v1
          rw [hhi] at u2 v2
          clear hc1 hc2 hlo hhi
          go_wp2
          go_quiet (fail)
          revert nq; intro n1
          go_wp2
          go_roundw
          case rel => exact ⟨k + 1, by omega, by go_num, hide (HC.out.trans ⟨rfl, rfl, rfl, Nat.le_refl _, fun _ _ => rfl⟩)⟩
          case measure => simp [intOf]; omega
        · have hkn : k = NR := by omega
          have hki : ¬ (k : Int) < (NR : Int) := by omega
          have HB9 := hide (HBW.out.trans (HC.out.mono hwW))
          go_wp2
          go_roundw
          case rel => exact ⟨i + 1, by omega, by go_num, HB9⟩
          case measure => simp [intOf]; omega
    · have hin : i = n := by omega
      subst hin
      have hii : ¬ (i : Int) < (i : Int) := by omega
      go_wp2
      go_ret
      exact ⟨rfl, HB.out⟩
end Go.Proofs.YtepommmmmfaihaaDoor
