/-
  Contract: the specification's Literal: the nodes of a text's own expression, in new memory.
-/
import Derived.Test.YtepommmmmfaihaaDoorC6
import Derived.Test.YtepommmmmfaihaaDoorC19
import Derived.Deep.RegionLaw
import Derived.Deep.DeepCutAuto
namespace Go.Proofs.YtepommmmmfaihaaDoor
open Go.RowKit Go.Joins
set_option linter.unusedVariables false
set_option linter.unusedSimpArgs false
theorem infoNL : (Tryd.prog.info? 43).map (fun i => (i.zero, i.size, i.bytes)) = some (some (.agg #[.int .i64 0, .bool false, .slice none 0 0, .int .i64 0, .int .i64 0, .int .i64 0, .int .i64 0]), 7, 72) := by kernel_rfl
/-- What Literal leaves. -/
def LtAnL (V : List Nd) (ok : Bool) (w : World) (e : Ending) (w' : World) : Prop := ∃ ad c, e = .returned (.tuple #[.slice ad V.length c, .bool ok]) ∧ XO w.heap.size (fun j => w.heap.size ≤ j) w' ad c V ∧ Below w.heap.size w w'
theorem lt_none {C : List Int} {b : Bool} {w w' : World} (h : ¬ (b = true ∧ C.length ≤ 60)) (hb : Below w.heap.size w w') : LtAnL (litV C b) (litB C b) w (.returned (.tuple #[.slice none 0 0, .bool false])) w' := by
  have e1 : litV C b = [] := by unfold litV; rw [if_neg h]
  have e2 : litB C b = false := by
    unfold litB
    cases b
    · rfl
    · simp at h ⊢; omega
  rw [e1, e2]
  exact ⟨none, 0, rfl, xo_nil _ _ _, hb⟩
theorem litV_yes {C : List Int} (h : C.length ≤ 60) (h0 : C.length ≠ 0) : litV C true = litL C ∧ litB C true = true := by
  unfold litV litB
  rw [if_pos ⟨rfl, h⟩, if_neg h0]
  exact ⟨rfl, by simp [h]⟩
theorem litV_em {C : List Int} (h0 : C.length = 0) : litV C true = [emL] ∧ litB C true = true := by
  unfold litV litB
  rw [if_pos ⟨rfl, by omega⟩, if_pos h0]
  exact ⟨rfl, by simp [h0]⟩
theorem grown_undr {w w6 : World} {row : Option Nat} (h : w.drew.grownBy w6 row) : w.grownBy w6 row := ⟨h.os, h.tape, h.output, h.size, h.block⟩
theorem lt_news (w : World) (a : Int) : ∀ j u, (ndV (clsL a) (some ⟨w.heap.size, 0, none⟩) 1)[j]? = some u → ((w.alloc (.cells #[.int .i64 a, .int .i64 a] 46)).alloc (.cells #[.int .i64 2, .bool false, .slice (some ⟨w.heap.size, 0, none⟩) 1 1, .int .i64 0, .int .i64 0, .int .i64 0, .int .i64 0] 43)).drew.cell? ((⟨w.heap.size + 1, 0, none⟩ : Addr).add j) = some u := by
  have h := World.news_of_block (w := (w.alloc (.cells #[.int .i64 a, .int .i64 a] 46)).alloc (.cells #[.int .i64 2, .bool false, .slice (some ⟨w.heap.size, 0, none⟩) 1 1, .int .i64 0, .int .i64 0, .int .i64 0, .int .i64 0] 43)) (heap_alloc_new (w.alloc (.cells #[.int .i64 a, .int .i64 a] 46)) _)
  rw [show (w.alloc (.cells #[.int .i64 a, .int .i64 a] 46)).heap.size = w.heap.size + 1 by simp] at h
  exact h
theorem lt_below {w0 w w9 : World} {o1 o2 : Obj} {v : Value} {n : Nat} {xs : List Value} (hb : Below w0.heap.size w0 w) (hown : w.ownsRow w0.heap.size 43 7 v n xs) (hg : ((w.alloc o1).alloc o2).grownBy w9 v.ownBlock) : Below w0.heap.size w0 w9 := by
  have k : Kp (fun j => v.ownBlock = some j) w w9 := ((kp_alloc w o1).trans (kp_alloc (S := fun j => v.ownBlock = some j) _ o2) (fun _ _ h => h)).trans (kp_grown (S := fun j => v.ownBlock = some j) hg (fun k hk => hk)) (fun _ _ h => h)
  exact hb.trans (kp_below k hb.size (fun j hj => (hown.lt j hj).1))
theorem lt_text {B B' : Nat} {w w9 : World} {o1 o2 : Obj} {v t : Value} {n n' : Nat} {xs ys : List Value} (ht : w.ownsRow B' 2 1 t n' ys) (hown : w.ownsRow B 43 7 v n xs) (hg : ((w.alloc o1).alloc o2).grownBy w9 v.ownBlock) : w9.ownsRow B' 2 1 t n' ys := by
  have k : Kp (fun j => v.ownBlock = some j) w w9 := ((kp_alloc w o1).trans (kp_alloc (S := fun j => v.ownBlock = some j) _ o2) (fun _ _ h => h)).trans (kp_grown (S := fun j => v.ownBlock = some j) hg (fun k hk => hk)) (fun _ _ h => h)
  exact own_kp ht k (fun j hj e => own_ne ht hj hown e (by decide) rfl)
theorem lt_below1 {w0 w w9 : World} {o1 : Obj} {v : Value} {n : Nat} {xs : List Value} (hb : Below w0.heap.size w0 w) (hown : w.ownsRow w0.heap.size 43 7 v n xs) (hg : (w.alloc o1).grownBy w9 v.ownBlock) : Below w0.heap.size w0 w9 := by
  have k : Kp (fun j => v.ownBlock = some j) w w9 := (kp_alloc w o1).trans (kp_grown (S := fun j => v.ownBlock = some j) hg (fun k hk => hk)) (fun _ _ h => h)
  exact hb.trans (kp_below k hb.size (fun j hj => (hown.lt j hj).1))
theorem lt_text1 {B B' : Nat} {w w9 : World} {o1 : Obj} {v t : Value} {n n' : Nat} {xs ys : List Value} (ht : w.ownsRow B' 2 1 t n' ys) (hown : w.ownsRow B 43 7 v n xs) (hg : (w.alloc o1).grownBy w9 v.ownBlock) : w9.ownsRow B' 2 1 t n' ys := by
  have k : Kp (fun j => v.ownBlock = some j) w w9 := (kp_alloc w o1).trans (kp_grown (S := fun j => v.ownBlock = some j) hg (fun k hk => hk)) (fun _ _ h => h)
  exact own_kp ht k (fun j hj e => own_ne ht hj hown e (by decide) rfl)
set_option maxRecDepth 100000 in
set_option maxHeartbeats 8000000 in
theorem s_literal (s : ByteArray) (C : List Int) (b : Bool) (w : World) (hs : s.size ≤ 1048576) (hC : outL (rns s) = C) (hb : (rns s).isSome = b) :
    Calls Tryd.prog 7 #[.string s] w (LtAnL (litV C b) (litB C b) w) := by
  obtain ⟨i0, hi0, hz0, hz1, hz2⟩ := info_parts infoNL
  have CR := hide (s_runes_lb s C b w hs hC hb)
  have hcl : C.length ≤ 20000 := by rw [← hC]; exact outL_len s
  clear hC hb
  go_enter Tryd.func7, Tryd.ntmps7
  go_wp2_with fail
  refine CR.out.mono ?_
  rintro e w1 ⟨ta, tc, rfl, ho1, hb1⟩
  have HO1 := hide ho1
  have HB1 := hide hb1
  clear ho1 hb1 CR
  cases b
  · go_wp2
    go_ret2
    exact lt_none (by simp) HB1.out
  · by_cases h60 : 60 < C.length
    · have h60' : (60 : Int) < (C.length : Int) := by omega
      go_wp2
      go_ret2
      exact lt_none (by omega) HB1.out
    · have h60' : ¬ (60 : Int) < (C.length : Int) := by omega
      by_cases h0 : C.length = 0
      · have h0' : (((C.length : Nat) : Int) == 0) = true := by rw [h0]; rfl
        have HE := hide (litV_em h0)
        have HX := hide (xo_em (B := w.heap.size) w1 HB1.out.size)
        have HB2 := hide (HB1.out.alloc HB1.out.size (.cells #[.int .i64 1, .bool false, .slice none 0 0, .int .i64 0, .int .i64 0, .int .i64 0, .int .i64 0] 43))
        go_wp2
        go_ret2
        rw [HE.out.1, HE.out.2]
        exact ⟨some ⟨w1.heap.size, 0, none⟩, 1, rfl, HX.out, HB2.out⟩
      · have h0' : (((C.length : Nat) : Int) == 0) = false := by simp only [beq_eq_false_iff_ne, ne_eq]; omega
        have HE := hide (litV_yes (by omega) h0)
        have HX0 : Hid (XO w.heap.size (fun j => w.heap.size ≤ j) (w1.alloc (.cells #[] 43)) (some ⟨w1.heap.size, 0, none⟩) 0 (litL (C.take 0))) := hide ⟨[], World.ownsRow_made (base := w.heap.size) (e := 43) (size := 7) w1 #[] 0 HB1.out.size (Nat.zero_le _) rfl, fun j nd hj => (by simp [litL] at hj), fun i _ _ hi => absurd hi (Nat.not_lt_zero _)⟩
        have HBa := hide (HB1.out.alloc HB1.out.size (.cells #[] 43))
        have HT0 := hide (own_below' HO1.out ((Below.refl w1.heap.size w1).alloc (Nat.le_refl _) (.cells #[] 43)))
        go_wp2_with fail
        go_loopw [6, 7, 8] (fun vo vi vn wr => ∃ (i : Nat) (oa : Option Addr) (oc : Nat), i ≤ C.length ∧ vi = .int .i64 i ∧ vo = .slice oa (litL (C.take i)).length oc ∧ Hid (XO w.heap.size (fun j => w.heap.size ≤ j) wr oa oc (litL (C.take i))) ∧ Hid (Below w.heap.size w wr) ∧ Hid (wr.ownsRow w.heap.size 2 1 (.slice ta C.length tc) C.length (C.map (Value.int .i64)))) (fun _ vi _ _ => C.length - (intOf vi).toNat)
        case atStart => exact ⟨0, some ⟨w1.heap.size, 0, none⟩, 0, Nat.zero_le _, rfl, rfl, HX0, HBa, HT0⟩
        case round =>
          clear HX0 HBa HT0 HO1 HB1
          obtain ⟨i, oa, oc, hi, rfl, rfl, HX, HB, HT⟩ := hrel
          by_cases hlt : i < C.length
          · have hii : (i : Int) < (C.length : Int) := by omega
            have HLT := hide (litL_take hlt)
            have hll := litL_len (C.take i)
            rw [List.length_take] at hll
            obtain ⟨tb, tcap, hv, htB, htg⟩ := HT.out.form (by omega)
            simp only [Value.slice.injEq] at hv
            obtain ⟨rfl, -, rfl⟩ := hv
            have ct : wr.cell? ⟨tb, i, none⟩ = some (.int .i64 C[i]) := by
              rw [HT.out.cellAt i (by omega)]
              simp [List.getElem?_eq_getElem hlt]
            obtain ⟨cc, hcc⟩ : ∃ cc, C[i] = cc := ⟨_, rfl⟩
            rw [hcc] at ct HLT
            clear hcc
            obtain ⟨X, hX⟩ : ∃ X, litL (C.take i) = X := ⟨_, rfl⟩
            rw [hX] at HX HLT hll
            rw [hX]
            have hxl : X.length ≤ 119 := by omega
            have HLL : Hid (X.length = 0 ↔ i = 0) := hide (by omega)
            clear hX hll
            have hsz := HB.out.size
            obtain ⟨xs, hown, hits, hdj⟩ := HX.out
            have HOW := hide hown
            have HIT := hide hits
            have HDJ := hide hdj
            clear hown hits hdj HX
            go_upto_region 10 with fail
            go_cut [6] (fun v6 wx => ∃ gg cap', v6 = .slice (some ⟨gg, 0, none⟩) (X ++ [clsL cc]).length cap' ∧ Hid (XO w.heap.size (fun j => w.heap.size ≤ j) wx (some ⟨gg, 0, none⟩) cap' (X ++ [clsL cc])) ∧ Hid (Below w.heap.size w wx) ∧ Hid (wx.ownsRow w.heap.size 2 1 (.slice (some ⟨tb, 0, none⟩) C.length tc) C.length (C.map (Value.int .i64))))
            case first =>
              have ctd : wr.drew.cell? ⟨tb, i, none⟩ = some (.int .i64 cc) := ct
              go_region_law (first
                | (refine step_append_lies _ (by rfl) _ _ _ (by rfl) w.heap.size 43 i0 _ 7 72 Tryd.underlying25 hi0 hz0 hz1 hz2 rfl (by omega) (.slice oa X.length oc) X.length xs (by rfl) ((HOW.out.alloc _).alloc _).drew ⟨wr.heap.size + 1, 0, none⟩ 1 1 (ndV (clsL cc) (some ⟨wr.heap.size, 0, none⟩) 1) (by rfl) (by rfl) (lt_news wr cc) (by simp [Value.oneCell', ndV]) (by omega) (by unfold maxLen; omega) (by omega) (by simp; omega) (wr.heap.size + 2) (by simp) ?_; intro gg cap' w9 hown9 hgrow9 hat9 hlt9; have hgr9 := grown_undr hgrow9; have H9 := hide (lt_app1 hsz HOW.out HIT.out HDJ.out hown9 hgr9); have HB9 := hide (lt_below HB.out HOW.out hgr9); have HT9 := hide (lt_text HT.out HOW.out hgr9); clear hown9 hgrow9 hgr9 hat9)
                | (fail))
              all_goals
                go_wp2
                go_meet
                exact ⟨gg, cap', by simp, H9, HB9, HT9⟩
            case rest =>
              obtain ⟨gg, cap', rfl, H9, HB9, HT9⟩ := hcut
              clear HOW HIT HDJ HB HT ct htB htg
              by_cases hi0' : i = 0
              · subst hi0'
                have HZ : Hid (litL (C.take (0 + 1)) = X ++ [clsL cc]) := hide (by rw [HLT.out, litS_zero (HLL.out.2 rfl)])
                clear HLT HLL
                go_wp2
                go_roundw
                case rel =>
                  refine ⟨0 + 1, some ⟨gg, 0, none⟩, cap', by omega, by go_num, ?_, ?_, HB9, HT9⟩
                  · rw [HZ.out]
                  · rw [HZ.out]; exact H9
                case measure => simp [intOf]; omega
              · have hip : (0 : Int) < (i : Int) := by omega
                have hip' : 0 < i := by omega
                have HZ : Hid (litL (C.take (i + 1)) = (X ++ [clsL cc]) ++ [sqL ((X.length : Int) - 1)]) := hide (by rw [HLT.out, litS_more (fun e => hi0' (HLL.out.1 e))])
                have hx0 : X.length ≠ 0 := fun e => hi0' (HLL.out.1 e)
                clear HLT HLL
                obtain ⟨Y, hY⟩ : ∃ Y, X ++ [clsL cc] = Y := ⟨_, rfl⟩
                have HYL : Hid (Y.length = X.length + 1) := hide (by rw [← hY]; simp)
                rw [hY] at H9 HZ
                rw [hY]
                clear hY
                have hyl : Y.length ≤ 120 := by have := HYL.out; omega
                have hy2 : 2 ≤ Y.length := by have := HYL.out; omega
                obtain ⟨xs2, hown2, hits2, hdj2⟩ := H9.out
                have HOW2 := hide hown2
                have HIT2 := hide hits2
                have HDJ2 := hide hdj2
                have hs2 := HB9.out.size
                clear hown2 hits2 hdj2 H9 hx0
                go_wp2_with (at_builtin; refine wpList_append_lies _ (by rfl) (.tmp 51) (.tmp 57) 25 (by rfl) w.heap.size 43 i0 _ 7 72 Tryd.underlying25 hi0 hz0 hz1 hz2 rfl (by omega) (.slice (some ⟨gg, 0, none⟩) Y.length cap') Y.length xs2 (by rfl) (HOW2.out.alloc _) ⟨wc.heap.size, 0, none⟩ 1 1 (ndV ⟨3, false, [], (Y.length : Int) - 2, (Y.length : Int) - 1, 0, 0⟩ none 0) (by rfl) (by rfl) (World.news_of_block (cs := #[.int .i64 3, .bool false, .slice none 0 0, .int .i64 ((Y.length : Int) - 2), .int .i64 ((Y.length : Int) - 1), .int .i64 0, .int .i64 0]) (t := 43) (fr := (0, 0)) (heap_alloc_new wc _)) (by simp [Value.oneCell', ndV]) (by omega) (by unfold maxLen; omega) (by omega) (by simp; omega) (wc.heap.size + 1) (by simp) ?_; intro g3 cap3 w10 hown10 hgrow10 hat10 hlt10; have H10 := hide (lt_app2 rfl HOW2.out HIT2.out HDJ2.out hown10 hgrow10); have HB10 := hide (lt_below1 HB9.out HOW2.out hgrow10); have HT10 := hide (lt_text1 HT9.out HOW2.out hgrow10); clear hown10 hgrow10 hat10)
                go_roundw
                case rel =>
                  have hq : (⟨3, false, [], (Y.length : Int) - 2, (Y.length : Int) - 1, 0, 0⟩ : Nd) = sqL ((X.length : Int) - 1) := by
                    have h9 := HYL.out
                    unfold sqL
                    congr 1 <;> omega
                  refine ⟨i + 1, some ⟨g3, 0, none⟩, cap3, by omega, by go_num, ?_, ?_, HB10, HT10⟩
                  · rw [HZ.out]; simp
                  · rw [HZ.out, ← hq]; exact H10
                case measure => simp [intOf]; omega
          · have hin : i = C.length := by omega
            subst hin
            have hii : ¬ (C.length : Int) < (C.length : Int) := by omega
            rw [List.take_length]
            rw [List.take_length] at HX
            go_wp2
            go_ret2
            rw [HE.out.1, HE.out.2]
            exact ⟨oa, oc, rfl, HX.out, HB.out⟩
end Go.Proofs.YtepommmmmfaihaaDoor
