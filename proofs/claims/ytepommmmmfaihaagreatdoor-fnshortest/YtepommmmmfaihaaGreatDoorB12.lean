/-
  Contract of Go's own library: slices.Repeat of a row of numbers.
-/
import Derived.Test.YtepommmmmfaihaaGreatDoorB11
namespace Go.Proofs.YtepommmmmfaihaaGreatDoor
open Go.RowKit Go.Joins
set_option linter.unusedVariables false
set_option linter.unusedSimpArgs false
theorem repL_add (p : List Int) (a : Nat) : ∀ b, repL p (a + b) = repL p a ++ repL p b
  | 0 => by simp [repL]
  | b + 1 => by
    show repL p (a + b) ++ p = repL p a ++ (repL p b ++ p)
    rw [repL_add p a b, List.append_assoc]
theorem repL_take (p : List Int) {t d : Nat} (h : d ≤ t) : (repL p t).take (d * p.length) = repL p d := by
  obtain ⟨k, rfl⟩ : ∃ k, t = d + k := ⟨t - d, by omega⟩
  rw [repL_add, List.take_append_of_le_length (by rw [rep_len]; exact Nat.le_refl _), List.take_of_length_le (by rw [rep_len]; exact Nat.le_refl _)]
theorem repL_nil : ∀ k, repL [] k = []
  | 0 => rfl
  | k + 1 => by rw [repL, repL_nil k]; rfl
theorem splice_map {α β : Type} (f : α → β) (L C : List α) (o : Nat) : splice (L.map f) o (C.map f) = (splice L o C).map f := by
  unfold splice
  rw [List.map_append, List.map_append, List.map_take, List.map_drop, List.length_map]
/-- The row while it is filled: its first t copies stand. -/
def RpS (M L : List Int) (t N : Nat) : Prop := L.length = N ∧ L.take (t * M.length) = repL M t
theorem rps_first {M L : List Int} {N : Nat} (hL : L.length = N) (hN : M.length ≤ N) : RpS M (splice L 0 M) 1 N := by
  refine ⟨by rw [length_splice _ _ _ (by omega)]; exact hL, ?_⟩
  unfold splice
  rw [List.take_zero, List.nil_append, Nat.one_mul, List.take_append_of_le_length (Nat.le_refl _), List.take_of_length_le (Nat.le_refl _)]
  rfl
theorem rps_step {M L : List Int} {t d N : Nat} (h : RpS M L t N) (hd : d ≤ t) (hN : (t + d) * M.length ≤ N) : RpS M (splice L (t * M.length) (L.take (d * M.length))) (t + d) N := by
  have e1 : (t + d) * M.length = t * M.length + d * M.length := Nat.add_mul ..
  have e2 : d * M.length ≤ t * M.length := Nat.mul_le_mul_right _ hd
  have hC : L.take (d * M.length) = repL M d := by
    rw [← repL_take M hd, ← h.2, List.take_take, Nat.min_eq_left e2]
  have hl : (repL M d).length = d * M.length := rep_len M d
  have ht : (repL M t).length = t * M.length := rep_len M t
  refine ⟨by rw [length_splice _ _ _ (by rw [hC, hl, h.1]; omega)]; exact h.1, ?_⟩
  unfold splice
  rw [hC, h.2, repL_add, e1]
  rw [List.take_append, ht, Nat.add_sub_cancel_left, List.take_of_length_le (by rw [ht]; omega), List.take_append_of_le_length (by rw [hl]; exact Nat.le_refl _), List.take_of_length_le (by rw [hl]; exact Nat.le_refl _)]
theorem rps_end {M L : List Int} {t q N : Nat} (h : RpS M L t N) (hN : N = M.length * q) (htq : t ≤ q) (hge : N ≤ t * M.length) : L = repL M q := by
  have h1 : L = repL M t := by rw [← h.2, List.take_of_length_le (by rw [h.1]; exact hge)]
  by_cases hm : M.length = 0
  · have hM : M = [] := List.length_eq_zero_iff.1 hm
    rw [h1, hM, repL_nil, repL_nil]
  · have : q ≤ t := by
      rw [hN, Nat.mul_comm] at hge
      exact Nat.le_of_mul_le_mul_right hge (by omega)
    rw [h1, show t = q by omega]
theorem info64N : (Tryz.prog.info? 2).map (·.size) = some 1 := by kernel_rfl
theorem made_zero (n : Nat) : (madeCells (Value.int .i64 0).cells (n * 1)).toList = (List.replicate n (0 : Int)).map (Value.int .i64) := by
  rw [show (Value.int .i64 0).cells = #[Value.int .i64 0] from rfl, toList_madeCells_one]
  simp
theorem own_full {w : World} {B g n : Nat} {e : TypeId} {xs : List Value} (h : w.ownsRow B e 1 (.slice (some ⟨g, 0, none⟩) n n) n xs) : w.heap[g]? = some (.cells xs.toArray e (0, 0)) := by
  rcases h.2 with ⟨e1, -⟩ | ⟨g2, cap, cur, e1, -, hg, -, -, hs, ht⟩
  · cases e1
  · simp only [Value.slice.injEq, Option.some.injEq, Addr.mk.injEq] at e1
    obtain ⟨⟨rfl, -, -⟩, -, rfl⟩ := e1
    rw [List.take_of_length_le (by rw [Array.length_toList, hs]; exact Nat.le_refl _)] at ht
    rw [hg, ← ht]
theorem ir_full {w : World} {B g N : Nat} {L : List Int} (hB : B ≤ g) (hL : L.length = N) (hN : N ≤ maxLen) (h : w.heap[g]? = some (.cells (L.map (Value.int .i64)).toArray 2 (0, 0))) : IR B w (some ⟨g, 0, none⟩) N L := by
  subst hL
  exact ⟨by rw [List.length_map, Nat.mul_one], .inr ⟨g, L.length, _, rfl, hB, h, Nat.le_refl _, hN, by simp, by rw [Nat.mul_one]; exact List.take_of_length_le (by simp)⟩⟩
theorem wp_copy_splice {P : Program} {o : Oper} {a : Act} {w : World} {K : Act → World → Prop} {Q : Exit → Act → World → Prop} (hgd : o.guard = none) (d s : Operand) (dT sT : TypeId)
    (ho : o.op = .call { callee := .builtin .copy, args := #[d, s], argTypes := #[dT, sT] }) (elem : TypeId) (hu : P.underlying dT = some (.slice elem)) (hsz : (P.info? elem).map (·.size) = some 1)
    (dp sp : Option Addr) (dLen dCap sLen sCap : Nat) (hd : a.eval d = .slice dp dLen dCap) (hs : a.eval s = .slice sp sLen sCap)
    (g off : Nat) (cur : List Value) (t : TypeId) (hg : w.heap[g]? = some (.cells cur.toArray t (0, 0))) (cs : List Value) (hn : cs.length = Nat.min sLen dLen)
    (hpos : 0 < cs.length → dp = some ⟨g, off, none⟩ ∧ ∃ ad, sp = some ad ∧ ∀ j v, cs[j]? = some v → w.cell? (ad.add j) = some v)
    (hfit : off + cs.length ≤ cur.length) (h1 : ∀ v ∈ cs, v.oneCell' = true) (B : Nat) (w0 : World) (hb : RowKit.Below B w0 w) (hBg : B ≤ g)
    (h : ∀ w', RowKit.Hid (w'.heap[g]? = some (.cells (splice cur off cs).toArray t (0, 0))) → RowKit.Below B w0 w' → K (a.put o.dst (goInt cs.length)) w') : o.wp P a w K Q := by
  have h9 := step_copy_splice (ops := #[o]) (E := True) (K := K) (Q := Q) hgd d s dT sT ho elem hu hsz dp sp dLen dCap sLen sCap hd hs g off cur t hg cs hn hpos hfit h1 B w0 hb hBg h
  have hw : Region.wanted o (yielded #[o] a.tmps) = true := by unfold Region.wanted; rw [hgd]
  rwa [if_pos hw] at h9
set_option maxRecDepth 100000 in
set_option maxHeartbeats 4000000 in
theorem i_repeat (B : Nat) (ad : Option Addr) (c m q : Nat) (M : List Int) (w : World) (hm : m = M.length) (h1 : 1 ≤ q) (h20 : q ≤ 20) (hz : m * q ≤ 300) (hi : IR B w ad c M) :
    Calls Tryz.prog 82 #[.slice ad m c, .int .i64 q] w fun e w' => ∃ (ad' : Option Addr) (c' : Nat), e = .returned (.slice ad' (m * q) c') ∧ IR w.heap.size w' ad' c' (repL M q) ∧ Below w.heap.size w w' := by
  obtain ⟨i0, hi0, hz0, hz1, hz2⟩ := info_parts info64S
  have HI := hide hi
  have HM := hide hm
  obtain ⟨N, hN⟩ : ∃ N, m * q = N := ⟨_, rfl⟩
  have hmN : m ≤ N := by rw [← hN]; exact Nat.le_mul_of_pos_right _ h1
  rw [hN] at hz ⊢
  have CM := hide (Tryz.bits_Mul m q (by omega) (by omega))
  have HN : Hid (N = M.length * q) := hide (by rw [← hN, hm])
  rw [hN, Nat.div_eq_of_lt (show N < 18446744073709551616 by omega), Nat.mod_eq_of_lt (show N < 18446744073709551616 by omega)] at CM
  have HFst : Hid (∀ L : List Int, L.length = N → RpS M (splice L 0 M) 1 N) := hide (fun L hL => rps_first hL (by rw [← hm]; exact hmN))
  have hw1 : IntKind.u64.wrap (m : Int) = m := by rw [IntKind.wrap_u64]; omega
  have hw2 : IntKind.u64.wrap (q : Int) = q := by rw [IntKind.wrap_u64]; omega
  have hw3 : IntKind.i64.wrap (N : Int) = N := by rw [IntKind.wrap_i64]; omega
  have hu := info64N
  have HU := hide hu
  clear hi hm hN hu
  go_enter Tryz.func82, Tryz.ntmps82
  go_wp2_with (first
    | (go_at_call 98; refine (CM.out _).mono ?_; rintro e w9 ⟨rfl, h9⟩; rw [h9]; clear h9 w9)
    | (at_make; refine wpList_make_full _ rfl _ _ 31 rfl w.heap.size 2 i0 (.int .i64 0) 1 Tryz.underlying31 hi0 hz0 hz1 .i64 .i64 _ _ N rfl rfl (by go_num) (by go_num) (by rw [hz2]; omega) (by unfold maxLen; omega) (Nat.le_refl _) ?_; intro w1 hown hgrow; rw [made_zero] at hown; have HG1 := hide (own_full hown); have HB1 := hide ((Below.refl w.heap.size w).grown hgrow (Nat.le_refl _) (fun k h => by cases h)); clear hown hgrow)
    | (refine wpList_copy_splice rfl (.tmp 31) (.tmp 32) 31 31 rfl 2 Tryz.underlying31 HU.out _ _ _ _ _ _ rfl rfl w.heap.size 0 ((List.replicate N (0 : Int)).map (Value.int .i64)) 2 HG1.out (M.map (Value.int .i64)) (by rw [List.length_map, ← HM.out]; exact (Nat.min_eq_left hmN).symm) (fun h9 => ⟨rfl, ir_src (ir_go HI.out HB1.out) (by rw [List.length_map] at h9; exact h9)⟩) (by rw [List.length_map, List.length_map, List.length_replicate, ← HM.out]; omega) (ints_one _) w.heap.size w HB1.out (Nat.le_refl _) ?_; intro w2 hg2 hb2; rw [splice_map] at hg2; rw [List.length_map, ← HM.out]; have HG2 := hide hg2.out; have HB2 := hide hb2; clear hg2 hb2))
  have HS2 := hide (HFst.out (List.replicate N 0) (by rw [List.length_replicate]))
  obtain ⟨L2, hL2⟩ : ∃ L2, splice (List.replicate N (0 : Int)) 0 M = L2 := ⟨_, rfl⟩
  rw [hL2] at HS2 HG2
  clear hL2 HFst HG1 HB1 HI
  go_loopw [8] (fun nv wr => ∃ (t p : Nat) (L : List Int), nv = .int .i64 p ∧ 1 ≤ t ∧ t ≤ q ∧ Hid (p = t * m) ∧ Hid (RpS M L t N) ∧ Hid (wr.heap[w.heap.size]? = some (.cells (L.map (Value.int .i64)).toArray 2 (0, 0))) ∧ Hid (Below w.heap.size w wr)) (fun nv _ => N - (intOf nv).toNat)
  case atStart => exact ⟨1, m, L2, rfl, Nat.le_refl _, h1, hide (Nat.one_mul m).symm, HS2, HG2, HB2⟩
  case round =>
    obtain ⟨t, p, L, rfl, ht1, htq, HP, HS, HG, HB⟩ := hrel
    by_cases hlt : p < N
    · have hpi : (p : Int) < N := by omega
      have hm0 : 0 < m := by
        rcases Nat.eq_zero_or_pos m with h | h
        · have h9 := HN.out
          rw [← HM.out, h, Nat.zero_mul] at h9
          omega
        · exact h
      have htq2 : t < q := by
        rcases Nat.lt_or_ge t q with h | h
        · exact h
        · have h9 := Nat.mul_le_mul_right m h
          rw [Nat.mul_comm q m] at h9
          have h8 := HN.out
          rw [← HM.out] at h8
          have h7 := HP.out
          omega
      obtain ⟨d, hd⟩ : ∃ d, min t (q - t) = d := ⟨_, rfl⟩
      have hdt : d ≤ t := by omega
      have hd1 : 1 ≤ d := by omega
      have hdq : t + d ≤ q := by omega
      obtain ⟨x, hx⟩ : ∃ x, d * m = x := ⟨_, rfl⟩
      have hxN : p + x ≤ N := by
        have h9 := Nat.mul_le_mul_right m hdq
        rw [Nat.add_mul, Nat.mul_comm q m, hx, ← HP.out] at h9
        have h8 := HN.out
        rw [← HM.out] at h8
        omega
      have hx1 : 1 ≤ x := by rw [← hx]; exact Nat.mul_pos hd1 hm0
      have hxm : x = Nat.min p (N - p) := by
        have h8 := HN.out
        rw [← HM.out, Nat.mul_comm] at h8
        have e1 : (q - t) * m = N - p := by rw [Nat.sub_mul, ← h8, ← HP.out]
        have e2 : x = Nat.min (t * m) ((q - t) * m) := by
          rw [← hx, ← hd]
          exact Nat.mul_min_mul_right t (q - t) m |>.symm
        rw [e2, ← HP.out, e1]
      have HS3 : Hid (RpS M (splice L p (L.take x)) (t + d) N) := hide (by
        have h9 := rps_step HS.out hdt (by
          rw [← HM.out, Nat.add_mul, ← HP.out, hx]
          exact hxN)
        rw [← HM.out, ← HP.out, hx] at h9
        exact h9)
      have HP3 : Hid (p + x = (t + d) * m) := hide (by rw [Nat.add_mul, ← HP.out, hx])
      have HLen : Hid ((L.take x).length = x) := hide (by rw [List.length_take, HS.out.1]; omega)
      have HLm : Hid (((L.take x).map (Value.int .i64)).length = x) := hide (by rw [List.length_map]; exact HLen.out)
      have hwx : IntKind.i64.wrap ((p : Int) + (x : Int)) = (p : Int) + (x : Int) := by rw [IntKind.wrap_i64]; omega
      have HGd : Hid (wr.drew.heap[w.heap.size]? = some (.cells (L.map (Value.int .i64)).toArray 2 (0, 0))) := hide HG.out
      have HBd : Hid (Below w.heap.size w wr.drew) := hide (sh_drew1 HB.out)
      have hsrc : Hid (∀ j v, ((L.take x).map (Value.int .i64))[j]? = some v → wr.drew.cell? ((⟨w.heap.size, 0, none⟩ : Addr).add j) = some v) := hide (fun j v hj => by
        refine row_src (L := L) (b := w.heap.size) (off := 0) (fun i hi => ?_) j v ?_
        · rw [Nat.zero_add, cell_of_row wr.drew w.heap.size i _ _ (0, 0) HGd.out]
          simp [List.getElem?_eq_getElem hi]
        · rw [List.getElem?_map] at hj ⊢
          rw [List.getElem?_take] at hj
          split at hj
          · exact hj
          · cases hj)
      obtain ⟨CS, hCS⟩ : ∃ CS, (L.take x).map (Value.int .i64) = CS := ⟨_, rfl⟩
      have HF : Hid (p + CS.length ≤ (L.map (Value.int .i64)).length) := hide (by rw [← hCS, HLm.out, List.length_map, HS.out.1]; exact hxN)
      have H1c : Hid (∀ v ∈ CS, v.oneCell' = true) := hide (by rw [← hCS]; exact ints_one _)
      rw [hCS] at HLm hsrc
      have HCS := hide hCS
      have HNm : Hid (CS.length = Nat.min p (N - p)) := hide (HLm.out.trans hxm)
      clear hCS hx hd hxm
      have hpN : p ≤ N := by omega
      have hNp : ¬ N = p := by omega
      go_wp2
      refine wp_region_any (by kernel_rfl) ?_
      try (change wpAny _ _ _ _ _ _ _ (World.drew _))
      refine wpAny_take (i := 0) (v := (.int .i64 (p : Int))) rfl (by kernel_rfl) (by kernel_rfl) (by kernel_rfl) (fun _ _ _ h => h) (Or.inl ⟨by kernel_rfl, ?hr1⟩) ?_
      case hr1 => (intro w; go_simp; try with_reducible rfl)
      simp only [Act.put, List.setIfInBounds_toArray, List.set_cons_zero, List.set_cons_succ]
      refine wpAny_take (i := 1) (v := (.slice (some ⟨w.heap.size, 0, none⟩) N N)) rfl (by kernel_rfl) (by kernel_rfl) (by kernel_rfl) (fun _ _ _ h => h) (Or.inl ⟨by kernel_rfl, ?hr2⟩) ?_
      case hr2 => (intro w; go_simp; try with_reducible rfl)
      simp only [Act.put, List.setIfInBounds_toArray, List.set_cons_zero, List.set_cons_succ]
      refine wpAny_take (i := 2) (v := (.int .i64 (p : Int))) rfl (by kernel_rfl) (by kernel_rfl) (by kernel_rfl) (fun _ _ _ h => h) (Or.inl ⟨by kernel_rfl, ?hr3⟩) ?_
      case hr3 => (intro w; go_simp; try with_reducible rfl)
      simp only [Act.put, List.setIfInBounds_toArray, List.set_cons_zero, List.set_cons_succ]
      refine wpAny_take (i := 3) (v := (.slice (some ⟨w.heap.size, p, none⟩) (N - p) (N - p))) rfl (by kernel_rfl) (by kernel_rfl) (by kernel_rfl) (fun _ _ _ h => h) (Or.inl ⟨by kernel_rfl, ?hr4⟩) ?_
      case hr4 => (intro w; go_simp; try with_reducible rfl)
      simp only [Act.put, List.setIfInBounds_toArray, List.set_cons_zero, List.set_cons_succ]
      refine wpAny_take (i := 4) (v := (.slice (some ⟨w.heap.size, 0, none⟩) N N)) rfl (by kernel_rfl) (by kernel_rfl) (by kernel_rfl) (fun _ _ _ h => h) (Or.inl ⟨by kernel_rfl, ?hr5⟩) ?_
      case hr5 => (intro w; go_simp; try with_reducible rfl)
      simp only [Act.put, List.setIfInBounds_toArray, List.set_cons_zero, List.set_cons_succ]
      refine wpAny_take (i := 5) (v := (.int .i64 (p : Int))) rfl (by kernel_rfl) (by kernel_rfl) (by kernel_rfl) (fun _ _ _ h => h) (Or.inl ⟨by kernel_rfl, ?hr6⟩) ?_
      case hr6 => (intro w; go_simp; try with_reducible rfl)
      simp only [Act.put, List.setIfInBounds_toArray, List.set_cons_zero, List.set_cons_succ]
      refine wpAny_take (i := 6) (v := (.slice (some ⟨w.heap.size, 0, none⟩) p N)) rfl (by kernel_rfl) (by kernel_rfl) (by kernel_rfl) (fun _ _ _ h => h) (Or.inl ⟨by kernel_rfl, ?hr7⟩) ?_
      case hr7 => (intro w; go_simp; try with_reducible rfl)
      simp only [Act.put, List.setIfInBounds_toArray, List.set_cons_zero, List.set_cons_succ]
      refine wpAny_ready (rs := [7]) (by kernel_rfl) (by simp) ?_
      refine AllReady.cons rfl (fun K hK => ?_) AllReady.nil
      simp only [List.getElem_toArray, List.getElem_cons_succ, List.getElem_cons_zero]
      rw [if_pos (by kernel_rfl)]
      refine wp_copy_splice rfl (.tmp 41) (.tmp 44) 31 31 rfl 2 Tryz.underlying31 HU.out (some ⟨w.heap.size, p, none⟩) (some ⟨w.heap.size, 0, none⟩) (N - p) (N - p) p N (by kernel_rfl) (by kernel_rfl) w.heap.size p (L.map (Value.int .i64)) 2 HGd.out CS HNm.out (fun _ => ⟨rfl, ⟨w.heap.size, 0, none⟩, rfl, hsrc.out⟩) HF.out H1c.out w.heap.size w HBd.out (Nat.le_refl _) ?_
      intro w4 hg4 hb4
      rw [HLm.out]
      have HG4 := hide hg4.out
      have HB4 := hide hb4
      clear hg4 hb4
      refine hK _ _ ?_
      clear hK K
      refine wpAny_ready (rs := [8]) (by kernel_rfl) (by simp) ?_
      refine AllReady.cons rfl (fun K hK => ?_) AllReady.nil
      go_simp
      first | (refine hK _ _ ?_; clear hK K) | skip
      refine wpAny_ready (rs := [9]) (by kernel_rfl) (by simp) ?_
      refine AllReady.cons rfl (fun K hK => ?_) AllReady.nil
      go_simp
      first | (refine hK _ _ ?_; clear hK K) | skip
      refine wpAny_done (by kernel_rfl) ?_ _
      go_wp2
      go_roundw
      case rel => exact ⟨t + d, p + x, splice L p (L.take x), by go_num, by omega, hdq, HP3, HS3, hide (by have h9 := HG4.out; rw [← HCS.out, splice_map] at h9; exact h9), HB4⟩
      case measure => simp [intOf]; omega
    · have HE := hide (rps_end HS.out HN.out htq (by rw [← HM.out, ← HP.out]; omega))
      have HL := hide HS.out.1
      go_wp2
      go_ret
      exact ⟨_, N, rfl, by rw [← HE.out]; exact ir_full (Nat.le_refl _) HL.out (by unfold maxLen; omega) HG.out, HB.out⟩
end Go.Proofs.YtepommmmmfaihaaGreatDoor
