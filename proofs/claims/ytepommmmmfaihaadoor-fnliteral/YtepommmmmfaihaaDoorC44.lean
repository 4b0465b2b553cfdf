/-
  Contract of the specification: the least character of a class.
-/
import Derived.Test.YtepommmmmfaihaaDoorC8
import Derived.Test.YtepommmmmfaihaaDoorC4
import Derived.Deep.RegionHeld3
namespace Go.Proofs.YtepommmmmfaihaaDoor
open Go.RowKit Go.Joins
set_option linter.unusedVariables false
set_option linter.unusedSimpArgs false
/-- The candidates, one by one. -/
def cdS (L H : Nat → Int) (t : Nat) : Int := if t % 2 = 0 then L (t / 2) else fixC (H (t / 2) + 1)
theorem cd_even (L H : Nat → Int) (k : Nat) : cdS L H (2 * k) = L k := by unfold cdS; rw [if_pos (by omega)]; congr 1; omega
theorem cd_odd (L H : Nat → Int) (k : Nat) : cdS L H (2 * k + 1) = fixC (H k + 1) := by unfold cdS; rw [if_neg (by omega), show (2 * k + 1) / 2 = k by omega]
/-- The least so far, or -1. -/
def BestP (nt : Bool) (n : Nat) (L H : Nat → Int) (t : Nat) (b : Int) : Prop := (b = -1 ∧ ∀ s, s < t → inC nt n L H (cdS L H s) = false) ∨ (inC nt n L H b = true ∧ 0 ≤ b ∧ ∀ s, s < t → inC nt n L H (cdS L H s) = true → b ≤ cdS L H s)
section
variable {nt : Bool} {n : Nat} {L H : Nat → Int} {t : Nat} {b : Int}
theorem inC_ge {x : Int} (h : inC nt n L H x = true) : 0 ≤ x := by
  unfold inC at h
  rw [Bool.and_eq_true] at h
  have := chB_cases h.1
  omega
theorem best_skip (h : BestP nt n L H t b) (hx : inC nt n L H (cdS L H t) = false) : BestP nt n L H (t + 1) b := by
  rcases h with ⟨e, h⟩ | ⟨h1, h2, h⟩
  · refine .inl ⟨e, fun s hs => ?_⟩
    by_cases e2 : s = t
    · subst e2; exact hx
    · exact h s (by omega)
  · refine .inr ⟨h1, h2, fun s hs hy => ?_⟩
    by_cases e2 : s = t
    · subst e2; rw [hx] at hy; cases hy
    · exact h s (by omega) hy
theorem best_stay (h : BestP nt n L H t b) (h0 : 0 ≤ b) (hx : b ≤ cdS L H t) : BestP nt n L H (t + 1) b := by
  rcases h with ⟨e, h⟩ | ⟨h1, h2, h⟩
  · omega
  · refine .inr ⟨h1, h2, fun s hs hy => ?_⟩
    by_cases e2 : s = t
    · subst e2; exact hx
    · exact h s (by omega) hy
theorem best_take (h : BestP nt n L H t b) (hx : inC nt n L H (cdS L H t) = true) (hb : b < 0 ∨ cdS L H t < b) : BestP nt n L H (t + 1) (cdS L H t) := by
  refine .inr ⟨hx, inC_ge hx, fun s hs hy => ?_⟩
  by_cases e2 : s = t
  · subst e2; exact Int.le_refl _
  · rcases h with ⟨e, h⟩ | ⟨h1, h2, h⟩
    · rw [h s (by omega)] at hy; cases hy
    · have := h s (by omega) hy
      omega
theorem best_range (h : BestP nt n L H t b) : -1 ≤ b := by
  rcases h with ⟨e, h⟩ | ⟨h1, h2, h⟩ <;> omega
theorem best_fin (hok : RgOk n L H) (h0 : inC nt n L H 0 = false) (h : BestP nt n L H (2 * n) b) : (leC nt n L H).getD (-1) = b := by
  have hc : ∀ y, CandS n L H y → y = 0 ∨ ∃ s, s < 2 * n ∧ y = cdS L H s := by
    rintro y (e | ⟨i, hi, e | e⟩)
    · exact .inl e
    · exact .inr ⟨2 * i, by omega, by rw [cd_even]; exact e⟩
    · exact .inr ⟨2 * i + 1, by omega, by rw [cd_odd]; exact e⟩
  rcases h with ⟨e, h⟩ | ⟨h1, h2, h⟩
  · rw [le_nocand hok (fun y hy => by
      rcases hc y hy with rfl | ⟨s, hs, rfl⟩
      · exact h0
      · exact h s hs), e]
    rfl
  · rw [le_cand hok h1 (fun y hy hin => by
      rcases hc y hy with rfl | ⟨s, hs, rfl⟩
      · rw [h0] at hin; cases hin
      · exact h s hs hin)]
    rfl
theorem best_zero (hok : RgOk n L H) (h0 : inC nt n L H 0 = true) : (leC nt n L H).getD (-1) = 0 := by
  rw [le_some ⟨h0, fun x hx => inC_ge hx⟩]
  rfl
end
theorem cls_inC {nt : Bool} {n : Nat} {L H : Nat → Int} {A B mn mx r : Int} (h : nodeB 2 nt n L H A B mn mx = true) : clsB 2 nt n L H A B mn mx r = inC nt n L H r := by
  unfold clsB inC
  rw [if_pos rfl, h, Bool.true_and]
/-- Two numbers in a block. -/
def Two (w : World) (G : Nat) (l f : Int) : Prop := ∃ T, w.heap[G]? = some (.cells #[.int .i64 l, .int .i64 f] T (0, 0))
theorem two_go {w w2 : World} {G : Nat} {l f : Int} (h : Two w G l f) (k : Below w.heap.size w w2) : Two w2 G l f := by
  obtain ⟨T, h⟩ := h
  exact ⟨T, (k.block G (Array.getElem?_eq_some_iff.1 h).1).trans h⟩
theorem two_cells {w : World} {G : Nat} {l f : Int} (h : Two w G l f) : w.cell? ⟨G, 0, none⟩ = some (.int .i64 l) ∧ w.cell? ⟨G, 1, none⟩ = some (.int .i64 f) := by
  obtain ⟨T, h⟩ := h
  exact ⟨cell_of_row w G 0 _ T (0, 0) h, cell_of_row w G 1 _ T (0, 0) h⟩
theorem two_newK (w : World) (l f : Int) (T : TypeId) : Two (w.alloc (.cells #[.int .i64 l, .int .i64 f] T)) w.heap.size l f := ⟨T, heap_alloc_new w _⟩
theorem nodeAt_drew9 {w : World} {G : Nat} {kd : Int} {nt : Bool} {a : Option Addr} {n c : Nat} {A B mn mx : Int} (h : NodeAt w G kd nt a n c A B mn mx) (q : Nat) : NodeAt (w.drewN q) G kd nt a n c A B mn mx := h
theorem below_d1 {w w5 : World} (h : Below w.drew.heap.size w.drew w5) : Below w.heap.size w w5 := ⟨h.os, h.tape, h.output, h.size, h.block⟩
theorem sh_drew1 {b : Nat} {w w1 : World} (h : Below b w w1) : Below b w w1.drew := h.trans ⟨rfl, rfl, rfl, Nat.le_refl _, fun _ _ => rfl⟩
theorem sh_drew {b : Nat} {w w1 : World} (h : Below b w w1) (q : Nat) : Below b w (w1.drewN q) := h.trans ⟨rfl, rfl, rfl, Nat.le_refl _, fun _ _ => rfl⟩
theorem cd_at {L H : Nat → Int} {k j : Nat} {l f : Int} (h0 : L k = l) (h1 : fixC (H k + 1) = f) (hj : j < 2) : cdS L H (2 * k + j) = if j = 0 then l else f := by
  rcases (show j = 0 ∨ j = 1 by omega) with rfl | rfl
  · rw [Nat.add_zero, cd_even, if_pos rfl]; exact h0
  · rw [cd_odd, if_neg (by decide)]; exact h1
theorem two_at {w : World} {G : Nat} {l f : Int} (h : Two w G l f) {j : Nat} (hj : j < 2) : w.cell? ⟨G, j, none⟩ = some (.int .i64 (if j = 0 then l else f)) := by
  obtain ⟨h0, h1⟩ := two_cells h
  rcases (show j = 0 ∨ j = 1 by omega) with rfl | rfl
  · exact h0
  · exact h1
set_option maxRecDepth 100000 in
set_option maxHeartbeats 8000000 in
theorem s_least (nt : Bool) (ad : Option Addr) (n cp : Nat) (A B mn mx : Int) (L H : Nat → Int) (w : World) (hok : RgOk n L H) (hnd : nodeB 2 nt n L H A B mn mx = true) (hr : RngAt w ad n L H w.heap.size) :
    Calls Tryd.prog 48 #[.agg #[.int .i64 2, .bool nt, .slice ad n cp, .int .i64 A, .int .i64 B, .int .i64 mn, .int .i64 mx]] w fun e w' => e = .returned (.int .i64 ((leC nt n L H).getD (-1))) ∧ Below w.heap.size w w' := by
  have HOK := hide hok
  have h12 : n ≤ 12 := hok.2.1
  have h1n : 1 ≤ n := hok.1
  obtain ⟨b, off, rfl, hb, hrow⟩ := hr (by omega)
  have HROW := hide hrow
  have HR := hide hr
  have st := fun o : Obj => (Below.refl w.heap.size w).alloc (Nat.le_refl _) o
  have CC : Hid (∀ (r : Int) (w2 : World), Below w.heap.size w w2 → Calls Tryd.prog 61 #[.agg #[.int .i64 2, .bool nt, .slice (some ⟨b, off, none⟩) n cp, .int .i64 A, .int .i64 B, .int .i64 mn, .int .i64 mx], .int .i64 r] w2 fun e w' => e = .returned (.bool (inC nt n L H r)) ∧ Below w2.heap.size w2 w') := hide (fun r w2 h => by
    have h9 := s_class 2 nt (some ⟨b, off, none⟩) n cp A B mn mx L H r w2 (by unfold maxLen; omega) (rngAt_up (rngAt_go HR.out h) h.size)
    rw [cls_inC hnd] at h9
    exact h9)
  have HN0 := fun T => nodeAt_new w 2 nt (some ⟨b, off, none⟩) n cp A B mn mx T
  clear hr hrow hok hnd
  cases h0 : inC nt n L H 0
  · have C0 := hide (fun o => CC.out 0 _ (st o))
    rw [h0] at C0
    go_enter Tryd.func48, Tryd.ntmps48
    go_wp2_with (go_at_call 61; refine (C0.out _).mono ?_; rintro e w2 ⟨rfl, hb2⟩; have HB2 := hide ((st _).trans (hb2.mono (st _).size)); have HN2 := hide (nodeAt_go (HN0 _) hb2); clear hb2)
    go_loopw [3, 4] (fun bv iv wr => ∃ (k : Nat) (be : Int), k ≤ n ∧ iv = .int .i64 k ∧ bv = .int .i64 be ∧ -1 ≤ be ∧ Hid (BestP nt n L H (2 * k) be) ∧ Hid (NodeAt wr w.heap.size 2 nt (some ⟨b, off, none⟩) n cp A B mn mx) ∧ Hid (Below w.heap.size w wr)) (fun _ iv _ => n - (intOf iv).toNat)
    case atStart => exact ⟨0, -1, Nat.zero_le _, rfl, rfl, by omega, hide (.inl ⟨rfl, fun s hs => by omega⟩), HN2, HB2⟩
    case round =>
      obtain ⟨k, be, hk, rfl, rfl, hbe, HBE, HN, HB⟩ := hrel
      obtain ⟨n0, n1, n2, -, -, -, -⟩ := nodeAt_cells HN.out
      by_cases hlt : k < n
      · have hki : (k : Int) < n := by omega
        obtain ⟨x0, x1⟩ := HROW.out k hlt
        have y0 := (HB.out.cell (p := ⟨b, off + k * 2, none⟩) hb).trans x0
        have y1 := (HB.out.cell (p := ⟨b, off + k * 2 + 1, none⟩) hb).trans x1
        have hch := HOK.out.2.2 k hlt
        have hcl := chB_cases hch.1
        have hchh := chB_cases hch.2.1
        obtain ⟨l, hl⟩ : ∃ l, L k = l := ⟨_, rfl⟩
        obtain ⟨h, hh⟩ : ∃ h, H k = h := ⟨_, rfl⟩
        rw [hl] at y0 hcl
        rw [hh] at y1 hchh
        have hwr : IntKind.i64.wrap (h + 1) = h + 1 := by rw [IntKind.wrap_i64]; omega
        have hbw : b < wr.heap.size := Nat.lt_of_lt_of_le hb HB.out.size
        clear x0 x1 hch
        go_wp2
        go_region
        by_cases h55 : h + 1 = 55296
        · have h5b : (h + 1 == 55296) = true := by rw [beq_iff_eq]; exact h55
          have HF : Hid (fixC (H k + 1) = 57344) := hide (by rw [hh]; unfold fixC; rw [if_pos h55])
          have HLk := hide hl
          clear h55 hl hh
          have HT3 : Hid (Two (wr.alloc (.cells #[.int .i64 l, .int .i64 57344] 2)).drew wr.heap.size l 57344) := hide (two_newK wr l 57344 _)
          have HN3 : Hid (NodeAt (wr.alloc (.cells #[.int .i64 l, .int .i64 57344] 2)).drew w.heap.size 2 nt (some ⟨b, off, none⟩) n cp A B mn mx) := hide (nodeAt_go HN.out (sh_drew1 ((Below.refl wr.heap.size wr).alloc (Nat.le_refl _) _)))
          have HB3 : Hid (Below w.heap.size w (wr.alloc (.cells #[.int .i64 l, .int .i64 57344] 2)).drew) := hide (sh_drew1 (HB.out.alloc HB.out.size _))
          go_wp2
          obtain ⟨G, hG⟩ : ∃ G, wr.heap.size = G := ⟨_, rfl⟩
          rw [hG] at HT3 ⊢
          obtain ⟨W, hW⟩ : ∃ W, (wr.alloc (.cells #[.int .i64 l, .int .i64 57344] 2)).drew = W := ⟨_, rfl⟩
          rw [hW] at HT3 HN3 HB3 ⊢
          clear hW hG
          go_loopw [3, 6] (fun bv jv wr2 => ∃ (j : Nat) (be2 : Int), j ≤ 2 ∧ jv = .int .i64 j ∧ bv = .int .i64 be2 ∧ -1 ≤ be2 ∧ Hid (BestP nt n L H (2 * k + j) be2) ∧ Hid (Two wr2 G l 57344) ∧ Hid (NodeAt wr2 w.heap.size 2 nt (some ⟨b, off, none⟩) n cp A B mn mx) ∧ Hid (Below w.heap.size w wr2)) (fun _ jv _ => 2 - (intOf jv).toNat)
          case atStart => exact ⟨0, be, by omega, rfl, rfl, hbe, HBE, HT3, HN3, HB3⟩
          case round =>
            obtain ⟨j, be2, hj, rfl, rfl, hbe2, HBE2, HT6, HN6, HB6⟩ := hrel
            obtain ⟨m0, m1, m2, m3, m4, m5, m6⟩ := nodeAt_cells HN6.out
            by_cases hj2 : j < 2
            · have hji : (j : Int) < 2 := by omega
              have t0 := two_at HT6.out hj2
              obtain ⟨z, hz⟩ : ∃ z, (if j = 0 then l else 57344) = z := ⟨_, rfl⟩
              rw [hz] at t0
              have HCD : Hid (cdS L H (2 * k + j) = z) := hide (by rw [← hz]; exact cd_at HLk.out HF.out hj2)
              cases hin : inC nt n L H z
              · have HBE3 := hide (best_skip HBE2.out (by rw [HCD.out]; exact hin))
                go_wp2
                refine wp_region_any (by kernel_rfl) ?_
                try (change wpAny _ _ _ _ _ _ _ (World.drew _))
                refine wpAny_take (i := 1) (v := (.slice (some ⟨G, 0, none⟩) 2 2)) rfl (by kernel_rfl) (by kernel_rfl) (by kernel_rfl) (fun _ _ _ h => h) (Or.inl ⟨by kernel_rfl, ?hq1⟩) ?_
                case hq1 => (intro w; go_simp; try with_reducible rfl)
                refine wpAny_take (i := 2) (v := (.int .i64 (j : Int))) rfl (by kernel_rfl) (by kernel_rfl) (by kernel_rfl) (fun _ _ _ h => h) (Or.inl ⟨by kernel_rfl, ?hq2⟩) ?_
                case hq2 => (intro w; go_simp; try with_reducible rfl)
                refine wpAny_take (i := 3) (v := (.pointer (some ⟨G, j, none⟩))) rfl (by kernel_rfl) (by kernel_rfl) (by kernel_rfl) (fun _ _ _ h => h) (Or.inl ⟨by kernel_rfl, ?hq3⟩) ?_
                case hq3 => (intro w; go_simp; try with_reducible rfl)
                refine wpAny_ready (rs := [0, 4]) (by kernel_rfl) (by simp) ?_
                refine AllReady.cons rfl (fun K hK => ?_) (AllReady.cons rfl (fun K hK => ?_) AllReady.nil)
                · go_simp
                  first | (refine hK _ _ ?_; clear hK K) | skip
                  refine wpAny_ready (rs := [4]) (by kernel_rfl) (by simp) ?_
                  refine AllReady.cons rfl (fun K hK => ?_) AllReady.nil
                  go_simp
                  first | (refine hK _ _ ?_; clear hK K) | skip
                  refine wpAny_ready (rs := [5]) (by kernel_rfl) (by simp) ?_
                  refine AllReady.cons rfl (fun K hK => ?_) AllReady.nil
                  go_simp
                  go_wp2_with (go_at_call 61; refine (CC.out _ _ (sh_drew1 HB6.out)).mono ?_; rintro e w5 ⟨rfl, hb5⟩; rw [hin]; have HB7 := hide (HB6.out.trans ((below_d1 hb5).mono HB6.out.size)); have HN7 := hide (nodeAt_go HN6.out (below_d1 hb5)); have HT7 := hide (two_go HT6.out (below_d1 hb5)); have t5 := two_at HT7.out hj2; rw [hz] at t5; clear hb5)
                  first | (refine hK _ _ ?_; clear hK K) | skip
                  refine wpAny_take (i := 6) (v := (.bool false)) rfl (by kernel_rfl) (by kernel_rfl) (by kernel_rfl) (fun _ _ _ h => h) (Or.inl ⟨by kernel_rfl, ?hq4⟩) ?_
                  case hq4 => (intro w; go_simp; try with_reducible rfl)
                  refine wpAny_take (i := 7) (v := undef) rfl (by kernel_rfl) (by kernel_rfl) (by kernel_rfl) (fun _ _ _ h => h) (Or.inr ⟨by kernel_rfl, rfl⟩) ?_
                  simp only [Act.put, List.setIfInBounds_toArray, List.set_cons_zero, List.set_cons_succ]
                  refine wpAny_take (i := 8) (v := undef) rfl (by kernel_rfl) (by kernel_rfl) (by kernel_rfl) (fun _ _ _ h => h) (Or.inr ⟨by kernel_rfl, rfl⟩) ?_
                  simp only [Act.put, List.setIfInBounds_toArray, List.set_cons_zero, List.set_cons_succ]
                  refine wpAny_take (i := 9) (v := undef) rfl (by kernel_rfl) (by kernel_rfl) (by kernel_rfl) (fun _ _ _ h => h) (Or.inr ⟨by kernel_rfl, rfl⟩) ?_
                  simp only [Act.put, List.setIfInBounds_toArray, List.set_cons_zero, List.set_cons_succ]
                  refine wpAny_take (i := 10) (v := undef) rfl (by kernel_rfl) (by kernel_rfl) (by kernel_rfl) (fun _ _ _ h => h) (Or.inr ⟨by kernel_rfl, rfl⟩) ?_
                  simp only [Act.put, List.setIfInBounds_toArray, List.set_cons_zero, List.set_cons_succ]
                  refine wpAny_take (i := 11) (v := undef) rfl (by kernel_rfl) (by kernel_rfl) (by kernel_rfl) (fun _ _ _ h => h) (Or.inr ⟨by kernel_rfl, rfl⟩) ?_
                  simp only [Act.put, List.setIfInBounds_toArray, List.set_cons_zero, List.set_cons_succ]
                  refine wpAny_take (i := 12) (v := undef) rfl (by kernel_rfl) (by kernel_rfl) (by kernel_rfl) (fun _ _ _ h => h) (Or.inr ⟨by kernel_rfl, rfl⟩) ?_
                  simp only [Act.put, List.setIfInBounds_toArray, List.set_cons_zero, List.set_cons_succ]
                  refine wpAny_take (i := 13) (v := undef) rfl (by kernel_rfl) (by kernel_rfl) (by kernel_rfl) (fun _ _ _ h => h) (Or.inr ⟨by kernel_rfl, rfl⟩) ?_
                  simp only [Act.put, List.setIfInBounds_toArray, List.set_cons_zero, List.set_cons_succ]
                  refine wpAny_take (i := 14) (v := undef) rfl (by kernel_rfl) (by kernel_rfl) (by kernel_rfl) (fun _ _ _ h => h) (Or.inr ⟨by kernel_rfl, rfl⟩) ?_
                  simp only [Act.put, List.setIfInBounds_toArray, List.set_cons_zero, List.set_cons_succ]
                  refine wpAny_take (i := 15) (v := undef) rfl (by kernel_rfl) (by kernel_rfl) (by kernel_rfl) (fun _ _ _ h => h) (Or.inr ⟨by kernel_rfl, rfl⟩) ?_
                  simp only [Act.put, List.setIfInBounds_toArray, List.set_cons_zero, List.set_cons_succ]
                  refine wpAny_take (i := 16) (v := undef) rfl (by kernel_rfl) (by kernel_rfl) (by kernel_rfl) (fun _ _ _ h => h) (Or.inr ⟨by kernel_rfl, rfl⟩) ?_
                  simp only [Act.put, List.setIfInBounds_toArray, List.set_cons_zero, List.set_cons_succ]
                  refine wpAny_ready (rs := [17]) (by kernel_rfl) (by simp) ?_
                  refine AllReady.cons rfl (fun K hK => ?_) AllReady.nil
                  go_simp
                  first | (refine hK _ _ ?_; clear hK K) | skip
                  refine wpAny_done (by kernel_rfl) ?_ _
                  go_wp2
                  go_roundw
                  case rel => exact ⟨j + 1, be2, by omega, by go_num, rfl, hbe2, HBE3, HT7, HN7, HB7⟩
                  case measure => simp [intOf]; omega
                · go_simp
                  first | (refine hK _ _ ?_; clear hK K) | skip
                  refine wpAny_ready (rs := [0]) (by kernel_rfl) (by simp) ?_
                  refine AllReady.cons rfl (fun K hK => ?_) AllReady.nil
                  go_simp
                  first | (refine hK _ _ ?_; clear hK K) | skip
                  refine wpAny_ready (rs := [5]) (by kernel_rfl) (by simp) ?_
                  refine AllReady.cons rfl (fun K hK => ?_) AllReady.nil
                  go_simp
                  go_wp2_with (go_at_call 61; refine (CC.out _ _ (sh_drew1 HB6.out)).mono ?_; rintro e w5 ⟨rfl, hb5⟩; rw [hin]; have HB7 := hide (HB6.out.trans ((below_d1 hb5).mono HB6.out.size)); have HN7 := hide (nodeAt_go HN6.out (below_d1 hb5)); have HT7 := hide (two_go HT6.out (below_d1 hb5)); have t5 := two_at HT7.out hj2; rw [hz] at t5; clear hb5)
                  first | (refine hK _ _ ?_; clear hK K) | skip
                  refine wpAny_take (i := 6) (v := (.bool false)) rfl (by kernel_rfl) (by kernel_rfl) (by kernel_rfl) (fun _ _ _ h => h) (Or.inl ⟨by kernel_rfl, ?hq5⟩) ?_
                  case hq5 => (intro w; go_simp; try with_reducible rfl)
                  refine wpAny_take (i := 7) (v := undef) rfl (by kernel_rfl) (by kernel_rfl) (by kernel_rfl) (fun _ _ _ h => h) (Or.inr ⟨by kernel_rfl, rfl⟩) ?_
                  simp only [Act.put, List.setIfInBounds_toArray, List.set_cons_zero, List.set_cons_succ]
                  refine wpAny_take (i := 8) (v := undef) rfl (by kernel_rfl) (by kernel_rfl) (by kernel_rfl) (fun _ _ _ h => h) (Or.inr ⟨by kernel_rfl, rfl⟩) ?_
                  simp only [Act.put, List.setIfInBounds_toArray, List.set_cons_zero, List.set_cons_succ]
                  refine wpAny_take (i := 9) (v := undef) rfl (by kernel_rfl) (by kernel_rfl) (by kernel_rfl) (fun _ _ _ h => h) (Or.inr ⟨by kernel_rfl, rfl⟩) ?_
                  simp only [Act.put, List.setIfInBounds_toArray, List.set_cons_zero, List.set_cons_succ]
                  refine wpAny_take (i := 10) (v := undef) rfl (by kernel_rfl) (by kernel_rfl) (by kernel_rfl) (fun _ _ _ h => h) (Or.inr ⟨by kernel_rfl, rfl⟩) ?_
                  simp only [Act.put, List.setIfInBounds_toArray, List.set_cons_zero, List.set_cons_succ]
                  refine wpAny_take (i := 11) (v := undef) rfl (by kernel_rfl) (by kernel_rfl) (by kernel_rfl) (fun _ _ _ h => h) (Or.inr ⟨by kernel_rfl, rfl⟩) ?_
                  simp only [Act.put, List.setIfInBounds_toArray, List.set_cons_zero, List.set_cons_succ]
                  refine wpAny_take (i := 12) (v := undef) rfl (by kernel_rfl) (by kernel_rfl) (by kernel_rfl) (fun _ _ _ h => h) (Or.inr ⟨by kernel_rfl, rfl⟩) ?_
                  simp only [Act.put, List.setIfInBounds_toArray, List.set_cons_zero, List.set_cons_succ]
                  refine wpAny_take (i := 13) (v := undef) rfl (by kernel_rfl) (by kernel_rfl) (by kernel_rfl) (fun _ _ _ h => h) (Or.inr ⟨by kernel_rfl, rfl⟩) ?_
                  simp only [Act.put, List.setIfInBounds_toArray, List.set_cons_zero, List.set_cons_succ]
                  refine wpAny_take (i := 14) (v := undef) rfl (by kernel_rfl) (by kernel_rfl) (by kernel_rfl) (fun _ _ _ h => h) (Or.inr ⟨by kernel_rfl, rfl⟩) ?_
                  simp only [Act.put, List.setIfInBounds_toArray, List.set_cons_zero, List.set_cons_succ]
                  refine wpAny_take (i := 15) (v := undef) rfl (by kernel_rfl) (by kernel_rfl) (by kernel_rfl) (fun _ _ _ h => h) (Or.inr ⟨by kernel_rfl, rfl⟩) ?_
                  simp only [Act.put, List.setIfInBounds_toArray, List.set_cons_zero, List.set_cons_succ]
                  refine wpAny_take (i := 16) (v := undef) rfl (by kernel_rfl) (by kernel_rfl) (by kernel_rfl) (fun _ _ _ h => h) (Or.inr ⟨by kernel_rfl, rfl⟩) ?_
                  simp only [Act.put, List.setIfInBounds_toArray, List.set_cons_zero, List.set_cons_succ]
                  refine wpAny_ready (rs := [17]) (by kernel_rfl) (by simp) ?_
                  refine AllReady.cons rfl (fun K hK => ?_) AllReady.nil
                  go_simp
                  first | (refine hK _ _ ?_; clear hK K) | skip
                  refine wpAny_done (by kernel_rfl) ?_ _
                  go_wp2
                  go_roundw
                  case rel => exact ⟨j + 1, be2, by omega, by go_num, rfl, hbe2, HBE3, HT7, HN7, HB7⟩
                  case measure => simp [intOf]; omega
              · have hz0 : 0 ≤ z := inC_ge hin
                by_cases hneg : be2 < 0
                · have HBE3 : Hid (BestP nt n L H (2 * k + j + 1) z) := hide (by have h9 := best_take HBE2.out (by rw [HCD.out]; exact hin) (.inl hneg); rw [HCD.out] at h9; exact h9)
                  have hnd : decide (be2 < 0) = true := decide_eq_true hneg
                  go_wp2
                  refine wp_region_any (by kernel_rfl) ?_
                  try (change wpAny _ _ _ _ _ _ _ (World.drew _))
                  refine wpAny_take (i := 1) (v := (.slice (some ⟨G, 0, none⟩) 2 2)) rfl (by kernel_rfl) (by kernel_rfl) (by kernel_rfl) (fun _ _ _ h => h) (Or.inl ⟨by kernel_rfl, ?hq6⟩) ?_
                  case hq6 => (intro w; go_simp; try with_reducible rfl)
                  refine wpAny_take (i := 2) (v := (.int .i64 (j : Int))) rfl (by kernel_rfl) (by kernel_rfl) (by kernel_rfl) (fun _ _ _ h => h) (Or.inl ⟨by kernel_rfl, ?hq7⟩) ?_
                  case hq7 => (intro w; go_simp; try with_reducible rfl)
                  refine wpAny_take (i := 3) (v := (.pointer (some ⟨G, j, none⟩))) rfl (by kernel_rfl) (by kernel_rfl) (by kernel_rfl) (fun _ _ _ h => h) (Or.inl ⟨by kernel_rfl, ?hq8⟩) ?_
                  case hq8 => (intro w; go_simp; try with_reducible rfl)
                  refine wpAny_ready (rs := [0, 4]) (by kernel_rfl) (by simp) ?_
                  refine AllReady.cons rfl (fun K hK => ?_) (AllReady.cons rfl (fun K hK => ?_) AllReady.nil)
                  · go_simp
                    first | (refine hK _ _ ?_; clear hK K) | skip
                    refine wpAny_ready (rs := [4]) (by kernel_rfl) (by simp) ?_
                    refine AllReady.cons rfl (fun K hK => ?_) AllReady.nil
                    go_simp
                    first | (refine hK _ _ ?_; clear hK K) | skip
                    refine wpAny_ready (rs := [5]) (by kernel_rfl) (by simp) ?_
                    refine AllReady.cons rfl (fun K hK => ?_) AllReady.nil
                    go_simp
                    go_wp2_with (go_at_call 61; refine (CC.out _ _ (sh_drew1 HB6.out)).mono ?_; rintro e w5 ⟨rfl, hb5⟩; rw [hin]; have HB7 := hide (HB6.out.trans ((below_d1 hb5).mono HB6.out.size)); have HN7 := hide (nodeAt_go HN6.out (below_d1 hb5)); have HT7 := hide (two_go HT6.out (below_d1 hb5)); have t5 := two_at HT7.out hj2; rw [hz] at t5; clear hb5)
                    first | (refine hK _ _ ?_; clear hK K) | skip
                    refine wpAny_take (i := 6) (v := (.bool true)) rfl (by kernel_rfl) (by kernel_rfl) (by kernel_rfl) (fun _ _ _ h => h) (Or.inl ⟨by kernel_rfl, ?hq9⟩) ?_
                    case hq9 => (intro w; go_simp; try with_reducible rfl)
                    refine wpAny_take (i := 7) (v := (.int .i64 be2)) rfl (by kernel_rfl) (by kernel_rfl) (by kernel_rfl) (fun _ _ _ h => h) (Or.inl ⟨by kernel_rfl, ?hq10⟩) ?_
                    case hq10 => (intro w; go_simp; try with_reducible rfl)
                    refine wpAny_take (i := 8) (v := (.bool true)) rfl (by kernel_rfl) (by kernel_rfl) (by kernel_rfl) (fun _ _ _ h => h) (Or.inl ⟨by kernel_rfl, ?hq11⟩) ?_
                    case hq11 => (intro w; go_simp; try with_reducible rfl)
                    refine wpAny_take (i := 9) (v := (.bool true)) rfl (by kernel_rfl) (by kernel_rfl) (by kernel_rfl) (fun _ _ _ h => h) (Or.inl ⟨by kernel_rfl, ?hq12⟩) ?_
                    case hq12 => (intro w; go_simp; try with_reducible rfl)
                    refine wpAny_take (i := 10) (v := undef) rfl (by kernel_rfl) (by kernel_rfl) (by kernel_rfl) (fun _ _ _ h => h) (Or.inr ⟨by kernel_rfl, rfl⟩) ?_
                    simp only [Act.put, List.setIfInBounds_toArray, List.set_cons_zero, List.set_cons_succ]
                    refine wpAny_take (i := 11) (v := undef) rfl (by kernel_rfl) (by kernel_rfl) (by kernel_rfl) (fun _ _ _ h => h) (Or.inr ⟨by kernel_rfl, rfl⟩) ?_
                    simp only [Act.put, List.setIfInBounds_toArray, List.set_cons_zero, List.set_cons_succ]
                    refine wpAny_take (i := 12) (v := undef) rfl (by kernel_rfl) (by kernel_rfl) (by kernel_rfl) (fun _ _ _ h => h) (Or.inr ⟨by kernel_rfl, rfl⟩) ?_
                    simp only [Act.put, List.setIfInBounds_toArray, List.set_cons_zero, List.set_cons_succ]
                    refine wpAny_take (i := 13) (v := undef) rfl (by kernel_rfl) (by kernel_rfl) (by kernel_rfl) (fun _ _ _ h => h) (Or.inr ⟨by kernel_rfl, rfl⟩) ?_
                    simp only [Act.put, List.setIfInBounds_toArray, List.set_cons_zero, List.set_cons_succ]
                    refine wpAny_take (i := 14) (v := undef) rfl (by kernel_rfl) (by kernel_rfl) (by kernel_rfl) (fun _ _ _ h => h) (Or.inr ⟨by kernel_rfl, rfl⟩) ?_
                    simp only [Act.put, List.setIfInBounds_toArray, List.set_cons_zero, List.set_cons_succ]
                    refine wpAny_take (i := 15) (v := undef) rfl (by kernel_rfl) (by kernel_rfl) (by kernel_rfl) (fun _ _ _ h => h) (Or.inr ⟨by kernel_rfl, rfl⟩) ?_
                    simp only [Act.put, List.setIfInBounds_toArray, List.set_cons_zero, List.set_cons_succ]
                    refine wpAny_ready (rs := [16]) (by kernel_rfl) (by simp) ?_
                    refine AllReady.cons rfl (fun K hK => ?_) AllReady.nil
                    go_simp
                    first | (refine hK _ _ ?_; clear hK K) | skip
                    refine wpAny_ready (rs := [17]) (by kernel_rfl) (by simp) ?_
                    refine AllReady.cons rfl (fun K hK => ?_) AllReady.nil
                    go_simp
                    first | (refine hK _ _ ?_; clear hK K) | skip
                    refine wpAny_done (by kernel_rfl) ?_ _
                    go_wp2
                    go_roundw
                    case rel => exact ⟨j + 1, z, by omega, by go_num, rfl, (by omega), HBE3, HT7, HN7, HB7⟩
                    case measure => simp [intOf]; omega
                  · go_simp
                    first | (refine hK _ _ ?_; clear hK K) | skip
                    refine wpAny_ready (rs := [0]) (by kernel_rfl) (by simp) ?_
                    refine AllReady.cons rfl (fun K hK => ?_) AllReady.nil
                    go_simp
                    first | (refine hK _ _ ?_; clear hK K) | skip
                    refine wpAny_ready (rs := [5]) (by kernel_rfl) (by simp) ?_
                    refine AllReady.cons rfl (fun K hK => ?_) AllReady.nil
                    go_simp
                    go_wp2_with (go_at_call 61; refine (CC.out _ _ (sh_drew1 HB6.out)).mono ?_; rintro e w5 ⟨rfl, hb5⟩; rw [hin]; have HB7 := hide (HB6.out.trans ((below_d1 hb5).mono HB6.out.size)); have HN7 := hide (nodeAt_go HN6.out (below_d1 hb5)); have HT7 := hide (two_go HT6.out (below_d1 hb5)); have t5 := two_at HT7.out hj2; rw [hz] at t5; clear hb5)
                    first | (refine hK _ _ ?_; clear hK K) | skip
                    refine wpAny_take (i := 6) (v := (.bool true)) rfl (by kernel_rfl) (by kernel_rfl) (by kernel_rfl) (fun _ _ _ h => h) (Or.inl ⟨by kernel_rfl, ?hq13⟩) ?_
                    case hq13 => (intro w; go_simp; try with_reducible rfl)
                    refine wpAny_take (i := 7) (v := (.int .i64 be2)) rfl (by kernel_rfl) (by kernel_rfl) (by kernel_rfl) (fun _ _ _ h => h) (Or.inl ⟨by kernel_rfl, ?hq14⟩) ?_
                    case hq14 => (intro w; go_simp; try with_reducible rfl)
                    refine wpAny_take (i := 8) (v := (.bool true)) rfl (by kernel_rfl) (by kernel_rfl) (by kernel_rfl) (fun _ _ _ h => h) (Or.inl ⟨by kernel_rfl, ?hq15⟩) ?_
                    case hq15 => (intro w; go_simp; try with_reducible rfl)
                    refine wpAny_take (i := 9) (v := (.bool true)) rfl (by kernel_rfl) (by kernel_rfl) (by kernel_rfl) (fun _ _ _ h => h) (Or.inl ⟨by kernel_rfl, ?hq16⟩) ?_
                    case hq16 => (intro w; go_simp; try with_reducible rfl)
                    refine wpAny_take (i := 10) (v := undef) rfl (by kernel_rfl) (by kernel_rfl) (by kernel_rfl) (fun _ _ _ h => h) (Or.inr ⟨by kernel_rfl, rfl⟩) ?_
                    simp only [Act.put, List.setIfInBounds_toArray, List.set_cons_zero, List.set_cons_succ]
                    refine wpAny_take (i := 11) (v := undef) rfl (by kernel_rfl) (by kernel_rfl) (by kernel_rfl) (fun _ _ _ h => h) (Or.inr ⟨by kernel_rfl, rfl⟩) ?_
                    simp only [Act.put, List.setIfInBounds_toArray, List.set_cons_zero, List.set_cons_succ]
                    refine wpAny_take (i := 12) (v := undef) rfl (by kernel_rfl) (by kernel_rfl) (by kernel_rfl) (fun _ _ _ h => h) (Or.inr ⟨by kernel_rfl, rfl⟩) ?_
                    simp only [Act.put, List.setIfInBounds_toArray, List.set_cons_zero, List.set_cons_succ]
                    refine wpAny_take (i := 13) (v := undef) rfl (by kernel_rfl) (by kernel_rfl) (by kernel_rfl) (fun _ _ _ h => h) (Or.inr ⟨by kernel_rfl, rfl⟩) ?_
                    simp only [Act.put, List.setIfInBounds_toArray, List.set_cons_zero, List.set_cons_succ]
                    refine wpAny_take (i := 14) (v := undef) rfl (by kernel_rfl) (by kernel_rfl) (by kernel_rfl) (fun _ _ _ h => h) (Or.inr ⟨by kernel_rfl, rfl⟩) ?_
                    simp only [Act.put, List.setIfInBounds_toArray, List.set_cons_zero, List.set_cons_succ]
                    refine wpAny_take (i := 15) (v := undef) rfl (by kernel_rfl) (by kernel_rfl) (by kernel_rfl) (fun _ _ _ h => h) (Or.inr ⟨by kernel_rfl, rfl⟩) ?_
                    simp only [Act.put, List.setIfInBounds_toArray, List.set_cons_zero, List.set_cons_succ]
                    refine wpAny_ready (rs := [16]) (by kernel_rfl) (by simp) ?_
                    refine AllReady.cons rfl (fun K hK => ?_) AllReady.nil
                    go_simp
                    first | (refine hK _ _ ?_; clear hK K) | skip
                    refine wpAny_ready (rs := [17]) (by kernel_rfl) (by simp) ?_
                    refine AllReady.cons rfl (fun K hK => ?_) AllReady.nil
                    go_simp
                    first | (refine hK _ _ ?_; clear hK K) | skip
                    refine wpAny_done (by kernel_rfl) ?_ _
                    go_wp2
                    go_roundw
                    case rel => exact ⟨j + 1, z, by omega, by go_num, rfl, (by omega), HBE3, HT7, HN7, HB7⟩
                    case measure => simp [intOf]; omega
                · have hnd : decide (be2 < 0) = false := decide_eq_false hneg
                  by_cases hle : z < be2
                  · have HBE3 : Hid (BestP nt n L H (2 * k + j + 1) z) := hide (by have h9 := best_take HBE2.out (by rw [HCD.out]; exact hin) (.inr (by rw [HCD.out]; exact hle)); rw [HCD.out] at h9; exact h9)
                    have hld : decide (z < be2) = true := decide_eq_true hle
                    go_wp2
                    refine wp_region_any (by kernel_rfl) ?_
                    try (change wpAny _ _ _ _ _ _ _ (World.drew _))
                    refine wpAny_take (i := 1) (v := (.slice (some ⟨G, 0, none⟩) 2 2)) rfl (by kernel_rfl) (by kernel_rfl) (by kernel_rfl) (fun _ _ _ h => h) (Or.inl ⟨by kernel_rfl, ?hq17⟩) ?_
                    case hq17 => (intro w; go_simp; try with_reducible rfl)
                    refine wpAny_take (i := 2) (v := (.int .i64 (j : Int))) rfl (by kernel_rfl) (by kernel_rfl) (by kernel_rfl) (fun _ _ _ h => h) (Or.inl ⟨by kernel_rfl, ?hq18⟩) ?_
                    case hq18 => (intro w; go_simp; try with_reducible rfl)
                    refine wpAny_take (i := 3) (v := (.pointer (some ⟨G, j, none⟩))) rfl (by kernel_rfl) (by kernel_rfl) (by kernel_rfl) (fun _ _ _ h => h) (Or.inl ⟨by kernel_rfl, ?hq19⟩) ?_
                    case hq19 => (intro w; go_simp; try with_reducible rfl)
                    refine wpAny_ready (rs := [0, 4]) (by kernel_rfl) (by simp) ?_
                    refine AllReady.cons rfl (fun K hK => ?_) (AllReady.cons rfl (fun K hK => ?_) AllReady.nil)
                    · go_simp
                      first | (refine hK _ _ ?_; clear hK K) | skip
                      refine wpAny_ready (rs := [4]) (by kernel_rfl) (by simp) ?_
                      refine AllReady.cons rfl (fun K hK => ?_) AllReady.nil
                      go_simp
                      first | (refine hK _ _ ?_; clear hK K) | skip
                      refine wpAny_ready (rs := [5]) (by kernel_rfl) (by simp) ?_
                      refine AllReady.cons rfl (fun K hK => ?_) AllReady.nil
                      go_simp
                      go_wp2_with (go_at_call 61; refine (CC.out _ _ (sh_drew1 HB6.out)).mono ?_; rintro e w5 ⟨rfl, hb5⟩; rw [hin]; have HB7 := hide (HB6.out.trans ((below_d1 hb5).mono HB6.out.size)); have HN7 := hide (nodeAt_go HN6.out (below_d1 hb5)); have HT7 := hide (two_go HT6.out (below_d1 hb5)); have t5 := two_at HT7.out hj2; rw [hz] at t5; clear hb5)
                      first | (refine hK _ _ ?_; clear hK K) | skip
                      refine wpAny_take (i := 6) (v := (.bool true)) rfl (by kernel_rfl) (by kernel_rfl) (by kernel_rfl) (fun _ _ _ h => h) (Or.inl ⟨by kernel_rfl, ?hq20⟩) ?_
                      case hq20 => (intro w; go_simp; try with_reducible rfl)
                      refine wpAny_take (i := 7) (v := (.int .i64 be2)) rfl (by kernel_rfl) (by kernel_rfl) (by kernel_rfl) (fun _ _ _ h => h) (Or.inl ⟨by kernel_rfl, ?hq21⟩) ?_
                      case hq21 => (intro w; go_simp; try with_reducible rfl)
                      refine wpAny_take (i := 8) (v := (.bool false)) rfl (by kernel_rfl) (by kernel_rfl) (by kernel_rfl) (fun _ _ _ h => h) (Or.inl ⟨by kernel_rfl, ?hq22⟩) ?_
                      case hq22 => (intro w; go_simp; try with_reducible rfl)
                      refine wpAny_take (i := 9) (v := (.bool false)) rfl (by kernel_rfl) (by kernel_rfl) (by kernel_rfl) (fun _ _ _ h => h) (Or.inl ⟨by kernel_rfl, ?hq23⟩) ?_
                      case hq23 => (intro w; go_simp; try with_reducible rfl)
                      refine wpAny_take (i := 10) (v := (.slice (some ⟨G, 0, none⟩) 2 2)) rfl (by kernel_rfl) (by kernel_rfl) (by kernel_rfl) (fun _ _ _ h => h) (Or.inl ⟨by kernel_rfl, ?hq24⟩) ?_
                      case hq24 => (intro w; go_simp; try with_reducible rfl)
                      refine wpAny_take (i := 11) (v := (.int .i64 (j : Int))) rfl (by kernel_rfl) (by kernel_rfl) (by kernel_rfl) (fun _ _ _ h => h) (Or.inl ⟨by kernel_rfl, ?hq25⟩) ?_
                      case hq25 => (intro w; go_simp; try with_reducible rfl)
                      refine wpAny_take (i := 12) (v := (.pointer (some ⟨G, j, none⟩))) rfl (by kernel_rfl) (by kernel_rfl) (by kernel_rfl) (fun _ _ _ h => h) (Or.inl ⟨by kernel_rfl, ?hq26⟩) ?_
                      case hq26 => (intro w; go_simp; try with_reducible rfl)
                      refine wpAny_take (i := 14) (v := (.int .i64 be2)) rfl (by kernel_rfl) (by kernel_rfl) (by kernel_rfl) (fun _ _ _ h => h) (Or.inl ⟨by kernel_rfl, ?hq27⟩) ?_
                      case hq27 => (intro w; go_simp; try with_reducible rfl)
                      refine wpAny_ready (rs := [13]) (by kernel_rfl) (by simp) ?_
                      refine AllReady.cons rfl (fun K hK => ?_) AllReady.nil
                      go_simp
                      first | (refine hK _ _ ?_; clear hK K) | skip
                      refine wpAny_take (i := 15) (v := (.bool true)) rfl (by kernel_rfl) (by kernel_rfl) (by kernel_rfl) (fun _ _ _ h => h) (Or.inl ⟨by kernel_rfl, ?hq28⟩) ?_
                      case hq28 => (intro w; go_simp; try with_reducible rfl)
                      refine wpAny_take (i := 16) (v := (.bool true)) rfl (by kernel_rfl) (by kernel_rfl) (by kernel_rfl) (fun _ _ _ h => h) (Or.inl ⟨by kernel_rfl, ?hq29⟩) ?_
                      case hq29 => (intro w; go_simp; try with_reducible rfl)
                      refine wpAny_take (i := 17) (v := (.bool true)) rfl (by kernel_rfl) (by kernel_rfl) (by kernel_rfl) (fun _ _ _ h => h) (Or.inl ⟨by kernel_rfl, ?hq30⟩) ?_
                      case hq30 => (intro w; go_simp; try with_reducible rfl)
                      refine wpAny_done (by kernel_rfl) ?_ _
                      go_wp2
                      go_roundw
                      case rel => exact ⟨j + 1, z, by omega, by go_num, rfl, (by omega), HBE3, HT7, HN7, HB7⟩
                      case measure => simp [intOf]; omega
                    · go_simp
                      first | (refine hK _ _ ?_; clear hK K) | skip
                      refine wpAny_ready (rs := [0]) (by kernel_rfl) (by simp) ?_
                      refine AllReady.cons rfl (fun K hK => ?_) AllReady.nil
                      go_simp
                      first | (refine hK _ _ ?_; clear hK K) | skip
                      refine wpAny_ready (rs := [5]) (by kernel_rfl) (by simp) ?_
                      refine AllReady.cons rfl (fun K hK => ?_) AllReady.nil
                      go_simp
                      go_wp2_with (go_at_call 61; refine (CC.out _ _ (sh_drew1 HB6.out)).mono ?_; rintro e w5 ⟨rfl, hb5⟩; rw [hin]; have HB7 := hide (HB6.out.trans ((below_d1 hb5).mono HB6.out.size)); have HN7 := hide (nodeAt_go HN6.out (below_d1 hb5)); have HT7 := hide (two_go HT6.out (below_d1 hb5)); have t5 := two_at HT7.out hj2; rw [hz] at t5; clear hb5)
                      first | (refine hK _ _ ?_; clear hK K) | skip
                      refine wpAny_take (i := 6) (v := (.bool true)) rfl (by kernel_rfl) (by kernel_rfl) (by kernel_rfl) (fun _ _ _ h => h) (Or.inl ⟨by kernel_rfl, ?hq31⟩) ?_
                      case hq31 => (intro w; go_simp; try with_reducible rfl)
                      refine wpAny_take (i := 7) (v := (.int .i64 be2)) rfl (by kernel_rfl) (by kernel_rfl) (by kernel_rfl) (fun _ _ _ h => h) (Or.inl ⟨by kernel_rfl, ?hq32⟩) ?_
                      case hq32 => (intro w; go_simp; try with_reducible rfl)
                      refine wpAny_take (i := 8) (v := (.bool false)) rfl (by kernel_rfl) (by kernel_rfl) (by kernel_rfl) (fun _ _ _ h => h) (Or.inl ⟨by kernel_rfl, ?hq33⟩) ?_
                      case hq33 => (intro w; go_simp; try with_reducible rfl)
                      refine wpAny_take (i := 9) (v := (.bool false)) rfl (by kernel_rfl) (by kernel_rfl) (by kernel_rfl) (fun _ _ _ h => h) (Or.inl ⟨by kernel_rfl, ?hq34⟩) ?_
                      case hq34 => (intro w; go_simp; try with_reducible rfl)
                      refine wpAny_take (i := 10) (v := (.slice (some ⟨G, 0, none⟩) 2 2)) rfl (by kernel_rfl) (by kernel_rfl) (by kernel_rfl) (fun _ _ _ h => h) (Or.inl ⟨by kernel_rfl, ?hq35⟩) ?_
                      case hq35 => (intro w; go_simp; try with_reducible rfl)
                      refine wpAny_take (i := 11) (v := (.int .i64 (j : Int))) rfl (by kernel_rfl) (by kernel_rfl) (by kernel_rfl) (fun _ _ _ h => h) (Or.inl ⟨by kernel_rfl, ?hq36⟩) ?_
                      case hq36 => (intro w; go_simp; try with_reducible rfl)
                      refine wpAny_take (i := 12) (v := (.pointer (some ⟨G, j, none⟩))) rfl (by kernel_rfl) (by kernel_rfl) (by kernel_rfl) (fun _ _ _ h => h) (Or.inl ⟨by kernel_rfl, ?hq37⟩) ?_
                      case hq37 => (intro w; go_simp; try with_reducible rfl)
                      refine wpAny_take (i := 14) (v := (.int .i64 be2)) rfl (by kernel_rfl) (by kernel_rfl) (by kernel_rfl) (fun _ _ _ h => h) (Or.inl ⟨by kernel_rfl, ?hq38⟩) ?_
                      case hq38 => (intro w; go_simp; try with_reducible rfl)
                      refine wpAny_ready (rs := [13]) (by kernel_rfl) (by simp) ?_
                      refine AllReady.cons rfl (fun K hK => ?_) AllReady.nil
                      go_simp
                      first | (refine hK _ _ ?_; clear hK K) | skip
                      refine wpAny_take (i := 15) (v := (.bool true)) rfl (by kernel_rfl) (by kernel_rfl) (by kernel_rfl) (fun _ _ _ h => h) (Or.inl ⟨by kernel_rfl, ?hq39⟩) ?_
                      case hq39 => (intro w; go_simp; try with_reducible rfl)
                      refine wpAny_take (i := 16) (v := (.bool true)) rfl (by kernel_rfl) (by kernel_rfl) (by kernel_rfl) (fun _ _ _ h => h) (Or.inl ⟨by kernel_rfl, ?hq40⟩) ?_
                      case hq40 => (intro w; go_simp; try with_reducible rfl)
                      refine wpAny_take (i := 17) (v := (.bool true)) rfl (by kernel_rfl) (by kernel_rfl) (by kernel_rfl) (fun _ _ _ h => h) (Or.inl ⟨by kernel_rfl, ?hq41⟩) ?_
                      case hq41 => (intro w; go_simp; try with_reducible rfl)
                      refine wpAny_done (by kernel_rfl) ?_ _
                      go_wp2
                      go_roundw
                      case rel => exact ⟨j + 1, z, by omega, by go_num, rfl, (by omega), HBE3, HT7, HN7, HB7⟩
                      case measure => simp [intOf]; omega
                  · have HBE3 : Hid (BestP nt n L H (2 * k + j + 1) be2) := hide (best_stay HBE2.out (by omega) (by rw [HCD.out]; omega))
                    have hld : decide (z < be2) = false := decide_eq_false hle
                    go_wp2
                    refine wp_region_any (by kernel_rfl) ?_
                    try (change wpAny _ _ _ _ _ _ _ (World.drew _))
                    refine wpAny_take (i := 1) (v := (.slice (some ⟨G, 0, none⟩) 2 2)) rfl (by kernel_rfl) (by kernel_rfl) (by kernel_rfl) (fun _ _ _ h => h) (Or.inl ⟨by kernel_rfl, ?hq42⟩) ?_
                    case hq42 => (intro w; go_simp; try with_reducible rfl)
                    refine wpAny_take (i := 2) (v := (.int .i64 (j : Int))) rfl (by kernel_rfl) (by kernel_rfl) (by kernel_rfl) (fun _ _ _ h => h) (Or.inl ⟨by kernel_rfl, ?hq43⟩) ?_
                    case hq43 => (intro w; go_simp; try with_reducible rfl)
                    refine wpAny_take (i := 3) (v := (.pointer (some ⟨G, j, none⟩))) rfl (by kernel_rfl) (by kernel_rfl) (by kernel_rfl) (fun _ _ _ h => h) (Or.inl ⟨by kernel_rfl, ?hq44⟩) ?_
                    case hq44 => (intro w; go_simp; try with_reducible rfl)
                    refine wpAny_ready (rs := [0, 4]) (by kernel_rfl) (by simp) ?_
                    refine AllReady.cons rfl (fun K hK => ?_) (AllReady.cons rfl (fun K hK => ?_) AllReady.nil)
                    · go_simp
                      first | (refine hK _ _ ?_; clear hK K) | skip
                      refine wpAny_ready (rs := [4]) (by kernel_rfl) (by simp) ?_
                      refine AllReady.cons rfl (fun K hK => ?_) AllReady.nil
                      go_simp
                      first | (refine hK _ _ ?_; clear hK K) | skip
                      refine wpAny_ready (rs := [5]) (by kernel_rfl) (by simp) ?_
                      refine AllReady.cons rfl (fun K hK => ?_) AllReady.nil
                      go_simp
                      go_wp2_with (go_at_call 61; refine (CC.out _ _ (sh_drew1 HB6.out)).mono ?_; rintro e w5 ⟨rfl, hb5⟩; rw [hin]; have HB7 := hide (HB6.out.trans ((below_d1 hb5).mono HB6.out.size)); have HN7 := hide (nodeAt_go HN6.out (below_d1 hb5)); have HT7 := hide (two_go HT6.out (below_d1 hb5)); have t5 := two_at HT7.out hj2; rw [hz] at t5; clear hb5)
                      first | (refine hK _ _ ?_; clear hK K) | skip
                      refine wpAny_take (i := 6) (v := (.bool true)) rfl (by kernel_rfl) (by kernel_rfl) (by kernel_rfl) (fun _ _ _ h => h) (Or.inl ⟨by kernel_rfl, ?hq45⟩) ?_
                      case hq45 => (intro w; go_simp; try with_reducible rfl)
                      refine wpAny_take (i := 7) (v := (.int .i64 be2)) rfl (by kernel_rfl) (by kernel_rfl) (by kernel_rfl) (fun _ _ _ h => h) (Or.inl ⟨by kernel_rfl, ?hq46⟩) ?_
                      case hq46 => (intro w; go_simp; try with_reducible rfl)
                      refine wpAny_take (i := 8) (v := (.bool false)) rfl (by kernel_rfl) (by kernel_rfl) (by kernel_rfl) (fun _ _ _ h => h) (Or.inl ⟨by kernel_rfl, ?hq47⟩) ?_
                      case hq47 => (intro w; go_simp; try with_reducible rfl)
                      refine wpAny_take (i := 9) (v := (.bool false)) rfl (by kernel_rfl) (by kernel_rfl) (by kernel_rfl) (fun _ _ _ h => h) (Or.inl ⟨by kernel_rfl, ?hq48⟩) ?_
                      case hq48 => (intro w; go_simp; try with_reducible rfl)
                      refine wpAny_take (i := 10) (v := (.slice (some ⟨G, 0, none⟩) 2 2)) rfl (by kernel_rfl) (by kernel_rfl) (by kernel_rfl) (fun _ _ _ h => h) (Or.inl ⟨by kernel_rfl, ?hq49⟩) ?_
                      case hq49 => (intro w; go_simp; try with_reducible rfl)
                      refine wpAny_take (i := 11) (v := (.int .i64 (j : Int))) rfl (by kernel_rfl) (by kernel_rfl) (by kernel_rfl) (fun _ _ _ h => h) (Or.inl ⟨by kernel_rfl, ?hq50⟩) ?_
                      case hq50 => (intro w; go_simp; try with_reducible rfl)
                      refine wpAny_take (i := 12) (v := (.pointer (some ⟨G, j, none⟩))) rfl (by kernel_rfl) (by kernel_rfl) (by kernel_rfl) (fun _ _ _ h => h) (Or.inl ⟨by kernel_rfl, ?hq51⟩) ?_
                      case hq51 => (intro w; go_simp; try with_reducible rfl)
                      refine wpAny_take (i := 14) (v := (.int .i64 be2)) rfl (by kernel_rfl) (by kernel_rfl) (by kernel_rfl) (fun _ _ _ h => h) (Or.inl ⟨by kernel_rfl, ?hq52⟩) ?_
                      case hq52 => (intro w; go_simp; try with_reducible rfl)
                      refine wpAny_ready (rs := [13]) (by kernel_rfl) (by simp) ?_
                      refine AllReady.cons rfl (fun K hK => ?_) AllReady.nil
                      go_simp
                      first | (refine hK _ _ ?_; clear hK K) | skip
                      refine wpAny_take (i := 15) (v := (.bool false)) rfl (by kernel_rfl) (by kernel_rfl) (by kernel_rfl) (fun _ _ _ h => h) (Or.inl ⟨by kernel_rfl, ?hq53⟩) ?_
                      case hq53 => (intro w; go_simp; try with_reducible rfl)
                      refine wpAny_take (i := 16) (v := (.bool false)) rfl (by kernel_rfl) (by kernel_rfl) (by kernel_rfl) (fun _ _ _ h => h) (Or.inl ⟨by kernel_rfl, ?hq54⟩) ?_
                      case hq54 => (intro w; go_simp; try with_reducible rfl)
                      refine wpAny_take (i := 17) (v := (.bool false)) rfl (by kernel_rfl) (by kernel_rfl) (by kernel_rfl) (fun _ _ _ h => h) (Or.inl ⟨by kernel_rfl, ?hq55⟩) ?_
                      case hq55 => (intro w; go_simp; try with_reducible rfl)
                      refine wpAny_done (by kernel_rfl) ?_ _
                      go_wp2
                      go_roundw
                      case rel => exact ⟨j + 1, be2, by omega, by go_num, rfl, hbe2, HBE3, HT7, HN7, HB7⟩
                      case measure => simp [intOf]; omega
                    · go_simp
                      first | (refine hK _ _ ?_; clear hK K) | skip
                      refine wpAny_ready (rs := [0]) (by kernel_rfl) (by simp) ?_
                      refine AllReady.cons rfl (fun K hK => ?_) AllReady.nil
                      go_simp
                      first | (refine hK _ _ ?_; clear hK K) | skip
                      refine wpAny_ready (rs := [5]) (by kernel_rfl) (by simp) ?_
                      refine AllReady.cons rfl (fun K hK => ?_) AllReady.nil
                      go_simp
                      go_wp2_with (go_at_call 61; refine (CC.out _ _ (sh_drew1 HB6.out)).mono ?_; rintro e w5 ⟨rfl, hb5⟩; rw [hin]; have HB7 := hide (HB6.out.trans ((below_d1 hb5).mono HB6.out.size)); have HN7 := hide (nodeAt_go HN6.out (below_d1 hb5)); have HT7 := hide (two_go HT6.out (below_d1 hb5)); have t5 := two_at HT7.out hj2; rw [hz] at t5; clear hb5)
                      first | (refine hK _ _ ?_; clear hK K) | skip
                      refine wpAny_take (i := 6) (v := (.bool true)) rfl (by kernel_rfl) (by kernel_rfl) (by kernel_rfl) (fun _ _ _ h => h) (Or.inl ⟨by kernel_rfl, ?hq56⟩) ?_
                      case hq56 => (intro w; go_simp; try with_reducible rfl)
                      refine wpAny_take (i := 7) (v := (.int .i64 be2)) rfl (by kernel_rfl) (by kernel_rfl) (by kernel_rfl) (fun _ _ _ h => h) (Or.inl ⟨by kernel_rfl, ?hq57⟩) ?_
                      case hq57 => (intro w; go_simp; try with_reducible rfl)
                      refine wpAny_take (i := 8) (v := (.bool false)) rfl (by kernel_rfl) (by kernel_rfl) (by kernel_rfl) (fun _ _ _ h => h) (Or.inl ⟨by kernel_rfl, ?hq58⟩) ?_
                      case hq58 => (intro w; go_simp; try with_reducible rfl)
                      refine wpAny_take (i := 9) (v := (.bool false)) rfl (by kernel_rfl) (by kernel_rfl) (by kernel_rfl) (fun _ _ _ h => h) (Or.inl ⟨by kernel_rfl, ?hq59⟩) ?_
                      case hq59 => (intro w; go_simp; try with_reducible rfl)
                      refine wpAny_take (i := 10) (v := (.slice (some ⟨G, 0, none⟩) 2 2)) rfl (by kernel_rfl) (by kernel_rfl) (by kernel_rfl) (fun _ _ _ h => h) (Or.inl ⟨by kernel_rfl, ?hq60⟩) ?_
                      case hq60 => (intro w; go_simp; try with_reducible rfl)
                      refine wpAny_take (i := 11) (v := (.int .i64 (j : Int))) rfl (by kernel_rfl) (by kernel_rfl) (by kernel_rfl) (fun _ _ _ h => h) (Or.inl ⟨by kernel_rfl, ?hq61⟩) ?_
                      case hq61 => (intro w; go_simp; try with_reducible rfl)
                      refine wpAny_take (i := 12) (v := (.pointer (some ⟨G, j, none⟩))) rfl (by kernel_rfl) (by kernel_rfl) (by kernel_rfl) (fun _ _ _ h => h) (Or.inl ⟨by kernel_rfl, ?hq62⟩) ?_
                      case hq62 => (intro w; go_simp; try with_reducible rfl)
                      refine wpAny_take (i := 14) (v := (.int .i64 be2)) rfl (by kernel_rfl) (by kernel_rfl) (by kernel_rfl) (fun _ _ _ h => h) (Or.inl ⟨by kernel_rfl, ?hq63⟩) ?_
                      case hq63 => (intro w; go_simp; try with_reducible rfl)
                      refine wpAny_ready (rs := [13]) (by kernel_rfl) (by simp) ?_
                      refine AllReady.cons rfl (fun K hK => ?_) AllReady.nil
                      go_simp
                      first | (refine hK _ _ ?_; clear hK K) | skip
                      refine wpAny_take (i := 15) (v := (.bool false)) rfl (by kernel_rfl) (by kernel_rfl) (by kernel_rfl) (fun _ _ _ h => h) (Or.inl ⟨by kernel_rfl, ?hq64⟩) ?_
                      case hq64 => (intro w; go_simp; try with_reducible rfl)
                      refine wpAny_take (i := 16) (v := (.bool false)) rfl (by kernel_rfl) (by kernel_rfl) (by kernel_rfl) (fun _ _ _ h => h) (Or.inl ⟨by kernel_rfl, ?hq65⟩) ?_
                      case hq65 => (intro w; go_simp; try with_reducible rfl)
                      refine wpAny_take (i := 17) (v := (.bool false)) rfl (by kernel_rfl) (by kernel_rfl) (by kernel_rfl) (fun _ _ _ h => h) (Or.inl ⟨by kernel_rfl, ?hq66⟩) ?_
                      case hq66 => (intro w; go_simp; try with_reducible rfl)
                      refine wpAny_done (by kernel_rfl) ?_ _
                      go_wp2
                      go_roundw
                      case rel => exact ⟨j + 1, be2, by omega, by go_num, rfl, hbe2, HBE3, HT7, HN7, HB7⟩
                      case measure => simp [intOf]; omega
            · have hje : j = 2 := by omega
              have HBE3 : Hid (BestP nt n L H (2 * (k + 1)) be2) := hide (by have h9 := HBE2.out; rw [hje] at h9; exact h9)
              go_wp2
              go_roundw
              case rel => exact ⟨k + 1, be2, by omega, by go_num, rfl, hbe2, HBE3, HN6, HB6⟩
              case measure => simp [intOf]; omega
        · have h5b : (h + 1 == 55296) = false := by rw [beq_eq_false_iff_ne]; exact h55
          have HF : Hid (fixC (H k + 1) = h + 1) := hide (by rw [hh]; unfold fixC; rw [if_neg h55])
          have HLk := hide hl
          clear h55 hl hh
          have HT3 : Hid (Two (wr.alloc (.cells #[.int .i64 l, .int .i64 (h + 1)] 2)).drew wr.heap.size l (h + 1)) := hide (two_newK wr l (h + 1) _)
          have HN3 : Hid (NodeAt (wr.alloc (.cells #[.int .i64 l, .int .i64 (h + 1)] 2)).drew w.heap.size 2 nt (some ⟨b, off, none⟩) n cp A B mn mx) := hide (nodeAt_go HN.out (sh_drew1 ((Below.refl wr.heap.size wr).alloc (Nat.le_refl _) _)))
          have HB3 : Hid (Below w.heap.size w (wr.alloc (.cells #[.int .i64 l, .int .i64 (h + 1)] 2)).drew) := hide (sh_drew1 (HB.out.alloc HB.out.size _))
          go_wp2
          obtain ⟨G, hG⟩ : ∃ G, wr.heap.size = G := ⟨_, rfl⟩
          rw [hG] at HT3 ⊢
          obtain ⟨W, hW⟩ : ∃ W, (wr.alloc (.cells #[.int .i64 l, .int .i64 (h + 1)] 2)).drew = W := ⟨_, rfl⟩
          rw [hW] at HT3 HN3 HB3 ⊢
          clear hW hG
          go_loopw [3, 6] (fun bv jv wr2 => ∃ (j : Nat) (be2 : Int), j ≤ 2 ∧ jv = .int .i64 j ∧ bv = .int .i64 be2 ∧ -1 ≤ be2 ∧ Hid (BestP nt n L H (2 * k + j) be2) ∧ Hid (Two wr2 G l (h + 1)) ∧ Hid (NodeAt wr2 w.heap.size 2 nt (some ⟨b, off, none⟩) n cp A B mn mx) ∧ Hid (Below w.heap.size w wr2)) (fun _ jv _ => 2 - (intOf jv).toNat)
          case atStart => exact ⟨0, be, by omega, rfl, rfl, hbe, HBE, HT3, HN3, HB3⟩
          case round =>
            obtain ⟨j, be2, hj, rfl, rfl, hbe2, HBE2, HT6, HN6, HB6⟩ := hrel
            obtain ⟨m0, m1, m2, m3, m4, m5, m6⟩ := nodeAt_cells HN6.out
            by_cases hj2 : j < 2
            · have hji : (j : Int) < 2 := by omega
              have t0 := two_at HT6.out hj2
              obtain ⟨z, hz⟩ : ∃ z, (if j = 0 then l else (h + 1)) = z := ⟨_, rfl⟩
              rw [hz] at t0
              have HCD : Hid (cdS L H (2 * k + j) = z) := hide (by rw [← hz]; exact cd_at HLk.out HF.out hj2)
              cases hin : inC nt n L H z
              · have HBE3 := hide (best_skip HBE2.out (by rw [HCD.out]; exact hin))
                go_wp2
                refine wp_region_any (by kernel_rfl) ?_
                try (change wpAny _ _ _ _ _ _ _ (World.drew _))
                refine wpAny_take (i := 1) (v := (.slice (some ⟨G, 0, none⟩) 2 2)) rfl (by kernel_rfl) (by kernel_rfl) (by kernel_rfl) (fun _ _ _ h => h) (Or.inl ⟨by kernel_rfl, ?hq67⟩) ?_
                case hq67 => (intro w; go_simp; try with_reducible rfl)
                refine wpAny_take (i := 2) (v := (.int .i64 (j : Int))) rfl (by kernel_rfl) (by kernel_rfl) (by kernel_rfl) (fun _ _ _ h => h) (Or.inl ⟨by kernel_rfl, ?hq68⟩) ?_
                case hq68 => (intro w; go_simp; try with_reducible rfl)
                refine wpAny_take (i := 3) (v := (.pointer (some ⟨G, j, none⟩))) rfl (by kernel_rfl) (by kernel_rfl) (by kernel_rfl) (fun _ _ _ h => h) (Or.inl ⟨by kernel_rfl, ?hq69⟩) ?_
                case hq69 => (intro w; go_simp; try with_reducible rfl)
                refine wpAny_ready (rs := [0, 4]) (by kernel_rfl) (by simp) ?_
                refine AllReady.cons rfl (fun K hK => ?_) (AllReady.cons rfl (fun K hK => ?_) AllReady.nil)
                · go_simp
                  first | (refine hK _ _ ?_; clear hK K) | skip
                  refine wpAny_ready (rs := [4]) (by kernel_rfl) (by simp) ?_
                  refine AllReady.cons rfl (fun K hK => ?_) AllReady.nil
                  go_simp
                  first | (refine hK _ _ ?_; clear hK K) | skip
                  refine wpAny_ready (rs := [5]) (by kernel_rfl) (by simp) ?_
                  refine AllReady.cons rfl (fun K hK => ?_) AllReady.nil
                  go_simp
                  go_wp2_with (go_at_call 61; refine (CC.out _ _ (sh_drew1 HB6.out)).mono ?_; rintro e w5 ⟨rfl, hb5⟩; rw [hin]; have HB7 := hide (HB6.out.trans ((below_d1 hb5).mono HB6.out.size)); have HN7 := hide (nodeAt_go HN6.out (below_d1 hb5)); have HT7 := hide (two_go HT6.out (below_d1 hb5)); have t5 := two_at HT7.out hj2; rw [hz] at t5; clear hb5)
                  first | (refine hK _ _ ?_; clear hK K) | skip
                  refine wpAny_take (i := 6) (v := (.bool false)) rfl (by kernel_rfl) (by kernel_rfl) (by kernel_rfl) (fun _ _ _ h => h) (Or.inl ⟨by kernel_rfl, ?hq70⟩) ?_
                  case hq70 => (intro w; go_simp; try with_reducible rfl)
                  refine wpAny_take (i := 7) (v := undef) rfl (by kernel_rfl) (by kernel_rfl) (by kernel_rfl) (fun _ _ _ h => h) (Or.inr ⟨by kernel_rfl, rfl⟩) ?_
                  simp only [Act.put, List.setIfInBounds_toArray, List.set_cons_zero, List.set_cons_succ]
                  refine wpAny_take (i := 8) (v := undef) rfl (by kernel_rfl) (by kernel_rfl) (by kernel_rfl) (fun _ _ _ h => h) (Or.inr ⟨by kernel_rfl, rfl⟩) ?_
                  simp only [Act.put, List.setIfInBounds_toArray, List.set_cons_zero, List.set_cons_succ]
                  refine wpAny_take (i := 9) (v := undef) rfl (by kernel_rfl) (by kernel_rfl) (by kernel_rfl) (fun _ _ _ h => h) (Or.inr ⟨by kernel_rfl, rfl⟩) ?_
                  simp only [Act.put, List.setIfInBounds_toArray, List.set_cons_zero, List.set_cons_succ]
                  refine wpAny_take (i := 10) (v := undef) rfl (by kernel_rfl) (by kernel_rfl) (by kernel_rfl) (fun _ _ _ h => h) (Or.inr ⟨by kernel_rfl, rfl⟩) ?_
                  simp only [Act.put, List.setIfInBounds_toArray, List.set_cons_zero, List.set_cons_succ]
                  refine wpAny_take (i := 11) (v := undef) rfl (by kernel_rfl) (by kernel_rfl) (by kernel_rfl) (fun _ _ _ h => h) (Or.inr ⟨by kernel_rfl, rfl⟩) ?_
                  simp only [Act.put, List.setIfInBounds_toArray, List.set_cons_zero, List.set_cons_succ]
                  refine wpAny_take (i := 12) (v := undef) rfl (by kernel_rfl) (by kernel_rfl) (by kernel_rfl) (fun _ _ _ h => h) (Or.inr ⟨by kernel_rfl, rfl⟩) ?_
                  simp only [Act.put, List.setIfInBounds_toArray, List.set_cons_zero, List.set_cons_succ]
                  refine wpAny_take (i := 13) (v := undef) rfl (by kernel_rfl) (by kernel_rfl) (by kernel_rfl) (fun _ _ _ h => h) (Or.inr ⟨by kernel_rfl, rfl⟩) ?_
                  simp only [Act.put, List.setIfInBounds_toArray, List.set_cons_zero, List.set_cons_succ]
                  refine wpAny_take (i := 14) (v := undef) rfl (by kernel_rfl) (by kernel_rfl) (by kernel_rfl) (fun _ _ _ h => h) (Or.inr ⟨by kernel_rfl, rfl⟩) ?_
                  simp only [Act.put, List.setIfInBounds_toArray, List.set_cons_zero, List.set_cons_succ]
                  refine wpAny_take (i := 15) (v := undef) rfl (by kernel_rfl) (by kernel_rfl) (by kernel_rfl) (fun _ _ _ h => h) (Or.inr ⟨by kernel_rfl, rfl⟩) ?_
                  simp only [Act.put, List.setIfInBounds_toArray, List.set_cons_zero, List.set_cons_succ]
                  refine wpAny_take (i := 16) (v := undef) rfl (by kernel_rfl) (by kernel_rfl) (by kernel_rfl) (fun _ _ _ h => h) (Or.inr ⟨by kernel_rfl, rfl⟩) ?_
                  simp only [Act.put, List.setIfInBounds_toArray, List.set_cons_zero, List.set_cons_succ]
                  refine wpAny_ready (rs := [17]) (by kernel_rfl) (by simp) ?_
                  refine AllReady.cons rfl (fun K hK => ?_) AllReady.nil
                  go_simp
                  first | (refine hK _ _ ?_; clear hK K) | skip
                  refine wpAny_done (by kernel_rfl) ?_ _
                  go_wp2
                  go_roundw
                  case rel => exact ⟨j + 1, be2, by omega, by go_num, rfl, hbe2, HBE3, HT7, HN7, HB7⟩
                  case measure => simp [intOf]; omega
                · go_simp
                  first | (refine hK _ _ ?_; clear hK K) | skip
                  refine wpAny_ready (rs := [0]) (by kernel_rfl) (by simp) ?_
                  refine AllReady.cons rfl (fun K hK => ?_) AllReady.nil
                  go_simp
                  first | (refine hK _ _ ?_; clear hK K) | skip
                  refine wpAny_ready (rs := [5]) (by kernel_rfl) (by simp) ?_
                  refine AllReady.cons rfl (fun K hK => ?_) AllReady.nil
                  go_simp
                  go_wp2_with (go_at_call 61; refine (CC.out _ _ (sh_drew1 HB6.out)).mono ?_; rintro e w5 ⟨rfl, hb5⟩; rw [hin]; have HB7 := hide (HB6.out.trans ((below_d1 hb5).mono HB6.out.size)); have HN7 := hide (nodeAt_go HN6.out (below_d1 hb5)); have HT7 := hide (two_go HT6.out (below_d1 hb5)); have t5 := two_at HT7.out hj2; rw [hz] at t5; clear hb5)
                  first | (refine hK _ _ ?_; clear hK K) | skip
                  refine wpAny_take (i := 6) (v := (.bool false)) rfl (by kernel_rfl) (by kernel_rfl) (by kernel_rfl) (fun _ _ _ h => h) (Or.inl ⟨by kernel_rfl, ?hq71⟩) ?_
                  case hq71 => (intro w; go_simp; try with_reducible rfl)
                  refine wpAny_take (i := 7) (v := undef) rfl (by kernel_rfl) (by kernel_rfl) (by kernel_rfl) (fun _ _ _ h => h) (Or.inr ⟨by kernel_rfl, rfl⟩) ?_
                  simp only [Act.put, List.setIfInBounds_toArray, List.set_cons_zero, List.set_cons_succ]
                  refine wpAny_take (i := 8) (v := undef) rfl (by kernel_rfl) (by kernel_rfl) (by kernel_rfl) (fun _ _ _ h => h) (Or.inr ⟨by kernel_rfl, rfl⟩) ?_
                  simp only [Act.put, List.setIfInBounds_toArray, List.set_cons_zero, List.set_cons_succ]
                  refine wpAny_take (i := 9) (v := undef) rfl (by kernel_rfl) (by kernel_rfl) (by kernel_rfl) (fun _ _ _ h => h) (Or.inr ⟨by kernel_rfl, rfl⟩) ?_
                  simp only [Act.put, List.setIfInBounds_toArray, List.set_cons_zero, List.set_cons_succ]
                  refine wpAny_take (i := 10) (v := undef) rfl (by kernel_rfl) (by kernel_rfl) (by kernel_rfl) (fun _ _ _ h => h) (Or.inr ⟨by kernel_rfl, rfl⟩) ?_
                  simp only [Act.put, List.setIfInBounds_toArray, List.set_cons_zero, List.set_cons_succ]
                  refine wpAny_take (i := 11) (v := undef) rfl (by kernel_rfl) (by kernel_rfl) (by kernel_rfl) (fun _ _ _ h => h) (Or.inr ⟨by kernel_rfl, rfl⟩) ?_
                  simp only [Act.put, List.setIfInBounds_toArray, List.set_cons_zero, List.set_cons_succ]
                  refine wpAny_take (i := 12) (v := undef) rfl (by kernel_rfl) (by kernel_rfl) (by kernel_rfl) (fun _ _ _ h => h) (Or.inr ⟨by kernel_rfl, rfl⟩) ?_
                  simp only [Act.put, List.setIfInBounds_toArray, List.set_cons_zero, List.set_cons_succ]
                  refine wpAny_take (i := 13) (v := undef) rfl (by kernel_rfl) (by kernel_rfl) (by kernel_rfl) (fun _ _ _ h => h) (Or.inr ⟨by kernel_rfl, rfl⟩) ?_
                  simp only [Act.put, List.setIfInBounds_toArray, List.set_cons_zero, List.set_cons_succ]
                  refine wpAny_take (i := 14) (v := undef) rfl (by kernel_rfl) (by kernel_rfl) (by kernel_rfl) (fun _ _ _ h => h) (Or.inr ⟨by kernel_rfl, rfl⟩) ?_
                  simp only [Act.put, List.setIfInBounds_toArray, List.set_cons_zero, List.set_cons_succ]
                  refine wpAny_take (i := 15) (v := undef) rfl (by kernel_rfl) (by kernel_rfl) (by kernel_rfl) (fun _ _ _ h => h) (Or.inr ⟨by kernel_rfl, rfl⟩) ?_
                  simp only [Act.put, List.setIfInBounds_toArray, List.set_cons_zero, List.set_cons_succ]
                  refine wpAny_take (i := 16) (v := undef) rfl (by kernel_rfl) (by kernel_rfl) (by kernel_rfl) (fun _ _ _ h => h) (Or.inr ⟨by kernel_rfl, rfl⟩) ?_
                  simp only [Act.put, List.setIfInBounds_toArray, List.set_cons_zero, List.set_cons_succ]
                  refine wpAny_ready (rs := [17]) (by kernel_rfl) (by simp) ?_
                  refine AllReady.cons rfl (fun K hK => ?_) AllReady.nil
                  go_simp
                  first | (refine hK _ _ ?_; clear hK K) | skip
                  refine wpAny_done (by kernel_rfl) ?_ _
                  go_wp2
                  go_roundw
                  case rel => exact ⟨j + 1, be2, by omega, by go_num, rfl, hbe2, HBE3, HT7, HN7, HB7⟩
                  case measure => simp [intOf]; omega
              · have hz0 : 0 ≤ z := inC_ge hin
                by_cases hneg : be2 < 0
                · have HBE3 : Hid (BestP nt n L H (2 * k + j + 1) z) := hide (by have h9 := best_take HBE2.out (by rw [HCD.out]; exact hin) (.inl hneg); rw [HCD.out] at h9; exact h9)
                  have hnd : decide (be2 < 0) = true := decide_eq_true hneg
                  go_wp2
                  refine wp_region_any (by kernel_rfl) ?_
                  try (change wpAny _ _ _ _ _ _ _ (World.drew _))
                  refine wpAny_take (i := 1) (v := (.slice (some ⟨G, 0, none⟩) 2 2)) rfl (by kernel_rfl) (by kernel_rfl) (by kernel_rfl) (fun _ _ _ h => h) (Or.inl ⟨by kernel_rfl, ?hq72⟩) ?_
                  case hq72 => (intro w; go_simp; try with_reducible rfl)
                  refine wpAny_take (i := 2) (v := (.int .i64 (j : Int))) rfl (by kernel_rfl) (by kernel_rfl) (by kernel_rfl) (fun _ _ _ h => h) (Or.inl ⟨by kernel_rfl, ?hq73⟩) ?_
                  case hq73 => (intro w; go_simp; try with_reducible rfl)
                  refine wpAny_take (i := 3) (v := (.pointer (some ⟨G, j, none⟩))) rfl (by kernel_rfl) (by kernel_rfl) (by kernel_rfl) (fun _ _ _ h => h) (Or.inl ⟨by kernel_rfl, ?hq74⟩) ?_
                  case hq74 => (intro w; go_simp; try with_reducible rfl)
                  refine wpAny_ready (rs := [0, 4]) (by kernel_rfl) (by simp) ?_
                  refine AllReady.cons rfl (fun K hK => ?_) (AllReady.cons rfl (fun K hK => ?_) AllReady.nil)
                  · go_simp
                    first | (refine hK _ _ ?_; clear hK K) | skip
                    refine wpAny_ready (rs := [4]) (by kernel_rfl) (by simp) ?_
                    refine AllReady.cons rfl (fun K hK => ?_) AllReady.nil
                    go_simp
                    first | (refine hK _ _ ?_; clear hK K) | skip
                    refine wpAny_ready (rs := [5]) (by kernel_rfl) (by simp) ?_
                    refine AllReady.cons rfl (fun K hK => ?_) AllReady.nil
                    go_simp
                    go_wp2_with (go_at_call 61; refine (CC.out _ _ (sh_drew1 HB6.out)).mono ?_; rintro e w5 ⟨rfl, hb5⟩; rw [hin]; have HB7 := hide (HB6.out.trans ((below_d1 hb5).mono HB6.out.size)); have HN7 := hide (nodeAt_go HN6.out (below_d1 hb5)); have HT7 := hide (two_go HT6.out (below_d1 hb5)); have t5 := two_at HT7.out hj2; rw [hz] at t5; clear hb5)
                    first | (refine hK _ _ ?_; clear hK K) | skip
                    refine wpAny_take (i := 6) (v := (.bool true)) rfl (by kernel_rfl) (by kernel_rfl) (by kernel_rfl) (fun _ _ _ h => h) (Or.inl ⟨by kernel_rfl, ?hq75⟩) ?_
                    case hq75 => (intro w; go_simp; try with_reducible rfl)
                    refine wpAny_take (i := 7) (v := (.int .i64 be2)) rfl (by kernel_rfl) (by kernel_rfl) (by kernel_rfl) (fun _ _ _ h => h) (Or.inl ⟨by kernel_rfl, ?hq76⟩) ?_
                    case hq76 => (intro w; go_simp; try with_reducible rfl)
                    refine wpAny_take (i := 8) (v := (.bool true)) rfl (by kernel_rfl) (by kernel_rfl) (by kernel_rfl) (fun _ _ _ h => h) (Or.inl ⟨by kernel_rfl, ?hq77⟩) ?_
                    case hq77 => (intro w; go_simp; try with_reducible rfl)
                    refine wpAny_take (i := 9) (v := (.bool true)) rfl (by kernel_rfl) (by kernel_rfl) (by kernel_rfl) (fun _ _ _ h => h) (Or.inl ⟨by kernel_rfl, ?hq78⟩) ?_
                    case hq78 => (intro w; go_simp; try with_reducible rfl)
                    refine wpAny_take (i := 10) (v := undef) rfl (by kernel_rfl) (by kernel_rfl) (by kernel_rfl) (fun _ _ _ h => h) (Or.inr ⟨by kernel_rfl, rfl⟩) ?_
                    simp only [Act.put, List.setIfInBounds_toArray, List.set_cons_zero, List.set_cons_succ]
                    refine wpAny_take (i := 11) (v := undef) rfl (by kernel_rfl) (by kernel_rfl) (by kernel_rfl) (fun _ _ _ h => h) (Or.inr ⟨by kernel_rfl, rfl⟩) ?_
                    simp only [Act.put, List.setIfInBounds_toArray, List.set_cons_zero, List.set_cons_succ]
                    refine wpAny_take (i := 12) (v := undef) rfl (by kernel_rfl) (by kernel_rfl) (by kernel_rfl) (fun _ _ _ h => h) (Or.inr ⟨by kernel_rfl, rfl⟩) ?_
                    simp only [Act.put, List.setIfInBounds_toArray, List.set_cons_zero, List.set_cons_succ]
                    refine wpAny_take (i := 13) (v := undef) rfl (by kernel_rfl) (by kernel_rfl) (by kernel_rfl) (fun _ _ _ h => h) (Or.inr ⟨by kernel_rfl, rfl⟩) ?_
                    simp only [Act.put, List.setIfInBounds_toArray, List.set_cons_zero, List.set_cons_succ]
                    refine wpAny_take (i := 14) (v := undef) rfl (by kernel_rfl) (by kernel_rfl) (by kernel_rfl) (fun _ _ _ h => h) (Or.inr ⟨by kernel_rfl, rfl⟩) ?_
                    simp only [Act.put, List.setIfInBounds_toArray, List.set_cons_zero, List.set_cons_succ]
                    refine wpAny_take (i := 15) (v := undef) rfl (by kernel_rfl) (by kernel_rfl) (by kernel_rfl) (fun _ _ _ h => h) (Or.inr ⟨by kernel_rfl, rfl⟩) ?_
                    simp only [Act.put, List.setIfInBounds_toArray, List.set_cons_zero, List.set_cons_succ]
                    refine wpAny_ready (rs := [16]) (by kernel_rfl) (by simp) ?_
                    refine AllReady.cons rfl (fun K hK => ?_) AllReady.nil
                    go_simp
                    first | (refine hK _ _ ?_; clear hK K) | skip
                    refine wpAny_ready (rs := [17]) (by kernel_rfl) (by simp) ?_
                    refine AllReady.cons rfl (fun K hK => ?_) AllReady.nil
                    go_simp
                    first | (refine hK _ _ ?_; clear hK K) | skip
                    refine wpAny_done (by kernel_rfl) ?_ _
                    go_wp2
                    go_roundw
                    case rel => exact ⟨j + 1, z, by omega, by go_num, rfl, (by omega), HBE3, HT7, HN7, HB7⟩
                    case measure => simp [intOf]; omega
                  · go_simp
                    first | (refine hK _ _ ?_; clear hK K) | skip
                    refine wpAny_ready (rs := [0]) (by kernel_rfl) (by simp) ?_
                    refine AllReady.cons rfl (fun K hK => ?_) AllReady.nil
                    go_simp
                    first | (refine hK _ _ ?_; clear hK K) | skip
                    refine wpAny_ready (rs := [5]) (by kernel_rfl) (by simp) ?_
                    refine AllReady.cons rfl (fun K hK => ?_) AllReady.nil
                    go_simp
                    go_wp2_with (go_at_call 61; refine (CC.out _ _ (sh_drew1 HB6.out)).mono ?_; rintro e w5 ⟨rfl, hb5⟩; rw [hin]; have HB7 := hide (HB6.out.trans ((below_d1 hb5).mono HB6.out.size)); have HN7 := hide (nodeAt_go HN6.out (below_d1 hb5)); have HT7 := hide (two_go HT6.out (below_d1 hb5)); have t5 := two_at HT7.out hj2; rw [hz] at t5; clear hb5)
                    first | (refine hK _ _ ?_; clear hK K) | skip
                    refine wpAny_take (i := 6) (v := (.bool true)) rfl (by kernel_rfl) (by kernel_rfl) (by kernel_rfl) (fun _ _ _ h => h) (Or.inl ⟨by kernel_rfl, ?hq79⟩) ?_
                    case hq79 => (intro w; go_simp; try with_reducible rfl)
                    refine wpAny_take (i := 7) (v := (.int .i64 be2)) rfl (by kernel_rfl) (by kernel_rfl) (by kernel_rfl) (fun _ _ _ h => h) (Or.inl ⟨by kernel_rfl, ?hq80⟩) ?_
                    case hq80 => (intro w; go_simp; try with_reducible rfl)
                    refine wpAny_take (i := 8) (v := (.bool true)) rfl (by kernel_rfl) (by kernel_rfl) (by kernel_rfl) (fun _ _ _ h => h) (Or.inl ⟨by kernel_rfl, ?hq81⟩) ?_
                    case hq81 => (intro w; go_simp; try with_reducible rfl)
                    refine wpAny_take (i := 9) (v := (.bool true)) rfl (by kernel_rfl) (by kernel_rfl) (by kernel_rfl) (fun _ _ _ h => h) (Or.inl ⟨by kernel_rfl, ?hq82⟩) ?_
                    case hq82 => (intro w; go_simp; try with_reducible rfl)
                    refine wpAny_take (i := 10) (v := undef) rfl (by kernel_rfl) (by kernel_rfl) (by kernel_rfl) (fun _ _ _ h => h) (Or.inr ⟨by kernel_rfl, rfl⟩) ?_
                    simp only [Act.put, List.setIfInBounds_toArray, List.set_cons_zero, List.set_cons_succ]
                    refine wpAny_take (i := 11) (v := undef) rfl (by kernel_rfl) (by kernel_rfl) (by kernel_rfl) (fun _ _ _ h => h) (Or.inr ⟨by kernel_rfl, rfl⟩) ?_
                    simp only [Act.put, List.setIfInBounds_toArray, List.set_cons_zero, List.set_cons_succ]
                    refine wpAny_take (i := 12) (v := undef) rfl (by kernel_rfl) (by kernel_rfl) (by kernel_rfl) (fun _ _ _ h => h) (Or.inr ⟨by kernel_rfl, rfl⟩) ?_
                    simp only [Act.put, List.setIfInBounds_toArray, List.set_cons_zero, List.set_cons_succ]
                    refine wpAny_take (i := 13) (v := undef) rfl (by kernel_rfl) (by kernel_rfl) (by kernel_rfl) (fun _ _ _ h => h) (Or.inr ⟨by kernel_rfl, rfl⟩) ?_
                    simp only [Act.put, List.setIfInBounds_toArray, List.set_cons_zero, List.set_cons_succ]
                    refine wpAny_take (i := 14) (v := undef) rfl (by kernel_rfl) (by kernel_rfl) (by kernel_rfl) (fun _ _ _ h => h) (Or.inr ⟨by kernel_rfl, rfl⟩) ?_
                    simp only [Act.put, List.setIfInBounds_toArray, List.set_cons_zero, List.set_cons_succ]
                    refine wpAny_take (i := 15) (v := undef) rfl (by kernel_rfl) (by kernel_rfl) (by kernel_rfl) (fun _ _ _ h => h) (Or.inr ⟨by kernel_rfl, rfl⟩) ?_
                    simp only [Act.put, List.setIfInBounds_toArray, List.set_cons_zero, List.set_cons_succ]
                    refine wpAny_ready (rs := [16]) (by kernel_rfl) (by simp) ?_
                    refine AllReady.cons rfl (fun K hK => ?_) AllReady.nil
                    go_simp
                    first | (refine hK _ _ ?_; clear hK K) | skip
                    refine wpAny_ready (rs := [17]) (by kernel_rfl) (by simp) ?_
                    refine AllReady.cons rfl (fun K hK => ?_) AllReady.nil
                    go_simp
                    first | (refine hK _ _ ?_; clear hK K) | skip
                    refine wpAny_done (by kernel_rfl) ?_ _
                    go_wp2
                    go_roundw
                    case rel => exact ⟨j + 1, z, by omega, by go_num, rfl, (by omega), HBE3, HT7, HN7, HB7⟩
                    case measure => simp [intOf]; omega
                · have hnd : decide (be2 < 0) = false := decide_eq_false hneg
                  by_cases hle : z < be2
                  · have HBE3 : Hid (BestP nt n L H (2 * k + j + 1) z) := hide (by have h9 := best_take HBE2.out (by rw [HCD.out]; exact hin) (.inr (by rw [HCD.out]; exact hle)); rw [HCD.out] at h9; exact h9)
                    have hld : decide (z < be2) = true := decide_eq_true hle
                    go_wp2
                    refine wp_region_any (by kernel_rfl) ?_
                    try (change wpAny _ _ _ _ _ _ _ (World.drew _))
                    refine wpAny_take (i := 1) (v := (.slice (some ⟨G, 0, none⟩) 2 2)) rfl (by kernel_rfl) (by kernel_rfl) (by kernel_rfl) (fun _ _ _ h => h) (Or.inl ⟨by kernel_rfl, ?hq83⟩) ?_
                    case hq83 => (intro w; go_simp; try with_reducible rfl)
                    refine wpAny_take (i := 2) (v := (.int .i64 (j : Int))) rfl (by kernel_rfl) (by kernel_rfl) (by kernel_rfl) (fun _ _ _ h => h) (Or.inl ⟨by kernel_rfl, ?hq84⟩) ?_
                    case hq84 => (intro w; go_simp; try with_reducible rfl)
                    refine wpAny_take (i := 3) (v := (.pointer (some ⟨G, j, none⟩))) rfl (by kernel_rfl) (by kernel_rfl) (by kernel_rfl) (fun _ _ _ h => h) (Or.inl ⟨by kernel_rfl, ?hq85⟩) ?_
                    case hq85 => (intro w; go_simp; try with_reducible rfl)
                    refine wpAny_ready (rs := [0, 4]) (by kernel_rfl) (by simp) ?_
                    refine AllReady.cons rfl (fun K hK => ?_) (AllReady.cons rfl (fun K hK => ?_) AllReady.nil)
                    · go_simp
                      first | (refine hK _ _ ?_; clear hK K) | skip
                      refine wpAny_ready (rs := [4]) (by kernel_rfl) (by simp) ?_
                      refine AllReady.cons rfl (fun K hK => ?_) AllReady.nil
                      go_simp
                      first | (refine hK _ _ ?_; clear hK K) | skip
                      refine wpAny_ready (rs := [5]) (by kernel_rfl) (by simp) ?_
                      refine AllReady.cons rfl (fun K hK => ?_) AllReady.nil
                      go_simp
                      go_wp2_with (go_at_call 61; refine (CC.out _ _ (sh_drew1 HB6.out)).mono ?_; rintro e w5 ⟨rfl, hb5⟩; rw [hin]; have HB7 := hide (HB6.out.trans ((below_d1 hb5).mono HB6.out.size)); have HN7 := hide (nodeAt_go HN6.out (below_d1 hb5)); have HT7 := hide (two_go HT6.out (below_d1 hb5)); have t5 := two_at HT7.out hj2; rw [hz] at t5; clear hb5)
                      first | (refine hK _ _ ?_; clear hK K) | skip
                      refine wpAny_take (i := 6) (v := (.bool true)) rfl (by kernel_rfl) (by kernel_rfl) (by kernel_rfl) (fun _ _ _ h => h) (Or.inl ⟨by kernel_rfl, ?hq86⟩) ?_
                      case hq86 => (intro w; go_simp; try with_reducible rfl)
                      refine wpAny_take (i := 7) (v := (.int .i64 be2)) rfl (by kernel_rfl) (by kernel_rfl) (by kernel_rfl) (fun _ _ _ h => h) (Or.inl ⟨by kernel_rfl, ?hq87⟩) ?_
                      case hq87 => (intro w; go_simp; try with_reducible rfl)
                      refine wpAny_take (i := 8) (v := (.bool false)) rfl (by kernel_rfl) (by kernel_rfl) (by kernel_rfl) (fun _ _ _ h => h) (Or.inl ⟨by kernel_rfl, ?hq88⟩) ?_
                      case hq88 => (intro w; go_simp; try with_reducible rfl)
                      refine wpAny_take (i := 9) (v := (.bool false)) rfl (by kernel_rfl) (by kernel_rfl) (by kernel_rfl) (fun _ _ _ h => h) (Or.inl ⟨by kernel_rfl, ?hq89⟩) ?_
                      case hq89 => (intro w; go_simp; try with_reducible rfl)
                      refine wpAny_take (i := 10) (v := (.slice (some ⟨G, 0, none⟩) 2 2)) rfl (by kernel_rfl) (by kernel_rfl) (by kernel_rfl) (fun _ _ _ h => h) (Or.inl ⟨by kernel_rfl, ?hq90⟩) ?_
                      case hq90 => (intro w; go_simp; try with_reducible rfl)
                      refine wpAny_take (i := 11) (v := (.int .i64 (j : Int))) rfl (by kernel_rfl) (by kernel_rfl) (by kernel_rfl) (fun _ _ _ h => h) (Or.inl ⟨by kernel_rfl, ?hq91⟩) ?_
                      case hq91 => (intro w; go_simp; try with_reducible rfl)
                      refine wpAny_take (i := 12) (v := (.pointer (some ⟨G, j, none⟩))) rfl (by kernel_rfl) (by kernel_rfl) (by kernel_rfl) (fun _ _ _ h => h) (Or.inl ⟨by kernel_rfl, ?hq92⟩) ?_
                      case hq92 => (intro w; go_simp; try with_reducible rfl)
                      refine wpAny_take (i := 14) (v := (.int .i64 be2)) rfl (by kernel_rfl) (by kernel_rfl) (by kernel_rfl) (fun _ _ _ h => h) (Or.inl ⟨by kernel_rfl, ?hq93⟩) ?_
                      case hq93 => (intro w; go_simp; try with_reducible rfl)
                      refine wpAny_ready (rs := [13]) (by kernel_rfl) (by simp) ?_
                      refine AllReady.cons rfl (fun K hK => ?_) AllReady.nil
                      go_simp
                      first | (refine hK _ _ ?_; clear hK K) | skip
                      refine wpAny_take (i := 15) (v := (.bool true)) rfl (by kernel_rfl) (by kernel_rfl) (by kernel_rfl) (fun _ _ _ h => h) (Or.inl ⟨by kernel_rfl, ?hq94⟩) ?_
                      case hq94 => (intro w; go_simp; try with_reducible rfl)
                      refine wpAny_take (i := 16) (v := (.bool true)) rfl (by kernel_rfl) (by kernel_rfl) (by kernel_rfl) (fun _ _ _ h => h) (Or.inl ⟨by kernel_rfl, ?hq95⟩) ?_
                      case hq95 => (intro w; go_simp; try with_reducible rfl)
                      refine wpAny_take (i := 17) (v := (.bool true)) rfl (by kernel_rfl) (by kernel_rfl) (by kernel_rfl) (fun _ _ _ h => h) (Or.inl ⟨by kernel_rfl, ?hq96⟩) ?_
                      case hq96 => (intro w; go_simp; try with_reducible rfl)
                      refine wpAny_done (by kernel_rfl) ?_ _
                      go_wp2
                      go_roundw
                      case rel => exact ⟨j + 1, z, by omega, by go_num, rfl, (by omega), HBE3, HT7, HN7, HB7⟩
                      case measure => simp [intOf]; omega
                    · go_simp
                      first | (refine hK _ _ ?_; clear hK K) | skip
                      refine wpAny_ready (rs := [0]) (by kernel_rfl) (by simp) ?_
                      refine AllReady.cons rfl (fun K hK => ?_) AllReady.nil
                      go_simp
                      first | (refine hK _ _ ?_; clear hK K) | skip
                      refine wpAny_ready (rs := [5]) (by kernel_rfl) (by simp) ?_
                      refine AllReady.cons rfl (fun K hK => ?_) AllReady.nil
                      go_simp
                      go_wp2_with (go_at_call 61; refine (CC.out _ _ (sh_drew1 HB6.out)).mono ?_; rintro e w5 ⟨rfl, hb5⟩; rw [hin]; have HB7 := hide (HB6.out.trans ((below_d1 hb5).mono HB6.out.size)); have HN7 := hide (nodeAt_go HN6.out (below_d1 hb5)); have HT7 := hide (two_go HT6.out (below_d1 hb5)); have t5 := two_at HT7.out hj2; rw [hz] at t5; clear hb5)
                      first | (refine hK _ _ ?_; clear hK K) | skip
                      refine wpAny_take (i := 6) (v := (.bool true)) rfl (by kernel_rfl) (by kernel_rfl) (by kernel_rfl) (fun _ _ _ h => h) (Or.inl ⟨by kernel_rfl, ?hq97⟩) ?_
                      case hq97 => (intro w; go_simp; try with_reducible rfl)
                      refine wpAny_take (i := 7) (v := (.int .i64 be2)) rfl (by kernel_rfl) (by kernel_rfl) (by kernel_rfl) (fun _ _ _ h => h) (Or.inl ⟨by kernel_rfl, ?hq98⟩) ?_
                      case hq98 => (intro w; go_simp; try with_reducible rfl)
                      refine wpAny_take (i := 8) (v := (.bool false)) rfl (by kernel_rfl) (by kernel_rfl) (by kernel_rfl) (fun _ _ _ h => h) (Or.inl ⟨by kernel_rfl, ?hq99⟩) ?_
                      case hq99 => (intro w; go_simp; try with_reducible rfl)
                      refine wpAny_take (i := 9) (v := (.bool false)) rfl (by kernel_rfl) (by kernel_rfl) (by kernel_rfl) (fun _ _ _ h => h) (Or.inl ⟨by kernel_rfl, ?hq100⟩) ?_
                      case hq100 => (intro w; go_simp; try with_reducible rfl)
                      refine wpAny_take (i := 10) (v := (.slice (some ⟨G, 0, none⟩) 2 2)) rfl (by kernel_rfl) (by kernel_rfl) (by kernel_rfl) (fun _ _ _ h => h) (Or.inl ⟨by kernel_rfl, ?hq101⟩) ?_
                      case hq101 => (intro w; go_simp; try with_reducible rfl)
                      refine wpAny_take (i := 11) (v := (.int .i64 (j : Int))) rfl (by kernel_rfl) (by kernel_rfl) (by kernel_rfl) (fun _ _ _ h => h) (Or.inl ⟨by kernel_rfl, ?hq102⟩) ?_
                      case hq102 => (intro w; go_simp; try with_reducible rfl)
                      refine wpAny_take (i := 12) (v := (.pointer (some ⟨G, j, none⟩))) rfl (by kernel_rfl) (by kernel_rfl) (by kernel_rfl) (fun _ _ _ h => h) (Or.inl ⟨by kernel_rfl, ?hq103⟩) ?_
                      case hq103 => (intro w; go_simp; try with_reducible rfl)
                      refine wpAny_take (i := 14) (v := (.int .i64 be2)) rfl (by kernel_rfl) (by kernel_rfl) (by kernel_rfl) (fun _ _ _ h => h) (Or.inl ⟨by kernel_rfl, ?hq104⟩) ?_
                      case hq104 => (intro w; go_simp; try with_reducible rfl)
                      refine wpAny_ready (rs := [13]) (by kernel_rfl) (by simp) ?_
                      refine AllReady.cons rfl (fun K hK => ?_) AllReady.nil
                      go_simp
                      first | (refine hK _ _ ?_; clear hK K) | skip
                      refine wpAny_take (i := 15) (v := (.bool true)) rfl (by kernel_rfl) (by kernel_rfl) (by kernel_rfl) (fun _ _ _ h => h) (Or.inl ⟨by kernel_rfl, ?hq105⟩) ?_
                      case hq105 => (intro w; go_simp; try with_reducible rfl)
                      refine wpAny_take (i := 16) (v := (.bool true)) rfl (by kernel_rfl) (by kernel_rfl) (by kernel_rfl) (fun _ _ _ h => h) (Or.inl ⟨by kernel_rfl, ?hq106⟩) ?_
                      case hq106 => (intro w; go_simp; try with_reducible rfl)
                      refine wpAny_take (i := 17) (v := (.bool true)) rfl (by kernel_rfl) (by kernel_rfl) (by kernel_rfl) (fun _ _ _ h => h) (Or.inl ⟨by kernel_rfl, ?hq107⟩) ?_
                      case hq107 => (intro w; go_simp; try with_reducible rfl)
                      refine wpAny_done (by kernel_rfl) ?_ _
                      go_wp2
                      go_roundw
                      case rel => exact ⟨j + 1, z, by omega, by go_num, rfl, (by omega), HBE3, HT7, HN7, HB7⟩
                      case measure => simp [intOf]; omega
                  · have HBE3 : Hid (BestP nt n L H (2 * k + j + 1) be2) := hide (best_stay HBE2.out (by omega) (by rw [HCD.out]; omega))
                    have hld : decide (z < be2) = false := decide_eq_false hle
                    go_wp2
                    refine wp_region_any (by kernel_rfl) ?_
                    try (change wpAny _ _ _ _ _ _ _ (World.drew _))
                    refine wpAny_take (i := 1) (v := (.slice (some ⟨G, 0, none⟩) 2 2)) rfl (by kernel_rfl) (by kernel_rfl) (by kernel_rfl) (fun _ _ _ h => h) (Or.inl ⟨by kernel_rfl, ?hq108⟩) ?_
                    case hq108 => (intro w; go_simp; try with_reducible rfl)
                    refine wpAny_take (i := 2) (v := (.int .i64 (j : Int))) rfl (by kernel_rfl) (by kernel_rfl) (by kernel_rfl) (fun _ _ _ h => h) (Or.inl ⟨by kernel_rfl, ?hq109⟩) ?_
                    case hq109 => (intro w; go_simp; try with_reducible rfl)
                    refine wpAny_take (i := 3) (v := (.pointer (some ⟨G, j, none⟩))) rfl (by kernel_rfl) (by kernel_rfl) (by kernel_rfl) (fun _ _ _ h => h) (Or.inl ⟨by kernel_rfl, ?hq110⟩) ?_
                    case hq110 => (intro w; go_simp; try with_reducible rfl)
                    refine wpAny_ready (rs := [0, 4]) (by kernel_rfl) (by simp) ?_
                    refine AllReady.cons rfl (fun K hK => ?_) (AllReady.cons rfl (fun K hK => ?_) AllReady.nil)
                    · go_simp
                      first | (refine hK _ _ ?_; clear hK K) | skip
                      refine wpAny_ready (rs := [4]) (by kernel_rfl) (by simp) ?_
                      refine AllReady.cons rfl (fun K hK => ?_) AllReady.nil
                      go_simp
                      first | (refine hK _ _ ?_; clear hK K) | skip
                      refine wpAny_ready (rs := [5]) (by kernel_rfl) (by simp) ?_
                      refine AllReady.cons rfl (fun K hK => ?_) AllReady.nil
                      go_simp
                      go_wp2_with (go_at_call 61; refine (CC.out _ _ (sh_drew1 HB6.out)).mono ?_; rintro e w5 ⟨rfl, hb5⟩; rw [hin]; have HB7 := hide (HB6.out.trans ((below_d1 hb5).mono HB6.out.size)); have HN7 := hide (nodeAt_go HN6.out (below_d1 hb5)); have HT7 := hide (two_go HT6.out (below_d1 hb5)); have t5 := two_at HT7.out hj2; rw [hz] at t5; clear hb5)
                      first | (refine hK _ _ ?_; clear hK K) | skip
                      refine wpAny_take (i := 6) (v := (.bool true)) rfl (by kernel_rfl) (by kernel_rfl) (by kernel_rfl) (fun _ _ _ h => h) (Or.inl ⟨by kernel_rfl, ?hq111⟩) ?_
                      case hq111 => (intro w; go_simp; try with_reducible rfl)
                      refine wpAny_take (i := 7) (v := (.int .i64 be2)) rfl (by kernel_rfl) (by kernel_rfl) (by kernel_rfl) (fun _ _ _ h => h) (Or.inl ⟨by kernel_rfl, ?hq112⟩) ?_
                      case hq112 => (intro w; go_simp; try with_reducible rfl)
                      refine wpAny_take (i := 8) (v := (.bool false)) rfl (by kernel_rfl) (by kernel_rfl) (by kernel_rfl) (fun _ _ _ h => h) (Or.inl ⟨by kernel_rfl, ?hq113⟩) ?_
                      case hq113 => (intro w; go_simp; try with_reducible rfl)
                      refine wpAny_take (i := 9) (v := (.bool false)) rfl (by kernel_rfl) (by kernel_rfl) (by kernel_rfl) (fun _ _ _ h => h) (Or.inl ⟨by kernel_rfl, ?hq114⟩) ?_
                      case hq114 => (intro w; go_simp; try with_reducible rfl)
                      refine wpAny_take (i := 10) (v := (.slice (some ⟨G, 0, none⟩) 2 2)) rfl (by kernel_rfl) (by kernel_rfl) (by kernel_rfl) (fun _ _ _ h => h) (Or.inl ⟨by kernel_rfl, ?hq115⟩) ?_
                      case hq115 => (intro w; go_simp; try with_reducible rfl)
                      refine wpAny_take (i := 11) (v := (.int .i64 (j : Int))) rfl (by kernel_rfl) (by kernel_rfl) (by kernel_rfl) (fun _ _ _ h => h) (Or.inl ⟨by kernel_rfl, ?hq116⟩) ?_
                      case hq116 => (intro w; go_simp; try with_reducible rfl)
                      refine wpAny_take (i := 12) (v := (.pointer (some ⟨G, j, none⟩))) rfl (by kernel_rfl) (by kernel_rfl) (by kernel_rfl) (fun _ _ _ h => h) (Or.inl ⟨by kernel_rfl, ?hq117⟩) ?_
                      case hq117 => (intro w; go_simp; try with_reducible rfl)
                      refine wpAny_take (i := 14) (v := (.int .i64 be2)) rfl (by kernel_rfl) (by kernel_rfl) (by kernel_rfl) (fun _ _ _ h => h) (Or.inl ⟨by kernel_rfl, ?hq118⟩) ?_
                      case hq118 => (intro w; go_simp; try with_reducible rfl)
                      refine wpAny_ready (rs := [13]) (by kernel_rfl) (by simp) ?_
                      refine AllReady.cons rfl (fun K hK => ?_) AllReady.nil
                      go_simp
                      first | (refine hK _ _ ?_; clear hK K) | skip
                      refine wpAny_take (i := 15) (v := (.bool false)) rfl (by kernel_rfl) (by kernel_rfl) (by kernel_rfl) (fun _ _ _ h => h) (Or.inl ⟨by kernel_rfl, ?hq119⟩) ?_
                      case hq119 => (intro w; go_simp; try with_reducible rfl)
                      refine wpAny_take (i := 16) (v := (.bool false)) rfl (by kernel_rfl) (by kernel_rfl) (by kernel_rfl) (fun _ _ _ h => h) (Or.inl ⟨by kernel_rfl, ?hq120⟩) ?_
                      case hq120 => (intro w; go_simp; try with_reducible rfl)
                      refine wpAny_take (i := 17) (v := (.bool false)) rfl (by kernel_rfl) (by kernel_rfl) (by kernel_rfl) (fun _ _ _ h => h) (Or.inl ⟨by kernel_rfl, ?hq121⟩) ?_
                      case hq121 => (intro w; go_simp; try with_reducible rfl)
                      refine wpAny_done (by kernel_rfl) ?_ _
                      go_wp2
                      go_roundw
                      case rel => exact ⟨j + 1, be2, by omega, by go_num, rfl, hbe2, HBE3, HT7, HN7, HB7⟩
                      case measure => simp [intOf]; omega
                    · go_simp
                      first | (refine hK _ _ ?_; clear hK K) | skip
                      refine wpAny_ready (rs := [0]) (by kernel_rfl) (by simp) ?_
                      refine AllReady.cons rfl (fun K hK => ?_) AllReady.nil
                      go_simp
                      first | (refine hK _ _ ?_; clear hK K) | skip
                      refine wpAny_ready (rs := [5]) (by kernel_rfl) (by simp) ?_
                      refine AllReady.cons rfl (fun K hK => ?_) AllReady.nil
                      go_simp
                      go_wp2_with (go_at_call 61; refine (CC.out _ _ (sh_drew1 HB6.out)).mono ?_; rintro e w5 ⟨rfl, hb5⟩; rw [hin]; have HB7 := hide (HB6.out.trans ((below_d1 hb5).mono HB6.out.size)); have HN7 := hide (nodeAt_go HN6.out (below_d1 hb5)); have HT7 := hide (two_go HT6.out (below_d1 hb5)); have t5 := two_at HT7.out hj2; rw [hz] at t5; clear hb5)
                      first | (refine hK _ _ ?_; clear hK K) | skip
                      refine wpAny_take (i := 6) (v := (.bool true)) rfl (by kernel_rfl) (by kernel_rfl) (by kernel_rfl) (fun _ _ _ h => h) (Or.inl ⟨by kernel_rfl, ?hq122⟩) ?_
                      case hq122 => (intro w; go_simp; try with_reducible rfl)
                      refine wpAny_take (i := 7) (v := (.int .i64 be2)) rfl (by kernel_rfl) (by kernel_rfl) (by kernel_rfl) (fun _ _ _ h => h) (Or.inl ⟨by kernel_rfl, ?hq123⟩) ?_
                      case hq123 => (intro w; go_simp; try with_reducible rfl)
                      refine wpAny_take (i := 8) (v := (.bool false)) rfl (by kernel_rfl) (by kernel_rfl) (by kernel_rfl) (fun _ _ _ h => h) (Or.inl ⟨by kernel_rfl, ?hq124⟩) ?_
                      case hq124 => (intro w; go_simp; try with_reducible rfl)
                      refine wpAny_take (i := 9) (v := (.bool false)) rfl (by kernel_rfl) (by kernel_rfl) (by kernel_rfl) (fun _ _ _ h => h) (Or.inl ⟨by kernel_rfl, ?hq125⟩) ?_
                      case hq125 => (intro w; go_simp; try with_reducible rfl)
                      refine wpAny_take (i := 10) (v := (.slice (some ⟨G, 0, none⟩) 2 2)) rfl (by kernel_rfl) (by kernel_rfl) (by kernel_rfl) (fun _ _ _ h => h) (Or.inl ⟨by kernel_rfl, ?hq126⟩) ?_
                      case hq126 => (intro w; go_simp; try with_reducible rfl)
                      refine wpAny_take (i := 11) (v := (.int .i64 (j : Int))) rfl (by kernel_rfl) (by kernel_rfl) (by kernel_rfl) (fun _ _ _ h => h) (Or.inl ⟨by kernel_rfl, ?hq127⟩) ?_
                      case hq127 => (intro w; go_simp; try with_reducible rfl)
                      refine wpAny_take (i := 12) (v := (.pointer (some ⟨G, j, none⟩))) rfl (by kernel_rfl) (by kernel_rfl) (by kernel_rfl) (fun _ _ _ h => h) (Or.inl ⟨by kernel_rfl, ?hq128⟩) ?_
                      case hq128 => (intro w; go_simp; try with_reducible rfl)
                      refine wpAny_take (i := 14) (v := (.int .i64 be2)) rfl (by kernel_rfl) (by kernel_rfl) (by kernel_rfl) (fun _ _ _ h => h) (Or.inl ⟨by kernel_rfl, ?hq129⟩) ?_
                      case hq129 => (intro w; go_simp; try with_reducible rfl)
                      refine wpAny_ready (rs := [13]) (by kernel_rfl) (by simp) ?_
                      refine AllReady.cons rfl (fun K hK => ?_) AllReady.nil
                      go_simp
                      first | (refine hK _ _ ?_; clear hK K) | skip
                      refine wpAny_take (i := 15) (v := (.bool false)) rfl (by kernel_rfl) (by kernel_rfl) (by kernel_rfl) (fun _ _ _ h => h) (Or.inl ⟨by kernel_rfl, ?hq130⟩) ?_
                      case hq130 => (intro w; go_simp; try with_reducible rfl)
                      refine wpAny_take (i := 16) (v := (.bool false)) rfl (by kernel_rfl) (by kernel_rfl) (by kernel_rfl) (fun _ _ _ h => h) (Or.inl ⟨by kernel_rfl, ?hq131⟩) ?_
                      case hq131 => (intro w; go_simp; try with_reducible rfl)
                      refine wpAny_take (i := 17) (v := (.bool false)) rfl (by kernel_rfl) (by kernel_rfl) (by kernel_rfl) (fun _ _ _ h => h) (Or.inl ⟨by kernel_rfl, ?hq132⟩) ?_
                      case hq132 => (intro w; go_simp; try with_reducible rfl)
                      refine wpAny_done (by kernel_rfl) ?_ _
                      go_wp2
                      go_roundw
                      case rel => exact ⟨j + 1, be2, by omega, by go_num, rfl, hbe2, HBE3, HT7, HN7, HB7⟩
                      case measure => simp [intOf]; omega
            · have hje : j = 2 := by omega
              have HBE3 : Hid (BestP nt n L H (2 * (k + 1)) be2) := hide (by have h9 := HBE2.out; rw [hje] at h9; exact h9)
              go_wp2
              go_roundw
              case rel => exact ⟨k + 1, be2, by omega, by go_num, rfl, hbe2, HBE3, HN6, HB6⟩
              case measure => simp [intOf]; omega
      · have hkn : k = n := by omega
        have h9 : BestP nt n L H (2 * n) be := by have := HBE.out; rw [hkn] at this; exact this
        have HV := hide (best_fin HOK.out h0 h9)
        clear h9 hkn
        go_wp2
        go_ret
        exact ⟨by rw [HV.out]; rfl, HB.out⟩
  · have C0 := hide (fun o => CC.out 0 _ (st o))
    rw [h0] at C0
    have HV := hide (best_zero HOK.out h0)
    go_enter Tryd.func48, Tryd.ntmps48
    go_wp2_with (go_at_call 61; refine (C0.out _).mono ?_; rintro e w2 ⟨rfl, hb2⟩; have HB2 := hide ((st _).trans (hb2.mono (st _).size)); clear hb2)
    go_ret
    exact ⟨by rw [HV.out]; rfl, HB2.out⟩
end Go.Proofs.YtepommmmmfaihaaDoor
