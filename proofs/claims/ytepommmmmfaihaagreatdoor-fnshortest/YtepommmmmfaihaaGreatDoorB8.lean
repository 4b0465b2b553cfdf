/-
  Texts put together: ShJ, AppAny.
-/
import Derived.Test.YtepommmmmfaihaaGreatDoorB7
import Derived.Deep.AppendLies
import Derived.Deep.Upon
/-
  Contract of the program: impl.leastOf.
-/
namespace Go.Proofs.YtepommmmmfaihaaGreatDoor
open Go.RowKit Go.Joins
set_option linter.unusedVariables false
set_option linter.unusedSimpArgs false
theorem info64S : (Tryz.prog.info? 2).map (fun i => (i.zero, i.size, i.bytes)) = some (some (.int .i64 0), 1, 8) := by kernel_rfl
theorem ir_below {B : Nat} {wr w2 : World} {o p : Obj} {e : TypeId} {z : Nat} {ad : Option Addr} {n c : Nat} {xs : List Value} (hB : B ≤ wr.heap.size) (hown : wr.ownsRow B e z (.slice ad n c) n xs)
    (hg : ((wr.alloc o).alloc p).grownBy w2 (Value.slice ad n c).ownBlock) : Below B wr w2 := by
  have h2 : Below B wr ((wr.alloc o).alloc p) := ((Below.refl _ _).alloc hB o).alloc (by simp; omega) p
  refine h2.grown hg (by simp; omega) fun j hj => ?_
  rcases hown.2 with ⟨hv, h0⟩ | ⟨g, cap, cur, hv, hBg, rest⟩
  · rw [hv] at hj
    simp [Value.ownBlock] at hj
  · rw [hv] at hj
    simp [Value.ownBlock] at hj
    omega
theorem ir_two (w : World) (o : Obj) (x y : Int) (T : TypeId) (j : Nat) (u : Value) (hj : [Value.int .i64 x, Value.int .i64 y][j]? = some u) : ((w.alloc o).alloc (.cells #[.int .i64 x, .int .i64 y] T)).cell? ((⟨w.heap.size + 1, 0, none⟩ : Addr).add j) = some u := by
  have h := gTwo_new (w.alloc o) (.int .i64 x) (.int .i64 y) T j u hj
  rwa [World.size_alloc] at h
theorem ir_ones (x y : Int) : ∀ u ∈ [Value.int .i64 x, Value.int .i64 y], u.oneCell' = true := by
  intro u hu
  simp at hu
  rcases hu with rfl | rfl <;> rfl
theorem ir_at {B : Nat} {w : World} {ad : Option Addr} {c : Nat} {L : List Int} (h : IR B w ad c L) (j : Nat) (hj : j < L.length) : ∃ g, ad = some ⟨g, 0, none⟩ ∧ g < w.heap.size ∧ w.cell? ⟨g, j, none⟩ = some (.int .i64 (L[j]?.getD 0)) := by
  have h2 : w.ownsRow B 2 1 (.slice ad L.length c) L.length (L.map (Value.int .i64)) := h
  rcases h.2 with ⟨e, h0⟩ | ⟨g, cap, cur, e, -, hg, -⟩
  · omega
  · simp only [Value.slice.injEq] at e
    obtain ⟨rfl, -⟩ := e
    refine ⟨g, rfl, (Array.getElem?_eq_some_iff.1 hg).1, ?_⟩
    rw [h2.cellAt j (by omega), List.getElem?_map, List.getElem?_eq_getElem hj]
    rfl
set_option maxRecDepth 100000 in
set_option maxHeartbeats 8000000 in
theorem i_least (nt : Bool) (ad : Option Addr) (n cp : Nat) (A B mn mx : Int) (L H : Nat → Int) (w : World) (hok : RgOk n L H) (hr : RngAt w ad n L H w.heap.size) :
    Calls Tryz.prog 55 #[.agg #[.int .i64 2, .bool nt, .slice ad n cp, .int .i64 A, .int .i64 B, .int .i64 mn, .int .i64 mx]] w fun e w' => e = .returned (.tuple #[.int .i64 ((leC nt n L H).getD 0), .bool (leC nt n L H).isSome]) ∧ Below w.heap.size w w' := by
  obtain ⟨i0, hi, hz0, hz1, hz2⟩ := info_parts info64S
  have HOK := hide hok
  have h12 : n ≤ 12 := hok.2.1
  have h1n : 1 ≤ n := hok.1
  have HR := hide hr
  obtain ⟨b, off, rfl, hb, hrow⟩ := hr (by omega)
  have HROW := hide hrow
  have CC : Hid (∀ (r : Int) (w2 : World), Below w.heap.size w w2 → Calls Tryz.prog 70 #[.agg #[.int .i64 2, .bool nt, .slice (some ⟨b, off, none⟩) n cp, .int .i64 A, .int .i64 B, .int .i64 mn, .int .i64 mx], .int .i64 r] w2 fun e w' => e = .returned (.bool (inC nt n L H r)) ∧ Below w2.heap.size w2 w') := hide (fun r w2 h => i_inC 2 nt (some ⟨b, off, none⟩) n cp A B mn mx L H r w2 (by unfold maxLen; omega) (rngAt_up (rngAt_go HR.out h) h.size))
  have HN0 : Hid (∀ T o, NodeAt ((w.alloc (.cells #[.int .i64 2, .bool nt, .slice (some ⟨b, off, none⟩) n cp, .int .i64 A, .int .i64 B, .int .i64 mn, .int .i64 mx] T)).alloc o) w.heap.size 2 nt (some ⟨b, off, none⟩) n cp A B mn mx) := hide (fun T o => nodeAt_go (nodeAt_new w 2 nt (some ⟨b, off, none⟩) n cp A B mn mx T) ((Below.refl _ _).alloc (Nat.le_refl _) o))
  have HB0 : Hid (∀ o p, Below w.heap.size w ((w.alloc o).alloc p)) := hide (fun o p => ((Below.refl _ _).alloc (Nat.le_refl _) o).alloc (by simp) p)
  have HI0 : Hid (∀ o, IR (w.heap.size + 1) ((w.alloc o).alloc (.cells #[.int .i64 0, .int .i64 57344] 2)) (some ⟨w.heap.size + 1, 0, none⟩) 2 [0, 57344]) := hide (fun o => ⟨rfl, .inr ⟨w.heap.size + 1, 2, #[.int .i64 0, .int .i64 57344], rfl, Nat.le_refl _, by have h9 := heap_alloc_new (w.alloc o) (.cells #[.int .i64 0, .int .i64 57344] 2); rwa [World.size_alloc] at h9, Nat.le_refl _, by unfold maxLen; omega, rfl, rfl⟩⟩)
  clear hr hrow hok
  go_enter Tryz.func55, Tryz.ntmps55
  go_wp2
  go_loopw [4, 13] (fun sv iv wr => ∃ (k c : Nat) (a2 : Option Addr), k ≤ n ∧ iv = .int .i64 k ∧ sv = .slice a2 (2 * k + 2) c ∧ Hid (IR (w.heap.size + 1) wr a2 c (cdI L H k)) ∧ Hid (NodeAt wr w.heap.size 2 nt (some ⟨b, off, none⟩) n cp A B mn mx) ∧ Hid (Below w.heap.size w wr)) (fun _ iv _ => n - (intOf iv).toNat)
  case atStart => exact ⟨0, 2, some ⟨w.heap.size + 1, 0, none⟩, Nat.zero_le _, rfl, rfl, HI0.out _, HN0.out _ _, HB0.out _ _⟩
  case round =>
    obtain ⟨k, c, a2, hk, rfl, rfl, HI, HN, HB⟩ := hrel
    obtain ⟨n0, n1, n2, n3, n4, n5, n6⟩ := nodeAt_cells HN.out
    have hGw : w.heap.size < wr.heap.size := nodeAt_lt HN.out
    by_cases hlt : k < n
    · have hki : (k : Int) < n := by omega
      obtain ⟨x0, x1⟩ := HROW.out k hlt
      have y0 := (HB.out.cell (p := ⟨b, off + k * 2, none⟩) hb).trans x0
      have y1 := (HB.out.cell (p := ⟨b, off + k * 2 + 1, none⟩) hb).trans x1
      have hch := HOK.out.2.2 k hlt
      have hcl := chB_cases hch.1
      have hchh := chB_cases hch.2.1
      obtain ⟨l, hl⟩ : ∃ l, L k = l := ⟨_, rfl⟩
      obtain ⟨h, hh⟩ : ∃ h, H k = h := ⟨_, rfl⟩
      rw [hl] at y0 hcl
      rw [hh] at y1 hchh
      have HLH : Hid (cdI L H (k + 1) = cdI L H k ++ [l, h + 1]) := hide (by rw [cdI, hl, hh])
      have hwr : IntKind.i64.wrap (h + 1) = h + 1 := by rw [IntKind.wrap_i64]; omega
      have HO : Hid (wr.ownsRow (w.heap.size + 1) 2 1 (.slice a2 (2 * k + 2) c) (2 * k + 2) ((cdI L H k).map (Value.int .i64))) := hide (by have h9 : wr.ownsRow _ _ _ _ _ _ := HI.out; rw [cdI_len] at h9; exact h9)
      clear x0 x1 hch hl hh
      go_wp2_with (first | (at_builtin; refine wpList_append_own _ rfl (.tmp 17) (.tmp 23) 31 rfl (w.heap.size + 1) 2 i0 (.int .i64 0) 1 8 Tryz.underlying31 hi hz0 hz1 hz2 rfl (by decide) _ _ _ rfl ((HO.out.alloc _).alloc _) ⟨wr.heap.size + 1, 0, none⟩ 2 2 [.int .i64 l, .int .i64 (h + 1)] rfl rfl (fun j u hj => ir_two wr _ _ _ _ j u hj) (ir_ones _ _) (by unfold maxLen; omega) (by omega) (by simp; omega) ?_; intro v2 w7 hown2 hgrow2 _; obtain ⟨ad2, c2', hv2⟩ := gOwn_shape hown2; rw [hv2] at hown2 ⊢; clear hv2; have hb7 := ir_below (by omega) HO.out hgrow2; have HB7 := hide (HB.out.trans (hb7.mono (by omega))); have HN7 := hide (nodeAt_at HN.out hb7 (by omega)); have HO7 := hide hown2; clear hown2 hgrow2 hb7))
      go_roundw
      case rel => exact ⟨k + 1, c2', ad2, by omega, by go_num, by first | rfl | (simp; omega), hide (by unfold IR; rw [HLH.out, List.length_append, cdI_len, List.map_append]; exact HO7.out), HN7, HB7⟩
      case measure => simp [intOf]; omega
    · have hkn : k = n := by omega
      subst hkn
      have CS := hide (i_sortG (w.heap.size + 1) a2 c (cdI L H k) wr HI.out (by rw [cdI_len]; omega) (by rw [cdI_len]; omega))
      rw [cdI_len] at CS
      go_wp2_with fail
      refine CS.out.mono ?_
      rintro e w5 ⟨rfl, hi5, hb5⟩
      have HI5 := hide hi5
      have hb6 := hb5 wr (Below.refl _ _)
      have HB5 := hide (HB.out.trans (hb6.mono (by omega)))
      have HN5 := hide (nodeAt_at HN.out hb6 (by omega))
      clear hi5 hb5 hb6 CS
      obtain ⟨M, hMe⟩ : ∃ M, srG (cdI L H k) = M := ⟨_, rfl⟩
      obtain ⟨m, hm⟩ : ∃ m : Nat, 2 * k + 2 = m := ⟨_, rfl⟩
      have HMc : Hid (∀ y, CandS k L H y → y ∈ M) := hide (fun y hy => hMe ▸ srG_mem.2 (cdI_has hy))
      have HMo : Hid (M.Pairwise (fun a b => a ≤ b)) := hide (hMe ▸ srG_ord _)
      have HML : Hid (M.length = m) := hide (by rw [← hMe, ← hm, srG_len, cdI_len])
      have HI6 : Hid (IR (w.heap.size + 1) w5 a2 c M) := hide (by have h9 := HI5.out; rw [hMe] at h9; exact h9)
      have hm9 : m ≤ 30 := by omega
      have hm0 : 0 < m := by omega
      obtain ⟨g, rfl, -, -⟩ := ir_at HI6.out 0 (by rw [HML.out]; omega)
      clear HI5 hMe HI n0 n1 n2 n3 n4 n5 n6
      rw [hm]
      clear hm
      go_wp2_with fail
      go_loopw [30] (fun iv wr2 => ∃ j : Nat, j ≤ m ∧ iv = .int .i64 j ∧ Hid (∀ i, i < j → inC nt k L H (M[i]?.getD 0) = false) ∧ Hid (IR (w.heap.size + 1) wr2 (some ⟨g, 0, none⟩) c M) ∧ Hid (NodeAt wr2 w.heap.size 2 nt (some ⟨b, off, none⟩) k cp A B mn mx) ∧ Hid (Below w.heap.size w wr2)) (fun iv _ => m - (intOf iv).toNat)
      case atStart => exact ⟨0, Nat.zero_le _, rfl, hide (fun i hi => absurd hi (Nat.not_lt_zero _)), HI6, HN5, HB5⟩
      case round =>
        obtain ⟨j, hj, rfl, HJ, HI7, HN7, HB7⟩ := hrel
        obtain ⟨n0, n1, n2, n3, n4, n5, n6⟩ := nodeAt_cells HN7.out
        by_cases hlt2 : j < m
        · have hji : (j : Int) < m := by omega
          obtain ⟨g2, hge, hg2, hc2⟩ := ir_at HI7.out j (by rw [HML.out]; exact hlt2)
          obtain rfl : g2 = g := by simp at hge; exact hge.symm
          obtain ⟨r, hr⟩ : ∃ r, M[j]?.getD 0 = r := ⟨_, rfl⟩
          rw [hr] at hc2
          have HRr := hide hr
          clear hr hge
          have C := hide (fun w3 h3 => CC.out r w3 h3)
          by_cases hin : inC nt k L H r = true
          · have HLe : leC nt k L H = some r := by
              have h9 := le_first HOK.out HMc.out HMo.out (j := j) (by rw [HML.out]; exact hlt2) (by rw [HRr.out]; exact hin) HJ.out
              rw [HRr.out] at h9
              exact h9
            go_wp2_with fail
            refine (C.out _ HB7.out).mono ?_
            rintro e w8 ⟨rfl, hb8⟩
            rw [hin]
            have HB8 := hide (HB7.out.trans (hb8.mono HB7.out.size))
            clear hb8
            have HLh := hide HLe
            clear HLe
            go_wp2
            exact bodyPost_ret (v := .tuple #[.int .i64 r, .bool true]) (by simp [results, Tryz.results55, go_sem]) rfl ⟨by rw [HLh.out]; rfl, HB8.out⟩
          · have hin2 : inC nt k L H r = false := by simpa using hin
            go_wp2_with fail
            refine (C.out _ HB7.out).mono ?_
            rintro e w8 ⟨rfl, hb8⟩
            rw [hin2]
            have HB8 := hide (HB7.out.trans (hb8.mono HB7.out.size))
            have HN8 := hide (nodeAt_go HN7.out hb8)
            have HI8 : Hid (IR (w.heap.size + 1) w8 (some ⟨g2, 0, none⟩) c M) := hide (gOwn_after HI7.out hb8)
            clear hb8
            go_wp2
            exact ⟨⟨j + 1, by omega, by go_num, hide (fun i hi => (Nat.lt_succ_iff_lt_or_eq.1 hi).elim (HJ.out i) (fun e => by rw [e, HRr.out]; exact hin2)), HI8, HN8, HB8⟩, by simp [intOf]; omega⟩
        · have hjm : j = m := by omega
          subst hjm
          have HLh : Hid (leC nt k L H = none) := hide (le_nofirst HOK.out HMc.out (fun i hi => HJ.out i (by rw [← HML.out]; exact hi)))
          go_wp2
          exact bodyPost_ret (v := .tuple #[.int .i64 0, .bool false]) (by simp [results, Tryz.results55, go_sem]) rfl ⟨by rw [HLh.out]; rfl, HB7.out⟩
end Go.Proofs.YtepommmmmfaihaaGreatDoor

/-
  Plain facts: an append of anything that lies in memory, or of nothing (SpRows and SpA have them too, under other names).
-/
namespace Go.Proofs.YtepommmmmfaihaaGreatDoor
open Go.RowKit
set_option linter.unusedVariables false
set_option linter.unusedSimpArgs false
/-- An append, be there something to append or nothing. -/
theorem wp_append_src {P : Program} {w : World} {o : Oper} {a : Act} {K : Act → World → Prop} {Q : Exit → Act → World → Prop} (s x : Operand) (t : TypeId)
    (ho : o.op = .call { callee := .builtin .append, args := #[s, x], argTypes := #[t, t] })
    (base : Nat) (e : TypeId) (i : TypeInfo) (z : Value) (size bytes : Nat) (ht : P.underlying t = some (.slice e)) (hi : P.info? e = some i) (hz : i.zero = some z)
    (hsize : i.size = size) (hby : i.bytes = bytes) (hzs : z.cells.size = size) (hsz : 0 < size)
    (v : Value) (n : Nat) (xs : List Value) (hs : a.eval s = v) (hown : w.ownsRow base e size v n xs)
    (xa : Option Addr) (m c : Nat) (news : List Value) (hx : a.eval x = .slice xa m c) (hl : news.length = m * size) (hnews : 0 < m → ∃ ad, xa = some ad ∧ ∀ j u, news[j]? = some u → w.cell? (ad.add j) = some u) (h1 : ∀ u ∈ news, u.oneCell' = true)
    (h63 : n + m ≤ maxLen) (hbytes : (n + m) * bytes ≤ 140737488355328) (hbase : base ≤ w.heap.size)
    (h : ∀ a' c' w', w'.ownsRow base e size (.slice a' (n + m) c') (n + m) (xs ++ news) → w.grownBy w' v.ownBlock → K (a.put o.dst (.slice a' (n + m) c')) w') : o.wp P a w K Q := by
  by_cases hm : 0 < m
  · obtain ⟨ad, rfl, hnw⟩ := hnews hm
    exact wp_append_lies w s x t ho base e i z size bytes ht hi hz hsize hby hzs hsz v n xs hs hown ad m c news hx hl hnw h1 hm h63 hbytes hbase _ rfl (fun g cap w' k1 k2 _ _ => h _ _ w' k1 k2)
  · obtain rfl : m = 0 := by omega
    rw [Nat.zero_mul] at hl
    obtain rfl : news = [] := List.length_eq_zero_iff.1 hl
    have hv : ∃ a' c', v = .slice a' n c' ∧ n ≤ c' := by
      rcases hown.2 with ⟨rfl, rfl⟩ | ⟨g, cap, cur, rfl, _, _, hc, _⟩
      · exact ⟨none, 0, rfl, Nat.le_refl _⟩
      · exact ⟨_, cap, rfl, hc⟩
    obtain ⟨a', c', rfl, hc⟩ := hv
    have hsrc : Src P i.size t (.slice xa 0 c) 0 [] w := by
      cases xa with
      | none => exact Src.ofNil w ht c
      | some ad => exact Src.ofSlice w ht ad 0 c [] (by simp) (fun j u hj => by simp at hj) (fun u hu => by cases hu)
    have hr := run_append_nothing (P := P) w t t o.type e i ht hi a' n c' hc (.slice xa 0 c) hsrc
    unfold Oper.wp execOp
    simp only [ho, resolve, invoke, builtin, Sem.run_bind, Sem.run_pure, Result.andThen_ok, List.map_toArray, List.map_cons, List.map_nil, hs, hx, hr]
    exact h a' c' w (by rw [List.append_nil]; exact hown) ⟨rfl, rfl, rfl, Nat.le_refl _, fun _ _ _ => rfl⟩
/-- The same at a list of operations. -/
theorem wpList_append_src {P : Program} {w : World} {ops : Array Oper} {rest : List Oper} {o : Oper} {a : Act} {Q : Exit → Act → World → Prop} (hgd : o.guard = none) (s x : Operand) (t : TypeId)
    (ho : o.op = .call { callee := .builtin .append, args := #[s, x], argTypes := #[t, t] })
    (base : Nat) (e : TypeId) (i : TypeInfo) (z : Value) (size bytes : Nat) (ht : P.underlying t = some (.slice e)) (hi : P.info? e = some i) (hz : i.zero = some z)
    (hsize : i.size = size) (hby : i.bytes = bytes) (hzs : z.cells.size = size) (hsz : 0 < size)
    (v : Value) (n : Nat) (xs : List Value) (hs : a.eval s = v) (hown : w.ownsRow base e size v n xs)
    (xa : Option Addr) (m c : Nat) (news : List Value) (hx : a.eval x = .slice xa m c) (hl : news.length = m * size) (hnews : 0 < m → ∃ ad, xa = some ad ∧ ∀ j u, news[j]? = some u → w.cell? (ad.add j) = some u) (h1 : ∀ u ∈ news, u.oneCell' = true)
    (h63 : n + m ≤ maxLen) (hbytes : (n + m) * bytes ≤ 140737488355328) (hbase : base ≤ w.heap.size)
    (h : ∀ a' c' w', w'.ownsRow base e size (.slice a' (n + m) c') (n + m) (xs ++ news) → w.grownBy w' v.ownBlock → wpList P ops Q rest (a.put o.dst (.slice a' (n + m) c')) w') : wpList P ops Q (o :: rest) a w :=
  wpList_plain hgd fun _ hK => wp_append_src s x t ho base e i z size bytes ht hi hz hsize hby hzs hsz v n xs hs hown xa m c news hx hl hnews h1 h63 hbytes hbase fun a' c' w' h2 h3 => hK _ _ (h a' c' w' h2 h3)
/-- What an append reads of a row of numbers. -/
theorem row_src {w : World} {b off : Nat} {L : List Int} (h : ∀ j, j < L.length → w.cell? ⟨b, off + j, none⟩ = some (.int .i64 (L[j]?.getD 0))) : ∀ j u, (L.map (Value.int .i64))[j]? = some u → w.cell? ((⟨b, off, none⟩ : Addr).add j) = some u := by
  intro j u hu
  have hadd : (⟨b, off, none⟩ : Addr).add j = ⟨b, off + j, none⟩ := by unfold Addr.add; split <;> simp_all
  have hj : j < L.length := by
    rcases Nat.lt_or_ge j L.length with h' | h'
    · exact h'
    · rw [List.getElem?_eq_none (by rw [List.length_map]; exact h')] at hu; cases hu
  rw [hadd, h j hj]
  rw [List.getElem?_map, List.getElem?_eq_getElem hj] at hu
  rw [List.getElem?_eq_getElem hj]
  simpa using hu
theorem ints_one (L : List Int) : ∀ u ∈ L.map (Value.int .i64), u.oneCell' = true := by
  intro u hu
  obtain ⟨z, -, rfl⟩ := List.mem_map.1 hu
  rfl
end Go.Proofs.YtepommmmmfaihaaGreatDoor
