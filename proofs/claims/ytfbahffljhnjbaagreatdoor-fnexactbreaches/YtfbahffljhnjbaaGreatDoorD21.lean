/-
  Texts put together: SelI, AppAny.
-/
import Derived.Test.YtfbahffljhnjbaaGreatDoorD20
import Derived.Test.YtfbahffljhnjbaaGreatDoorD5
import Derived.Deep.AppendLies
import Derived.Deep.Upon
/-
  Contracts: the elements below an element, the kids of a name (the program's).
-/
namespace Go.Proofs.YtfbahffljhnjbaaGreatDoor
open Go.RowKit
set_option linter.unusedVariables false
set_option linter.unusedSimpArgs false
/-- A row of numbers in memory of one's own. -/
def IntR (B : Nat) (w : World) (ad : Option Addr) (c : Nat) (L : List Int) : Prop := w.ownsRow B 2 1 (.slice ad L.length c) L.length (L.map (Value.int .i64))
theorem intR_nil (B : Nat) (w : World) : IntR B w none 0 [] := ⟨rfl, .inl ⟨rfl, rfl⟩⟩
theorem intR_put {B : Nat} {w2 : World} {ad : Option Addr} {c : Nat} {L : List Int} {z : Int} (h : w2.ownsRow B 2 1 (.slice ad (L.length + 1) c) (L.length + 1) (L.map (Value.int .i64) ++ [.int .i64 z])) : IntR B w2 ad c (L ++ [z]) := by
  unfold IntR
  rw [List.length_append, List.length_singleton, List.map_append]
  exact h
set_option maxRecDepth 100000 in
set_option maxHeartbeats 2000000 in
theorem i_elementsFrom (D : Dc) (n b off cap : Nat) (w : World) (x : Nat) (hD : D.n = n) (hn : n ≤ 200) (hx : x < n) (hbs : b < w.heap.size) (hr : DcRow w b off D w.heap.size) (hg : Good D n) :
    Calls Tryz.prog 102 #[.slice (some ⟨b, off, none⟩) n cap, .int .i64 x] w fun e w' => ∃ ad c, e = .returned (.slice ad ((x : Int) :: el D x n).length c) ∧ IntR w.heap.size w' ad c ((x : Int) :: el D x n) ∧ Below w.heap.size w w' := by
  obtain ⟨i0, hi, hz0, hz1, hz2⟩ := info_parts info64
  have HD := hide hD
  have HR := hide hr
  have HG := hide hg
  have hxn : (x : Int) < (n : Int) := by omega
  clear hr hD hg
  go_enter Tryz.func102, Tryz.ntmps102
  go_wp2
  go_loopw [5, 6] (fun v iv wr => ∃ (i : Nat) (ad : Option Addr) (c : Nat), x + 1 ≤ i ∧ i ≤ n ∧ iv = .int .i64 i ∧ v = .slice ad ((x : Int) :: el D x i).length c ∧ IntR w.heap.size wr ad c ((x : Int) :: el D x i) ∧ Below w.heap.size w wr ∧ Hid (∀ j, x < j → j < i → (x : Int) ≤ D.U j)) (fun _ iv _ => n - (intOf iv).toNat)
  case atStart =>
    have e : el D x (x + 1) = [] := el_start (x + 1) (Nat.le_refl _)
    refine ⟨x + 1, some ⟨w.heap.size, 0, none⟩, 1, Nat.le_refl _, by omega, by go_num, by rw [e]; rfl, ?_, (Below.refl _ _).alloc (Nat.le_refl _) _, hide (fun j h1 h2 => by omega)⟩
    rw [e]
    exact ⟨rfl, .inr ⟨w.heap.size, 1, #[.int .i64 (x : Int)], rfl, Nat.le_refl _, heap_alloc_new w _, Nat.le_refl _, by unfold maxLen; omega, rfl, rfl⟩⟩
  case round =>
    obtain ⟨i, ad, c, hi1, hi2, rfl, rfl, ho, hb, HU⟩ := hrel
    have HO := hide ho
    have HB := hide hb
    have hkl := el_len D x i
    have hsz : w.heap.size ≤ wr.heap.size := hb.size
    by_cases hlt : i < n
    · obtain ⟨ad9, cp9, hc9, -⟩ := HR.out i (by rw [HD.out]; omega)
      obtain ⟨c0, c1, c2, c3⟩ := dcCells_go hc9 hbs hb
      have hin : (i : Int) < (n : Int) := by omega
      have hi00 : (0 : Int) ≤ (i : Int) := by omega
      clear hc9 ho hb
      by_cases hge : (x : Int) ≤ D.U i
      · have HU2 : Hid (∀ j, x < j → j < i + 1 → (x : Int) ≤ D.U j) := hide (fun j h1 h2 => by
          by_cases e : j = i
          · subst e; exact hge
          · exact HU.out j h1 (by omega))
        have HRC := hide (in_below HG.out (i + 1) i (by omega) (by omega) hlt (fun j h1 h2 => HU2.out j h1 (by omega)))
        cases hE : (D.NM i).toList.isEmpty
        · have HE := hide (el_yes (D := D) ⟨(by omega : x < i), HRC.out, hE⟩)
          obtain ⟨L, hL⟩ : ∃ L, el D x i = L := ⟨_, rfl⟩
          rw [hL] at HE HO hkl ⊢
          clear hL
          obtain ⟨M, hM⟩ : ∃ M, (x : Int) :: L = M := ⟨_, rfl⟩
          have hMl : M.length ≤ 201 := by rw [← hM, List.length_cons]; omega
          rw [hM] at HO ⊢
          have HM := hide hM
          clear hM
          go_wp2_with (at_builtin; refine wpList_append_own _ rfl (.tmp 32) (.tmp 34) 47 rfl w.heap.size 2 i0 (.int .i64 0) 1 8 Tryz.underlying47 hi hz0 hz1 hz2 rfl (by decide) _ _ _ rfl (HO.out.alloc _) ⟨wr.heap.size, 0, none⟩ 1 1 [.int .i64 (i : Int)] rfl rfl (fun j u hj => gOne_new wr _ _ j u hj) (gOne_list _ _) (by unfold maxLen; omega) (by omega) (by simp; omega) ?_; intro v2 w2 hown2 hgrow2 _; obtain ⟨ad2, c2', hv2⟩ := gOwn_shape hown2; rw [hv2] at hown2 ⊢; clear hv2; have HB3 := hide (gBelow_one HB.out HO.out hgrow2); have HO2 := hide hown2; clear hown2 hgrow2)
          go_roundw
          case rel =>
            have e : (x : Int) :: el D x (i + 1) = M ++ [(i : Int)] := by rw [HE.out, ← HM.out]; rfl
            refine ⟨i + 1, ad2, c2', by omega, by omega, by go_num, ?_, ?_, HB3.out, HU2⟩
            · rw [e, List.length_append, List.length_singleton]
            · rw [e]; exact intR_put HO2.out
          case measure => simp [intOf]; omega
        · have HE := hide (el_no (D := D) (x := x) (m := i) (by rw [hE]; simp))
          go_wp2
          go_roundw
          case rel => exact ⟨i + 1, ad, c, by omega, by omega, by go_num, by rw [HE.out], by rw [HE.out]; exact HO.out, HB.out, HU2⟩
          case measure => simp [intOf]; omega
      · have e : el D x n = el D x i := by
          have := el_rest HG.out (show x < i by omega) (by omega) (n - i) (by omega)
          rw [show i + (n - i) = n by omega] at this
          exact this
        have HE := hide e
        have hlo : D.U i < (x : Int) := by omega
        clear e hge
        go_wp2
        go_ret
        exact ⟨ad, c, by rw [HE.out]; rfl, by rw [HE.out]; exact HO.out, HB.out⟩
    · have hin : i = n := by omega
      subst hin
      go_wp2
      go_ret
      exact ⟨ad, c, rfl, ho, hb⟩
theorem kn_take (D : Dc) (L : List Int) (nm : List UInt8) (j : Nat) (h : j < L.length) : ((L.take (j + 1)).filter fun i => (D.NM i.toNat).data.toList == nm) = ((L.take j).filter fun i => (D.NM i.toNat).data.toList == nm) ++ (if ((D.NM (L[j]?.getD 0).toNat).data.toList == nm) = true then [L[j]?.getD 0] else []) := by
  rw [List.take_succ_eq_append_getElem h, List.filter_append, List.getElem?_eq_getElem h]
  congr 1
  rw [List.filter_cons]
  simp only [Option.getD_some, List.filter_nil]
set_option maxRecDepth 100000 in
set_option maxHeartbeats 2000000 in
theorem i_kidsNamed (D : Dc) (n b off cap : Nat) (w : World) (x : Nat) (nm : ByteArray) (hD : D.n = n) (hn : n ≤ 200) (hx : x < n) (hbs : b < w.heap.size) (hr : DcRow w b off D w.heap.size) (hg : Good D n) :
    Calls Tryz.prog 103 #[.slice (some ⟨b, off, none⟩) n cap, .int .i64 x, .string nm] w fun e w' => ∃ ad c, e = .returned (.slice ad (kn D x nm.data.toList).length c) ∧ IntR w.heap.size w' ad c (kn D x nm.data.toList) ∧ Below w.heap.size w w' := by
  obtain ⟨i0, hi, hz0, hz1, hz2⟩ := info_parts info64
  have HR := hide hr
  have CK := hide (i_kidsBelow D n b off cap w x hD hn hx hbs hr hg)
  have hmem := kd_mem (D := D) (x := (x : Int)) n
  have hlen := kd_len D x n
  have hkn : kn D x nm.data.toList = (kd D x n).filter fun i => (D.NM i.toNat).data.toList == nm.data.toList := by unfold kn; rw [hD]
  rw [hkn]
  have HD := hide hD
  obtain ⟨L, hL⟩ : ∃ L, kd D x n = L := ⟨_, rfl⟩
  rw [hL] at CK hmem hlen ⊢
  have HM := hide hmem
  clear hr hD hg hkn hmem hL
  go_enter Tryz.func103, Tryz.ntmps103
  go_wp2_with fail
  refine CK.out.mono ?_
  rintro e w1 ⟨ad, c, rfl, ho, hb⟩
  have HRA := hide (own_rowAt' rfl ho)
  have HB1 := hide hb
  clear ho hb CK
  go_wp2
  go_loopw [7, 14] (fun v iv wr => ∃ (j : Nat) (ad2 : Option Addr) (c2 : Nat), j ≤ L.length ∧ iv = .int .i64 j ∧ v = .slice ad2 ((L.take j).filter fun i => (D.NM i.toNat).data.toList == nm.data.toList).length c2 ∧ IntR w1.heap.size wr ad2 c2 ((L.take j).filter fun i => (D.NM i.toNat).data.toList == nm.data.toList) ∧ Below w1.heap.size w1 wr) (fun _ iv _ => L.length - (intOf iv).toNat)
  case atStart => exact ⟨0, none, 0, Nat.zero_le _, rfl, rfl, intR_nil _ _, Below.refl _ _⟩
  case round =>
    obtain ⟨j, ad2, c2, hj, rfl, rfl, ho, hb⟩ := hrel
    have HO := hide ho
    have HB := hide hb
    have hsz : w1.heap.size ≤ wr.heap.size := hb.size
    by_cases hlt : j < L.length
    · obtain ⟨b9, off9, rfl, hb9, hc9⟩ := HRA.out (fun h => by rw [h] at hlt; exact absurd hlt (Nat.not_lt_zero _))
      have k0 := (hb.cell (p := ⟨b9, off9 + j, none⟩) hb9).trans (hc9 j hlt)
      have HKT := hide (kn_take D L nm.data.toList j hlt)
      obtain ⟨v, hv⟩ : ∃ v, L[j]?.getD 0 = v := ⟨_, rfl⟩
      have hvm := HM.out v (by rw [← hv, List.getElem?_eq_getElem hlt]; exact List.getElem_mem hlt)
      rw [hv] at k0 HKT
      have hwb : Below w.heap.size w wr := HB1.out.trans (hb.mono HB1.out.size)
      obtain ⟨ad8, cp8, hc8, -⟩ := HR.out v.toNat (by rw [HD.out]; omega)
      obtain ⟨c0, c1, c2', c3⟩ := dcCells_go hc8 hbs hwb
      have hjl : (j : Int) < (L.length : Int) := by omega
      have hvn : v < (n : Int) := by omega
      have hv0 : 0 ≤ v := by omega
      obtain ⟨F, hF⟩ : ∃ F, ((L.take j).filter fun i => (D.NM i.toNat).data.toList == nm.data.toList) = F := ⟨_, rfl⟩
      have hFl : F.length ≤ j := by rw [← hF]; exact Nat.le_trans (List.length_filter_le _ _) (by rw [List.length_take]; omega)
      rw [hF] at HO HKT ⊢
      obtain ⟨NV, hNV⟩ : ∃ NV, D.NM v.toNat = NV := ⟨_, rfl⟩
      rw [hNV] at HKT c1
      clear hc9 hv hc8 hF hNV ho hb hwb
      cases hq : (NV.toList == nm.toList)
      · have HE : Hid (((L.take (j + 1)).filter fun i => (D.NM i.toNat).data.toList == nm.data.toList) = F) := hide (by
          rw [HKT.out, if_neg (by rw [ByteArray.toList_eq, ByteArray.toList_eq] at hq; rw [hq]; decide), List.append_nil])
        go_wp2
        go_roundw
        case rel => exact ⟨j + 1, ad2, c2, by omega, by go_num, by rw [HE.out], by rw [HE.out]; exact HO.out, HB.out⟩
        case measure => simp [intOf]; omega
      · have HE : Hid (((L.take (j + 1)).filter fun i => (D.NM i.toNat).data.toList == nm.data.toList) = F ++ [v]) := hide (by
          rw [HKT.out, if_pos (by rw [ByteArray.toList_eq, ByteArray.toList_eq] at hq; exact hq)])
        go_wp2_with (at_builtin; refine wpList_append_own _ rfl (.tmp 25) (.tmp 27) 47 rfl w1.heap.size 2 i0 (.int .i64 0) 1 8 Tryz.underlying47 hi hz0 hz1 hz2 rfl (by decide) _ _ _ rfl (HO.out.alloc _) ⟨wr.heap.size, 0, none⟩ 1 1 [.int .i64 v] rfl rfl (fun j u hj => gOne_new wr _ _ j u hj) (gOne_list _ _) (by unfold maxLen; omega) (by omega) (by simp; omega) ?_; intro v2 w2 hown2 hgrow2 _; obtain ⟨ad3, c3', hv2⟩ := gOwn_shape hown2; rw [hv2] at hown2 ⊢; clear hv2; have HB3 := hide (gBelow_one HB.out HO.out hgrow2); have HO2 := hide hown2; clear hown2 hgrow2)
        go_roundw
        case rel =>
          refine ⟨j + 1, ad3, c3', by omega, by go_num, ?_, ?_, HB3.out⟩
          · rw [HE.out, List.length_append, List.length_singleton]
          · rw [HE.out]; exact intR_put HO2.out
        case measure => simp [intOf]; omega
    · have hjn : j = L.length := by omega
      subst hjn
      rw [List.take_length] at ho ⊢
      have HO2 := hide ho
      clear ho
      go_wp2
      go_ret
      exact ⟨ad2, c2, rfl, gOwn_lower HO2.out HB1.out.size, HB1.out.trans (HB.out.mono HB1.out.size)⟩
end Go.Proofs.YtfbahffljhnjbaaGreatDoor

/-
  Plain facts: an append of anything that lies in memory, or of nothing (SpRows and SpA have them too, under other names).
-/
namespace Go.Proofs.YtfbahffljhnjbaaGreatDoor
open Go.RowKit
set_option linter.unusedVariables false
set_option linter.unusedSimpArgs false
/-- An append, be there something to append or nothing. -/
theorem wp_append_src {P : Program} {w : World} {o : Oper} {a : Act} {K : Act → World → Prop} {Q : Exit → Act → World → Prop} (s x : Operand) (t : TypeId)
    (ho : o.op = .call { callee := .builtin .append, args := #[s, x], argTypes := #[t, t] })
    (base : Nat) (e : TypeId) (i : TypeInfo) (z : Value) (size bytes : Nat) (ht : P.underlying t = some (.slice e)) (hi : P.info? e = some i) (hz : i.zero = some z)
    (hsize : i.size = size) (hby : i.bytes = bytes) (hzs : z.cells.size = size) (hsz : 0 < size)
    (v : Value) (n : Nat) (xs : List Value) (hs : a.eval s = v) (hown : w.ownsRow base e size v n xs)
    (xa : Option Addr) (m c : Nat) (news : List Value) (hx : a.eval x = .slice xa m c) (hl : news.length = m * size) (hnews : 0 < m → ∃ ad, xa = some ad ∧ ∀ j u, news[j]? = some u → w.cell? (ad.add j) = some u) (h1 : ∀ u ∈ news, u.oneCell' = true)
    (h63 : n + m ≤ maxLen) (hbytes : (n + m) * bytes ≤ 140737488355328) (hbase : base ≤ w.heap.size)
    (h : ∀ a' c' w', w'.ownsRow base e size (.slice a' (n + m) c') (n + m) (xs ++ news) → w.grownBy w' v.ownBlock → K (a.put o.dst (.slice a' (n + m) c')) w') : o.wp P a w K Q := by
  by_cases hm : 0 < m
  · obtain ⟨ad, rfl, hnw⟩ := hnews hm
    exact wp_append_lies w s x t ho base e i z size bytes ht hi hz hsize hby hzs hsz v n xs hs hown ad m c news hx hl hnw h1 hm h63 hbytes hbase _ rfl (fun g cap w' k1 k2 _ _ => h _ _ w' k1 k2)
  · obtain rfl : m = 0 := by omega
    rw [Nat.zero_mul] at hl
    obtain rfl : news = [] := List.length_eq_zero_iff.1 hl
    have hv : ∃ a' c', v = .slice a' n c' ∧ n ≤ c' := by
      rcases hown.2 with ⟨rfl, rfl⟩ | ⟨g, cap, cur, rfl, _, _, hc, _⟩
      · exact ⟨none, 0, rfl, Nat.le_refl _⟩
      · exact ⟨_, cap, rfl, hc⟩
    obtain ⟨a', c', rfl, hc⟩ := hv
    have hsrc : Src P i.size t (.slice xa 0 c) 0 [] w := by
      cases xa with
      | none => exact Src.ofNil w ht c
      | some ad => exact Src.ofSlice w ht ad 0 c [] (by simp) (fun j u hj => by simp at hj) (fun u hu => by cases hu)
    have hr := run_append_nothing (P := P) w t t o.type e i ht hi a' n c' hc (.slice xa 0 c) hsrc
    unfold Oper.wp execOp
    simp only [ho, resolve, invoke, builtin, Sem.run_bind, Sem.run_pure, Result.andThen_ok, List.map_toArray, List.map_cons, List.map_nil, hs, hx, hr]
    exact h a' c' w (by rw [List.append_nil]; exact hown) ⟨rfl, rfl, rfl, Nat.le_refl _, fun _ _ _ => rfl⟩
/-- The same at a list of operations. -/
theorem wpList_append_src {P : Program} {w : World} {ops : Array Oper} {rest : List Oper} {o : Oper} {a : Act} {Q : Exit → Act → World → Prop} (hgd : o.guard = none) (s x : Operand) (t : TypeId)
    (ho : o.op = .call { callee := .builtin .append, args := #[s, x], argTypes := #[t, t] })
    (base : Nat) (e : TypeId) (i : TypeInfo) (z : Value) (size bytes : Nat) (ht : P.underlying t = some (.slice e)) (hi : P.info? e = some i) (hz : i.zero = some z)
    (hsize : i.size = size) (hby : i.bytes = bytes) (hzs : z.cells.size = size) (hsz : 0 < size)
    (v : Value) (n : Nat) (xs : List Value) (hs : a.eval s = v) (hown : w.ownsRow base e size v n xs)
    (xa : Option Addr) (m c : Nat) (news : List Value) (hx : a.eval x = .slice xa m c) (hl : news.length = m * size) (hnews : 0 < m → ∃ ad, xa = some ad ∧ ∀ j u, news[j]? = some u → w.cell? (ad.add j) = some u) (h1 : ∀ u ∈ news, u.oneCell' = true)
    (h63 : n + m ≤ maxLen) (hbytes : (n + m) * bytes ≤ 140737488355328) (hbase : base ≤ w.heap.size)
    (h : ∀ a' c' w', w'.ownsRow base e size (.slice a' (n + m) c') (n + m) (xs ++ news) → w.grownBy w' v.ownBlock → wpList P ops Q rest (a.put o.dst (.slice a' (n + m) c')) w') : wpList P ops Q (o :: rest) a w :=
  wpList_plain hgd fun _ hK => wp_append_src s x t ho base e i z size bytes ht hi hz hsize hby hzs hsz v n xs hs hown xa m c news hx hl hnews h1 h63 hbytes hbase fun a' c' w' h2 h3 => hK _ _ (h a' c' w' h2 h3)
/-- What an append reads of a row of numbers. -/
theorem row_src {w : World} {b off : Nat} {L : List Int} (h : ∀ j, j < L.length → w.cell? ⟨b, off + j, none⟩ = some (.int .i64 (L[j]?.getD 0))) : ∀ j u, (L.map (Value.int .i64))[j]? = some u → w.cell? ((⟨b, off, none⟩ : Addr).add j) = some u := by
  intro j u hu
  have hadd : (⟨b, off, none⟩ : Addr).add j = ⟨b, off + j, none⟩ := by unfold Addr.add; split <;> simp_all
  have hj : j < L.length := by
    rcases Nat.lt_or_ge j L.length with h' | h'
    · exact h'
    · rw [List.getElem?_eq_none (by rw [List.length_map]; exact h')] at hu; cases hu
  rw [hadd, h j hj]
  rw [List.getElem?_map, List.getElem?_eq_getElem hj] at hu
  rw [List.getElem?_eq_getElem hj]
  simpa using hu
theorem ints_one (L : List Int) : ∀ u ∈ L.map (Value.int .i64), u.oneCell' = true := by
  intro u hu
  obtain ⟨z, -, rfl⟩ := List.mem_map.1 hu
  rfl
end Go.Proofs.YtfbahffljhnjbaaGreatDoor
