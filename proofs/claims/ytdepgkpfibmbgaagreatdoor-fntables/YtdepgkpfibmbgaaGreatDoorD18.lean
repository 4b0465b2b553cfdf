/-
  Texts put together: SelI, SelS.
-/
import Derived.Test.YtdepgkpfibmbgaaGreatDoorD17
import Derived.Test.YtdepgkpfibmbgaaGreatDoorD2
import Derived.Test.YtdepgkpfibmbgaaGreatDoorD9
import Derived.BigQuiet
/-
  Contracts: the elements below an element, the kids of a name (the program's).
-/
namespace Go.Proofs.YtdepgkpfibmbgaaGreatDoor
open Go.RowKit
set_option linter.unusedVariables false
set_option linter.unusedSimpArgs false
/-- A row of numbers in memory of one's own. -/
def IntR (B : Nat) (w : World) (ad : Option Addr) (c : Nat) (L : List Int) : Prop := w.ownsRow B 2 1 (.slice ad L.length c) L.length (L.map (Value.int .i64))
theorem intR_nil (B : Nat) (w : World) : IntR B w none 0 [] := ⟨rfl, .inl ⟨rfl, rfl⟩⟩
theorem intR_put {B : Nat} {w2 : World} {ad : Option Addr} {c : Nat} {L : List Int} {z : Int} (h : w2.ownsRow B 2 1 (.slice ad (L.length + 1) c) (L.length + 1) (L.map (Value.int .i64) ++ [.int .i64 z])) : IntR B w2 ad c (L ++ [z]) := by
  unfold IntR
  rw [List.length_append, List.length_singleton, List.map_append]
  exact h
set_option maxRecDepth 100000 in
set_option maxHeartbeats 2000000 in
theorem i_elementsFrom (D : Dc) (n b off cap : Nat) (w : World) (x : Nat) (hD : D.n = n) (hn : n ≤ 200) (hx : x < n) (hbs : b < w.heap.size) (hr : DcRow w b off D w.heap.size) (hg : Good D n) :
    Calls Tryz.prog 57 #[.slice (some ⟨b, off, none⟩) n cap, .int .i64 x] w fun e w' => ∃ ad c, e = .returned (.slice ad ((x : Int) :: el D x n).length c) ∧ IntR w.heap.size w' ad c ((x : Int) :: el D x n) ∧ Below w.heap.size w w' := by
  obtain ⟨i0, hi, hz0, hz1, hz2⟩ := info_parts info64
  have HD := hide hD
  have HR := hide hr
  have HG := hide hg
  have hxn : (x : Int) < (n : Int) := by omega
  clear hr hD hg
  go_enter Tryz.func57, Tryz.ntmps57
  go_wp2
  go_loopw [5, 6] (fun v iv wr => ∃ (i : Nat) (ad : Option Addr) (c : Nat), x + 1 ≤ i ∧ i ≤ n ∧ iv = .int .i64 i ∧ v = .slice ad ((x : Int) :: el D x i).length c ∧ IntR w.heap.size wr ad c ((x : Int) :: el D x i) ∧ Below w.heap.size w wr ∧ Hid (∀ j, x < j → j < i → (x : Int) ≤ D.U j)) (fun _ iv _ => n - (intOf iv).toNat)
  case atStart =>
    have e : el D x (x + 1) = [] := el_start (x + 1) (Nat.le_refl _)
    refine ⟨x + 1, some ⟨w.heap.size, 0, none⟩, 1, Nat.le_refl _, by omega, by go_num, by rw [e]; rfl, ?_, (Below.refl _ _).alloc (Nat.le_refl _) _, hide (fun j h1 h2 => by omega)⟩
    rw [e]
    exact ⟨rfl, .inr ⟨w.heap.size, 1, #[.int .i64 (x : Int)], rfl, Nat.le_refl _, heap_alloc_new w _, Nat.le_refl _, by unfold maxLen; omega, rfl, rfl⟩⟩
  case round =>
    obtain ⟨i, ad, c, hi1, hi2, rfl, rfl, ho, hb, HU⟩ := hrel
    have HO := hide ho
    have HB := hide hb
    have hkl := el_len D x i
    have hsz : w.heap.size ≤ wr.heap.size := hb.size
    by_cases hlt : i < n
    · obtain ⟨ad9, cp9, hc9, -⟩ := HR.out i (by rw [HD.out]; omega)
      obtain ⟨c0, c1, c2, c3⟩ := dcCells_go hc9 hbs hb
      have hin : (i : Int) < (n : Int) := by omega
      have hi00 : (0 : Int) ≤ (i : Int) := by omega
      clear hc9 ho hb
      by_cases hge : (x : Int) ≤ D.U i
      · have HU2 : Hid (∀ j, x < j → j < i + 1 → (x : Int) ≤ D.U j) := hide (fun j h1 h2 => by
          by_cases e : j = i
          · subst e; exact hge
          · exact HU.out j h1 (by omega))
        have HRC := hide (in_below HG.out (i + 1) i (by omega) (by omega) hlt (fun j h1 h2 => HU2.out j h1 (by omega)))
        cases hE : (D.NM i).toList.isEmpty
        · have HE := hide (el_yes (D := D) ⟨(by omega : x < i), HRC.out, hE⟩)
          obtain ⟨L, hL⟩ : ∃ L, el D x i = L := ⟨_, rfl⟩
          rw [hL] at HE HO hkl ⊢
          clear hL
          obtain ⟨M, hM⟩ : ∃ M, (x : Int) :: L = M := ⟨_, rfl⟩
          have hMl : M.length ≤ 201 := by rw [← hM, List.length_cons]; omega
          rw [hM] at HO ⊢
          have HM := hide hM
          clear hM
          go_wp2_with (at_builtin; refine wpList_append_own _ rfl (.tmp 32) (.tmp 34) 33 rfl w.heap.size 2 i0 (.int .i64 0) 1 8 Tryz.underlying33 hi hz0 hz1 hz2 rfl (by decide) _ _ _ rfl (HO.out.alloc _) ⟨wr.heap.size, 0, none⟩ 1 1 [.int .i64 (i : Int)] rfl rfl (fun j u hj => gOne_new wr _ _ j u hj) (gOne_list _ _) (by unfold maxLen; omega) (by omega) (by simp; omega) ?_; intro v2 w2 hown2 hgrow2 _; obtain ⟨ad2, c2', hv2⟩ := gOwn_shape hown2; rw [hv2] at hown2 ⊢; clear hv2; have HB3 := hide (gBelow_one HB.out HO.out hgrow2); have HO2 := hide hown2; clear hown2 hgrow2)
          go_roundw
          case rel =>
            have e : (x : Int) :: el D x (i + 1) = M ++ [(i : Int)] := by rw [HE.out, ← HM.out]; rfl
            refine ⟨i + 1, ad2, c2', by omega, by omega, by go_num, ?_, ?_, HB3.out, HU2⟩
            · rw [e, List.length_append, List.length_singleton]
            · rw [e]; exact intR_put HO2.out
          case measure => simp [intOf]; omega
        · have HE := hide (el_no (D := D) (x := x) (m := i) (by rw [hE]; simp))
          go_wp2
          go_roundw
          case rel => exact ⟨i + 1, ad, c, by omega, by omega, by go_num, by rw [HE.out], by rw [HE.out]; exact HO.out, HB.out, HU2⟩
          case measure => simp [intOf]; omega
      · have e : el D x n = el D x i := by
          have := el_rest HG.out (show x < i by omega) (by omega) (n - i) (by omega)
          rw [show i + (n - i) = n by omega] at this
          exact this
        have HE := hide e
        have hlo : D.U i < (x : Int) := by omega
        clear e hge
        go_wp2
        go_ret
        exact ⟨ad, c, by rw [HE.out]; rfl, by rw [HE.out]; exact HO.out, HB.out⟩
    · have hin : i = n := by omega
      subst hin
      go_wp2
      go_ret
      exact ⟨ad, c, rfl, ho, hb⟩
theorem kn_take (D : Dc) (L : List Int) (nm : List UInt8) (j : Nat) (h : j < L.length) : ((L.take (j + 1)).filter fun i => (D.NM i.toNat).data.toList == nm) = ((L.take j).filter fun i => (D.NM i.toNat).data.toList == nm) ++ (if ((D.NM (L[j]?.getD 0).toNat).data.toList == nm) = true then [L[j]?.getD 0] else []) := by
  rw [List.take_succ_eq_append_getElem h, List.filter_append, List.getElem?_eq_getElem h]
  congr 1
  rw [List.filter_cons]
  simp only [Option.getD_some, List.filter_nil]
set_option maxRecDepth 100000 in
set_option maxHeartbeats 2000000 in
theorem i_kidsNamed (D : Dc) (n b off cap : Nat) (w : World) (x : Nat) (nm : ByteArray) (hD : D.n = n) (hn : n ≤ 200) (hx : x < n) (hbs : b < w.heap.size) (hr : DcRow w b off D w.heap.size) (hg : Good D n) :
    Calls Tryz.prog 58 #[.slice (some ⟨b, off, none⟩) n cap, .int .i64 x, .string nm] w fun e w' => ∃ ad c, e = .returned (.slice ad (kn D x nm.data.toList).length c) ∧ IntR w.heap.size w' ad c (kn D x nm.data.toList) ∧ Below w.heap.size w w' := by
  obtain ⟨i0, hi, hz0, hz1, hz2⟩ := info_parts info64
  have HR := hide hr
  have CK := hide (i_kidsBelow D n b off cap w x hD hn hx hbs hr hg)
  have hmem := kd_mem (D := D) (x := (x : Int)) n
  have hlen := kd_len D x n
  have hkn : kn D x nm.data.toList = (kd D x n).filter fun i => (D.NM i.toNat).data.toList == nm.data.toList := by unfold kn; rw [hD]
  rw [hkn]
  have HD := hide hD
  obtain ⟨L, hL⟩ : ∃ L, kd D x n = L := ⟨_, rfl⟩
  rw [hL] at CK hmem hlen ⊢
  have HM := hide hmem
  clear hr hD hg hkn hmem hL
  go_enter Tryz.func58, Tryz.ntmps58
  go_wp2_with fail
  refine CK.out.mono ?_
  rintro e w1 ⟨ad, c, rfl, ho, hb⟩
  have HRA := hide (own_rowAt' rfl ho)
  have HB1 := hide hb
  clear ho hb CK
  go_wp2
  go_loopw [7, 14] (fun v iv wr => ∃ (j : Nat) (ad2 : Option Addr) (c2 : Nat), j ≤ L.length ∧ iv = .int .i64 j ∧ v = .slice ad2 ((L.take j).filter fun i => (D.NM i.toNat).data.toList == nm.data.toList).length c2 ∧ IntR w1.heap.size wr ad2 c2 ((L.take j).filter fun i => (D.NM i.toNat).data.toList == nm.data.toList) ∧ Below w1.heap.size w1 wr) (fun _ iv _ => L.length - (intOf iv).toNat)
  case atStart => exact ⟨0, none, 0, Nat.zero_le _, rfl, rfl, intR_nil _ _, Below.refl _ _⟩
  case round =>
    obtain ⟨j, ad2, c2, hj, rfl, rfl, ho, hb⟩ := hrel
    have HO := hide ho
    have HB := hide hb
    have hsz : w1.heap.size ≤ wr.heap.size := hb.size
    by_cases hlt : j < L.length
    · obtain ⟨b9, off9, rfl, hb9, hc9⟩ := HRA.out (fun h => by rw [h] at hlt; exact absurd hlt (Nat.not_lt_zero _))
      have k0 := (hb.cell (p := ⟨b9, off9 + j, none⟩) hb9).trans (hc9 j hlt)
      have HKT := hide (kn_take D L nm.data.toList j hlt)
      obtain ⟨v, hv⟩ : ∃ v, L[j]?.getD 0 = v := ⟨_, rfl⟩
      have hvm := HM.out v (by rw [← hv, List.getElem?_eq_getElem hlt]; exact List.getElem_mem hlt)
      rw [hv] at k0 HKT
      have hwb : Below w.heap.size w wr := HB1.out.trans (hb.mono HB1.out.size)
      obtain ⟨ad8, cp8, hc8, -⟩ := HR.out v.toNat (by rw [HD.out]; omega)
      obtain ⟨c0, c1, c2', c3⟩ := dcCells_go hc8 hbs hwb
      have hjl : (j : Int) < (L.length : Int) := by omega
      have hvn : v < (n : Int) := by omega
      have hv0 : 0 ≤ v := by omega
      obtain ⟨F, hF⟩ : ∃ F, ((L.take j).filter fun i => (D.NM i.toNat).data.toList == nm.data.toList) = F := ⟨_, rfl⟩
      have hFl : F.length ≤ j := by rw [← hF]; exact Nat.le_trans (List.length_filter_le _ _) (by rw [List.length_take]; omega)
      rw [hF] at HO HKT ⊢
      obtain ⟨NV, hNV⟩ : ∃ NV, D.NM v.toNat = NV := ⟨_, rfl⟩
      rw [hNV] at HKT c1
      clear hc9 hv hc8 hF hNV ho hb hwb
      cases hq : (NV.toList == nm.toList)
      · have HE : Hid (((L.take (j + 1)).filter fun i => (D.NM i.toNat).data.toList == nm.data.toList) = F) := hide (by
          rw [HKT.out, if_neg (by rw [ByteArray.toList_eq, ByteArray.toList_eq] at hq; rw [hq]; decide), List.append_nil])
        go_wp2
        go_roundw
        case rel => exact ⟨j + 1, ad2, c2, by omega, by go_num, by rw [HE.out], by rw [HE.out]; exact HO.out, HB.out⟩
        case measure => simp [intOf]; omega
      · have HE : Hid (((L.take (j + 1)).filter fun i => (D.NM i.toNat).data.toList == nm.data.toList) = F ++ [v]) := hide (by
          rw [HKT.out, if_pos (by rw [ByteArray.toList_eq, ByteArray.toList_eq] at hq; exact hq)])
        go_wp2_with (at_builtin; refine wpList_append_own _ rfl (.tmp 25) (.tmp 27) 33 rfl w1.heap.size 2 i0 (.int .i64 0) 1 8 Tryz.underlying33 hi hz0 hz1 hz2 rfl (by decide) _ _ _ rfl (HO.out.alloc _) ⟨wr.heap.size, 0, none⟩ 1 1 [.int .i64 v] rfl rfl (fun j u hj => gOne_new wr _ _ j u hj) (gOne_list _ _) (by unfold maxLen; omega) (by omega) (by simp; omega) ?_; intro v2 w2 hown2 hgrow2 _; obtain ⟨ad3, c3', hv2⟩ := gOwn_shape hown2; rw [hv2] at hown2 ⊢; clear hv2; have HB3 := hide (gBelow_one HB.out HO.out hgrow2); have HO2 := hide hown2; clear hown2 hgrow2)
        go_roundw
        case rel =>
          refine ⟨j + 1, ad3, c3', by omega, by go_num, ?_, ?_, HB3.out⟩
          · rw [HE.out, List.length_append, List.length_singleton]
          · rw [HE.out]; exact intR_put HO2.out
        case measure => simp [intOf]; omega
    · have hjn : j = L.length := by omega
      subst hjn
      rw [List.take_length] at ho ⊢
      have HO2 := hide ho
      clear ho
      go_wp2
      go_ret
      exact ⟨ad2, c2, rfl, gOwn_lower HO2.out HB1.out.size, HB1.out.trans (HB.out.mono HB1.out.size)⟩
end Go.Proofs.YtdepgkpfibmbgaaGreatDoor

/-
  Contract: the specification's row in order, each number once.
-/
namespace Go.Proofs.YtdepgkpfibmbgaaGreatDoor
open Go.RowKit
set_option linter.unusedVariables false
set_option linter.unusedSimpArgs false
theorem below_drewS {b : Nat} {w w1 : World} (h : Below b w w1) (q : Nat) : Below b w (w1.drewN q) := h.trans ⟨rfl, rfl, rfl, Nat.le_refl _, fun _ _ => rfl⟩
theorem intR_drew {B : Nat} {w : World} {ad : Option Addr} {c : Nat} {L : List Int} (h : IntR B w ad c L) (q : Nat) : IntR B (w.drewN q) ad c L := h
theorem intR_cells {B : Nat} {w : World} {g c : Nat} {L : List Int} (h : IntR B w (some ⟨g, 0, none⟩) c L) : ∀ j, j < L.length → w.cell? ⟨g, j, none⟩ = some (.int .i64 (L[j]?.getD 0)) := by
  intro j hj
  rw [World.ownsRow.cellAt h j (by omega), List.getElem?_map, List.getElem?_eq_getElem hj]
  rfl
theorem intR_cap {B : Nat} {w : World} {ad : Option Addr} {c : Nat} {L : List Int} (h : IntR B w ad c L) : L.length ≤ c := by
  rcases h.2 with ⟨hv, h0⟩ | ⟨g, cap, cur, hv, -, -, hc, -⟩
  · omega
  · simp only [Value.slice.injEq] at hv
    omega
theorem intR_lt {B : Nat} {w : World} {g c : Nat} {L : List Int} (h : IntR B w (some ⟨g, 0, none⟩) c L) : g < w.heap.size := (World.ownsRow.lt h g rfl).2
/-- While the row is made: what stands in it, and that it is no argument's. -/
def SoS (w wr : World) (g c : Nat) (O : List Int) : Prop := IntR w.heap.size wr (some ⟨g, 0, none⟩) c O ∧ Below w.heap.size w wr
theorem so_drew {w wr : World} {g c : Nat} {O : List Int} (h : SoS w wr g c O) (q : Nat) : SoS w (wr.drewN q) g c O := ⟨intR_drew h.1 q, below_drewS h.2 q⟩
theorem so_grown {w wq w1 w2 : World} {g c : Nat} {O : List Int} {row : Option Nat} (h : SoS w w1 g c O) (hg : w1.grownBy w2 row) (hq : g < wq.heap.size) (hr : ∀ k, row = some k → wq.heap.size ≤ k) (hw : w.heap.size ≤ wq.heap.size) : SoS w w2 g c O := by
  refine ⟨World.ownsRow.kept h.1 hg (.inr (fun e => ?_)), h.2.grown hg h.2.size (fun k hk => by have := hr k hk; omega)⟩
  have := hr g e.symm
  omega
theorem so_alloc {w w1 : World} {g c : Nat} {O : List Int} (h : SoS w w1 g c O) (o : Obj) : SoS w (w1.alloc o) g c O := ⟨World.ownsRow.alloc h.1 o, h.2.alloc h.2.size o⟩
theorem cell_gr {wq w1 w2 : World} {p : Addr} {v : Value} {row : Option Nat} (h : w1.cell? p = some v) (hg : w1.grownBy w2 row) (hp : p.block < wq.heap.size) (hs : wq.heap.size ≤ w1.heap.size) (hr : ∀ k, row = some k → wq.heap.size ≤ k) : w2.cell? p = some v :=
  (World.cell?_of_block (hg.block p.block (by omega) (fun e => by have := hr p.block e.symm; omega))).trans h
set_option maxHeartbeats 4000000 in
set_option maxRecDepth 100000 in
theorem s_sorted (a : Option Addr) (n c : Nat) (xs : List Int) (w : World) (hx : xs.length = n) (hn : n ≤ 1000) (hr : RowAt .i64 w a xs w.heap.size) :
    Calls Tryz.prog 83 #[.slice a n c] w fun e w' => ∃ ad c', e = .returned (.slice ad (srtL xs).length c') ∧ IntR w.heap.size w' ad c' (srtL xs) ∧ Below w.heap.size w w' := by
  obtain ⟨i0, hi, hz0, hz1, hz2⟩ := info_parts info64
  have HX := hide hx
  have HR := hide hr
  clear hr hx
  go_enter Tryz.func83, Tryz.ntmps83
  go_wp2
  go_loopw [3, 4] (fun v iv wr => ∃ (i g c2 : Nat), i ≤ n ∧ iv = .int .i64 i ∧ v = .slice (some ⟨g, 0, none⟩) (srtL (xs.take i)).length c2 ∧ Hid (SoS w wr g c2 (srtL (xs.take i)))) (fun _ iv _ => n - (intOf iv).toNat)
  case atStart => exact ⟨0, w.heap.size, 0, Nat.zero_le _, rfl, rfl, hide ⟨World.ownsRow_made (base := w.heap.size) (e := 2) (size := 1) w #[] 0 (Nat.le_refl _) (Nat.zero_le _) rfl, (Below.refl _ _).alloc (Nat.le_refl _) _⟩⟩
  case round =>
    obtain ⟨i, g, c2, hi2, rfl, rfl, HS⟩ := hrel
    by_cases hlt : i < n
    · obtain ⟨b, off, rfl, hbs, hc⟩ := rowAt_cell HR.out i (by rw [HX.out]; exact hlt)
      have HCX := hide hc
      have HST := hide (srt_take (L := xs) (k := i) (by rw [HX.out]; exact hlt))
      have hol := srt_len_le xs i (by rw [HX.out]; omega)
      obtain ⟨O, hO⟩ : ∃ O, srtL (xs.take i) = O := ⟨_, rfl⟩
      rw [hO] at HS HST hol ⊢
      obtain ⟨v, hv⟩ : ∃ v, xs[i]?.getD 0 = v := ⟨_, rfl⟩
      rw [hv] at HST
      have HV := hide hv
      have hii : (i : Int) < (n : Int) := by omega
      have hi00 : (0 : Int) ≤ (i : Int) := by omega
      clear hc hO hv
      go_wp2
      go_loopw [5] (fun av wr => ∃ (k : Nat), k ≤ O.length ∧ av = .int .i64 k ∧ Hid (SoS w wr g c2 O) ∧ Hid (∀ j, j < k → O[j]?.getD 0 < v)) (fun av _ => O.length - (intOf av).toNat)
      case atStart => exact ⟨0, Nat.zero_le _, rfl, HS, hide (fun j hj => by omega)⟩
      case round =>
        clear HS
        rename_i wr0
        obtain ⟨k, hk, rfl, HS, HLE⟩ := hrel
        have x0 : wr.cell? ⟨b, off + i, none⟩ = some (.int .i64 v) := by
          have h := (HS.out.2.cell (p := ⟨b, off + i, none⟩) hbs).trans (HCX.out i (by rw [HX.out]; exact hlt))
          rw [HV.out] at h
          exact h
        by_cases hkl : k < O.length
        · have o0 := intR_cells HS.out.1 k hkl
          have hkd : decide ((k : Int) < (O.length : Int)) = true := decide_eq_true (by omega)
          have hkI : (k : Int) < (O.length : Int) := by omega
          have hk00 : (0 : Int) ≤ (k : Int) := by omega
          obtain ⟨ov, hov⟩ : ∃ ov, O[k]?.getD 0 = ov := ⟨_, rfl⟩
          rw [hov] at o0
          by_cases hlv : ov < v
          · have hld : decide (ov < v) = true := decide_eq_true hlv
            have HLE2 : Hid (∀ j, j < k + 1 → O[j]?.getD 0 < v) := hide (fun j hj => by
              by_cases e : j = k
              · subst e; rw [hov]; exact hlv
              · exact HLE.out j (by omega))
            clear hov hlv
            go_wp2
            go_quiet (fail)
            go_wp2
            go_roundw
            case rel => exact ⟨k + 1, by omega, by go_num, hide (so_drew HS.out nq), HLE2⟩
            case measure => simp [intOf]; omega
          · have hld : decide (ov < v) = false := decide_eq_false hlv
            by_cases hev : ov = v
            · have hed : (ov == v) = true := by rw [beq_iff_eq]; exact hev
              have HIN := hide (HST.out.trans (insL_dup hkl HLE.out (hov.trans hev)))
              clear hov hlv hev
              go_wp2
              go_quiet (fail)
              go_wp2
              go_quiet (fail)
              go_wp2
              go_roundw
              case rel => exact ⟨i + 1, g, c2, by omega, by go_num, by rw [HIN.out], by rw [HIN.out]; exact hide (so_drew HS.out _)⟩
              case measure => simp [intOf]; omega
            · have hed : (ov == v) = false := by rw [beq_eq_false_iff_ne]; exact hev
              have HIN := hide (HST.out.trans (insL_at (by omega) HLE.out (fun _ => by rw [hov]; omega)))
              clear hov hlv hev
              go_wp2
              go_quiet (fail)
              obtain ⟨q1, e1⟩ : ∃ q1, q1 = nq := ⟨_, rfl⟩
              subst e1
              go_wp2
              go_quiet (fail)
              have hkc : O.length ≤ c2 := intR_cap HS.out.1
              have hkcI : (k : Int) ≤ (c2 : Int) := by omega
              have hkoI : (k : Int) ≤ (O.length : Int) := by omega
              have hk00' : (0 : Int) ≤ (k : Int) := by omega
              have HQ0 := hide (so_drew (so_drew HS.out q1) nq)
              have x1 : ((wr.drewN q1).drewN nq).cell? ⟨b, off + i, none⟩ = some (.int .i64 v) := x0
              obtain ⟨wq, hwq⟩ : ∃ wq, (wr.drewN q1).drewN nq = wq := ⟨_, rfl⟩
              rw [hwq] at HQ0 x1
              have hgl : g < wq.heap.size := intR_lt HQ0.out.1
              have hwl : w.heap.size ≤ wq.heap.size := HQ0.out.2.size
              have hbl : b < wq.heap.size := Nat.lt_of_lt_of_le hbs hwl
              rw [hwq]
              have HQA := hide (fun (o : Obj) => so_alloc HQ0.out o)
              have x2 : ∀ o, (wq.alloc o).cell? ⟨b, off + i, none⟩ = some (.int .i64 v) := fun o => (World.cell?_of_block (((Below.refl wq.heap.size wq).alloc (Nat.le_refl _) o).block b hbl)).trans x1
              have HX2 := hide x2
              clear hwq x0 x1 x2
              go_wp2_with (first
                | (at_builtin; refine wpList_append_src (by rfl) (.tmp 46) (.tmp 49) 33 (by rfl) wq.heap.size 2 i0 (.int .i64 0) 1 8 Tryz.underlying33 hi hz0 hz1 hz2 rfl (by decide) (.slice (some ⟨wq.heap.size, 0, none⟩) 0 0) 0 [] (by rfl) (World.ownsRow_made (base := wq.heap.size) (e := 2) (size := 1) wq #[] 0 (Nat.le_refl _) (Nat.zero_le _) rfl) (some ⟨g, 0, none⟩) k c2 ((O.take k).map (Value.int .i64)) (by rfl) (by rw [List.length_map, List.length_take]; omega) (fun _ => ⟨_, rfl, row_src (fun j hj => by rw [List.length_take] at hj; rw [List.getElem?_take_of_lt (by omega), Nat.zero_add]; exact intR_cells (HQA.out _).1 j (by omega))⟩) (ints_one _) (by unfold maxLen; omega) (by omega) (by simp) ?_; intro a9 c9 w9 hown9 hgr9; rw [Nat.zero_add, List.nil_append] at hown9; have HS9 := hide (so_grown (wq := wq) (HQA.out _) hgr9 hgl (fun k hk => by cases hk; exact Nat.le_refl _) hwl); have hs9 : wq.heap.size ≤ w9.heap.size := Nat.le_trans (by simp) hgr9.size; have x3 : w9.cell? ⟨b, off + i, none⟩ = some (.int .i64 v) := cell_gr (wq := wq) (HX2.out _) hgr9 hbl (by simp) (fun k hk => by cases hk; exact Nat.le_refl _); have HO9 := hide hown9; clear hown9 hgr9)
                | (at_builtin; refine wpList_append_src (by rfl) (.tmp 51) (.tmp 56) 33 (by rfl) wq.heap.size 2 i0 (.int .i64 0) 1 8 Tryz.underlying33 hi hz0 hz1 hz2 rfl (by decide) (.slice a9 k c9) k ((O.take k).map (Value.int .i64)) (by first | rfl | simp [Act.eval]) (HO9.out.alloc _) (some ⟨w9.heap.size, 0, none⟩) 1 1 [.int .i64 v] (by rfl) rfl (fun _ => ⟨_, rfl, fun j u hj => gOne_new w9 _ _ j u hj⟩) (gOne_list _ _) (by unfold maxLen; omega) (by omega) (by simp; omega) ?_; intro a10 c10 w10 hown10 hgr10; have HS10 := hide (so_grown (wq := wq) (so_alloc HS9.out _) hgr10 hgl (fun k hk => (HO9.out.lt k hk).1) hwl); have hs10 : wq.heap.size ≤ w10.heap.size := Nat.le_trans (Nat.le_trans hs9 (by simp)) hgr10.size; have HO10 := hide hown10; clear hown10 hgr10)
                | (at_builtin; refine wpList_append_src (by rfl) (.tmp 58) (.tmp 61) 33 (by rfl) wq.heap.size 2 i0 (.int .i64 0) 1 8 Tryz.underlying33 hi hz0 hz1 hz2 rfl (by decide) (.slice a10 (k + 1) c10) (k + 1) ((O.take k).map (Value.int .i64) ++ [.int .i64 v]) (by rfl) HO10.out (some ⟨g, k, none⟩) (O.length - k) (c2 - k) ((O.drop k).map (Value.int .i64)) (by first | rfl | (simp [Act.eval]; omega)) (by rw [List.length_map, List.length_drop]; omega) (fun _ => ⟨_, rfl, row_src (fun j hj => by rw [List.length_drop] at hj; rw [List.getElem?_drop]; exact intR_cells HS10.out.1 (k + j) (by omega))⟩) (ints_one _) (by unfold maxLen; omega) (by omega) hs10 ?_; intro a11 c11 w11 hown11 hgr11; have HS11 := hide (so_grown (wq := wq) HS10.out hgr11 hgl (fun k hk => (HO10.out.lt k hk).1) hwl); have HO11 := hide hown11; clear hown11 hgr11)
                | fail)
              have hlenF : k + 1 + (O.length - k) = (O.take k ++ v :: O.drop k).length := by rw [List.length_append, List.length_take, List.length_cons, List.length_drop]; omega
              have hmapF : (O.take k).map (Value.int .i64) ++ [.int .i64 v] ++ (O.drop k).map (Value.int .i64) = (O.take k ++ v :: O.drop k).map (Value.int .i64) := by rw [List.map_append, List.map_cons, List.append_assoc]; rfl
              have HF := HO11.out
              rw [hlenF, hmapF, ← HIN.out] at HF
              have hpos : 0 < (srtL (xs.take (i + 1))).length := by rw [HIN.out, ← hlenF]; omega
              obtain ⟨g3, cap3, e3, hB3, hl3⟩ := HF.form hpos
              have HFF := hide (⟨gOwn_lower HF hwl, HS11.out.2⟩ : w11.ownsRow w.heap.size 2 1 (.slice a11 (srtL (xs.take (i + 1))).length c11) (srtL (xs.take (i + 1))).length ((srtL (xs.take (i + 1))).map (Value.int .i64)) ∧ Below w.heap.size w w11)
              simp only [Value.slice.injEq] at e3
              obtain ⟨rfl, -, rfl⟩ := e3
              clear HF
              go_roundw
              case rel => exact ⟨i + 1, g3, c11, by omega, by go_num, by rw [HIN.out, ← hlenF], hide HFF.out⟩
              case measure => simp [intOf]; omega
        · have hkd : decide ((k : Int) < (O.length : Int)) = false := decide_eq_false (by omega)
          have HIN := hide (HST.out.trans (insL_at (by omega) HLE.out (fun h => absurd h hkl)))
          go_wp2
          go_quiet (fail)
          obtain ⟨q1, e1⟩ : ∃ q1, q1 = nq := ⟨_, rfl⟩
          subst e1
          go_wp2
          go_quiet (fail)
          have hkc : O.length ≤ c2 := intR_cap HS.out.1
          have hkcI : (k : Int) ≤ (c2 : Int) := by omega
          have hkoI : (k : Int) ≤ (O.length : Int) := by omega
          have hk00' : (0 : Int) ≤ (k : Int) := by omega
          have HQ0 := hide (so_drew (so_drew HS.out q1) nq)
          have x1 : ((wr.drewN q1).drewN nq).cell? ⟨b, off + i, none⟩ = some (.int .i64 v) := x0
          obtain ⟨wq, hwq⟩ : ∃ wq, (wr.drewN q1).drewN nq = wq := ⟨_, rfl⟩
          rw [hwq] at HQ0 x1
          have hgl : g < wq.heap.size := intR_lt HQ0.out.1
          have hwl : w.heap.size ≤ wq.heap.size := HQ0.out.2.size
          have hbl : b < wq.heap.size := Nat.lt_of_lt_of_le hbs hwl
          rw [hwq]
          have HQA := hide (fun (o : Obj) => so_alloc HQ0.out o)
          have x2 : ∀ o, (wq.alloc o).cell? ⟨b, off + i, none⟩ = some (.int .i64 v) := fun o => (World.cell?_of_block (((Below.refl wq.heap.size wq).alloc (Nat.le_refl _) o).block b hbl)).trans x1
          have HX2 := hide x2
          clear hwq x0 x1 x2
          go_wp2_with (first
            | (at_builtin; refine wpList_append_src (by rfl) (.tmp 46) (.tmp 49) 33 (by rfl) wq.heap.size 2 i0 (.int .i64 0) 1 8 Tryz.underlying33 hi hz0 hz1 hz2 rfl (by decide) (.slice (some ⟨wq.heap.size, 0, none⟩) 0 0) 0 [] (by rfl) (World.ownsRow_made (base := wq.heap.size) (e := 2) (size := 1) wq #[] 0 (Nat.le_refl _) (Nat.zero_le _) rfl) (some ⟨g, 0, none⟩) k c2 ((O.take k).map (Value.int .i64)) (by rfl) (by rw [List.length_map, List.length_take]; omega) (fun _ => ⟨_, rfl, row_src (fun j hj => by rw [List.length_take] at hj; rw [List.getElem?_take_of_lt (by omega), Nat.zero_add]; exact intR_cells (HQA.out _).1 j (by omega))⟩) (ints_one _) (by unfold maxLen; omega) (by omega) (by simp) ?_; intro a9 c9 w9 hown9 hgr9; rw [Nat.zero_add, List.nil_append] at hown9; have HS9 := hide (so_grown (wq := wq) (HQA.out _) hgr9 hgl (fun k hk => by cases hk; exact Nat.le_refl _) hwl); have hs9 : wq.heap.size ≤ w9.heap.size := Nat.le_trans (by simp) hgr9.size; have x3 : w9.cell? ⟨b, off + i, none⟩ = some (.int .i64 v) := cell_gr (wq := wq) (HX2.out _) hgr9 hbl (by simp) (fun k hk => by cases hk; exact Nat.le_refl _); have HO9 := hide hown9; clear hown9 hgr9)
            | (at_builtin; refine wpList_append_src (by rfl) (.tmp 51) (.tmp 56) 33 (by rfl) wq.heap.size 2 i0 (.int .i64 0) 1 8 Tryz.underlying33 hi hz0 hz1 hz2 rfl (by decide) (.slice a9 k c9) k ((O.take k).map (Value.int .i64)) (by first | rfl | simp [Act.eval]) (HO9.out.alloc _) (some ⟨w9.heap.size, 0, none⟩) 1 1 [.int .i64 v] (by rfl) rfl (fun _ => ⟨_, rfl, fun j u hj => gOne_new w9 _ _ j u hj⟩) (gOne_list _ _) (by unfold maxLen; omega) (by omega) (by simp; omega) ?_; intro a10 c10 w10 hown10 hgr10; have HS10 := hide (so_grown (wq := wq) (so_alloc HS9.out _) hgr10 hgl (fun k hk => (HO9.out.lt k hk).1) hwl); have hs10 : wq.heap.size ≤ w10.heap.size := Nat.le_trans (Nat.le_trans hs9 (by simp)) hgr10.size; have HO10 := hide hown10; clear hown10 hgr10)
            | (at_builtin; refine wpList_append_src (by rfl) (.tmp 58) (.tmp 61) 33 (by rfl) wq.heap.size 2 i0 (.int .i64 0) 1 8 Tryz.underlying33 hi hz0 hz1 hz2 rfl (by decide) (.slice a10 (k + 1) c10) (k + 1) ((O.take k).map (Value.int .i64) ++ [.int .i64 v]) (by rfl) HO10.out _ (O.length - k) _ ((O.drop k).map (Value.int .i64)) (by rfl) (by rw [List.length_map, List.length_drop]; omega) (fun h => absurd h (by omega)) (ints_one _) (by unfold maxLen; omega) (by omega) hs10 ?_; intro a11 c11 w11 hown11 hgr11; have HS11 := hide (so_grown (wq := wq) HS10.out hgr11 hgl (fun k hk => (HO10.out.lt k hk).1) hwl); have HO11 := hide hown11; clear hown11 hgr11)
            | fail)
          all_goals
            have hlenF : k + 1 + (O.length - k) = (O.take k ++ v :: O.drop k).length := by rw [List.length_append, List.length_take, List.length_cons, List.length_drop]; omega
            have hmapF : (O.take k).map (Value.int .i64) ++ [.int .i64 v] ++ (O.drop k).map (Value.int .i64) = (O.take k ++ v :: O.drop k).map (Value.int .i64) := by rw [List.map_append, List.map_cons, List.append_assoc]; rfl
            have HF := HO11.out
            rw [hlenF, hmapF, ← HIN.out] at HF
            have hpos : 0 < (srtL (xs.take (i + 1))).length := by rw [HIN.out, ← hlenF]; omega
            obtain ⟨g3, cap3, e3, hB3, hl3⟩ := HF.form hpos
            have HFF := hide (⟨gOwn_lower HF hwl, HS11.out.2⟩ : w11.ownsRow w.heap.size 2 1 (.slice a11 (srtL (xs.take (i + 1))).length c11) (srtL (xs.take (i + 1))).length ((srtL (xs.take (i + 1))).map (Value.int .i64)) ∧ Below w.heap.size w w11)
            simp only [Value.slice.injEq] at e3
            obtain ⟨rfl, -, rfl⟩ := e3
            clear HF
            go_roundw
            case rel => exact ⟨i + 1, g3, c11, by omega, by go_num, by rw [HIN.out, ← hlenF], hide HFF.out⟩
            case measure => simp [intOf]; omega
    · have hin : i = n := by omega
      subst hin
      have e : xs.take i = xs := by rw [← HX.out]; exact List.take_length
      rw [e] at HS ⊢
      go_wp2
      go_ret
      exact ⟨_, c2, rfl, HS.out.1, HS.out.2⟩
end Go.Proofs.YtdepgkpfibmbgaaGreatDoor
