/-
  The walk of FnDeepPath.
-/
import Derived.Test.YtpakkllcemcfdaaGreatDoorA24
import Derived.Test.YtpakkllcemcfdaaGreatDoorA31
import Derived.Test.YtpakkllcemcfdaaGreatDoorA34
import Derived.Test.YtpakkllcemcfdaaGreatDoorA16
import Derived.BigQuiet
namespace Go.Proofs.YtpakkllcemcfdaaGreatDoor
open Go.RowKit Go.Joins
set_option linter.unusedVariables false
set_option linter.unusedSimpArgs false
theorem rp_at {B : Nat} {w : World} {ad : Option Addr} {c : Nat} {L : List Int} (h : IntR B w ad c L) (j : Nat) (hj : j < L.length) : ∃ g, ad = some ⟨g, 0, none⟩ ∧ g < w.heap.size ∧ ∀ i, i < L.length → w.cell? ⟨g, i, none⟩ = some (.int .i64 (L[i]?.getD 0)) := by
  have h2 := h
  rcases h.2 with ⟨e, h0⟩ | ⟨g, cap, cur, e, -, hg, -⟩
  · omega
  · simp only [Value.slice.injEq] at e
    obtain ⟨rfl, -⟩ := e
    refine ⟨g, rfl, (Array.getElem?_eq_some_iff.1 hg).1, fun i hi => ?_⟩
    rw [h2.cellAt i (by omega), List.getElem?_map, List.getElem?_eq_getElem hi]
    rfl
theorem rp_row {B : Nat} {w : World} {ad : Option Addr} {c : Nat} {L : List Int} (h : IntR B w ad c L) : RowAt .i64 w ad L w.heap.size := fun hne => by
  have h0 : 0 < L.length := List.length_pos_iff.2 hne
  obtain ⟨g, rfl, hg, hc⟩ := rp_at h 0 h0
  exact ⟨g, 0, rfl, hg, fun j hj => by rw [Nat.zero_add]; exact hc j hj⟩
theorem infoP : (Tryz.prog.info? 2).map (fun i => (i.zero, i.size, i.bytes)) = some (some (.int .i64 0), 1, 8) := by kernel_rfl
theorem rp_src {B : Nat} {w : World} {ad : Option Addr} {c : Nat} {L : List Int} (h : IntR B w ad c L) (h0 : 0 < L.length) : ∃ a, ad = some a ∧ ∀ j u, (L.map (Value.int .i64))[j]? = some u → w.cell? (a.add j) = some u := by
  obtain ⟨g, rfl, -, hc⟩ := rp_at h 0 h0
  exact ⟨_, rfl, row_src (fun j hj => by rw [Nat.zero_add]; exact hc j hj)⟩
theorem rp_below {B : Nat} {w w1 w2 : World} {e : TypeId} {z : Nat} {v : Value} {n : Nat} {xs : List Value} (h : Below B w w1) (hown : w1.ownsRow B e z v n xs) (hB : B ≤ w1.heap.size) (hg : w1.grownBy w2 v.ownBlock) : Below B w w2 := h.grown hg hB (fun k hk => (hown.lt k hk).1)
theorem rp_empty (w : World) : w.alloc (.cells #[] 2) |>.ownsRow w.heap.size 2 1 (.slice (some ⟨w.heap.size, 0, none⟩) 0 0) 0 [] :=
  ⟨rfl, .inr ⟨w.heap.size, 0, #[], rfl, Nat.le_refl _, heap_alloc_new w _, Nat.le_refl _, by unfold maxLen; omega, rfl, rfl⟩⟩
/-- Is a number in a row? -/
def HasAns (L : List Int) (v : Int) (w : World) (e : Ending) (w' : World) : Prop := w' = w ∧ ∃ B : Bool, e = .returned (.bool B) ∧ (B = true ↔ v ∈ L)
set_option maxHeartbeats 2000000 in
theorem l_has (a : Option Addr) (n c : Nat) (L : List Int) (v : Int) (w : World) (hL : L.length = n) (hn : n ≤ 1048576) (hr : RowAt .i64 w a L w.heap.size) :
    Calls Tryz.prog 15 #[.slice a n c, .int .i64 v] w (HasAns L v w) := by
  have HL := hide hL
  have HR := hide hr
  clear hL hr
  go_enter Tryz.func15, Tryz.ntmps15
  go_wp2
  go_loopw [5] (fun i wr => ∃ k : Nat, k ≤ n ∧ i = .int .i64 k ∧ w = wr ∧ Hid (∀ j, j < k → L[j]?.getD 0 ≠ v)) (fun i _ => n - (intOf i).toNat)
  case atStart => exact ⟨0, Nat.zero_le _, rfl, rfl, hide (fun j h => by omega)⟩
  case round =>
    obtain ⟨k, hk, rfl, rfl, HS⟩ := hrel
    by_cases hlt : k < n
    · obtain ⟨b, off, rfl, hbs, hc⟩ := HR.out (fun e => by have := HL.out; rw [e] at this; simp at this; omega)
      have hc1 := hc k (by rw [HL.out]; exact hlt)
      have hi : (k : Int) < (n : Int) := by omega
      clear hc
      obtain ⟨y, hy⟩ : ∃ y, L[k]?.getD 0 = y := ⟨_, rfl⟩
      rw [hy] at hc1
      have HY := hide hy
      clear hy
      by_cases he : y = v
      · subst he
        go_wp2
        go_ret
        exact ⟨rfl, true, rfl, ⟨fun _ => by rw [← HY.out, List.getElem?_eq_getElem (by rw [HL.out]; exact hlt)]; exact List.getElem_mem _, fun _ => rfl⟩⟩
      · have heb : (y == v) = false := by rw [beq_eq_false_iff_ne]; exact he
        go_wp2
        go_roundw
        case rel =>
          refine ⟨k + 1, by omega, by go_num, by first | rfl | trivial, hide (fun j hj => ?_)⟩
          by_cases e : j = k
          · subst e; rw [HY.out]; exact he
          · exact HS.out j (by omega)
        case measure => simp [intOf]; omega
    · go_wp2
      go_ret
      refine ⟨rfl, false, rfl, ⟨fun h => (by cases h), fun h => ?_⟩⟩
      obtain ⟨j, hj, e⟩ := List.mem_iff_getElem.1 h
      have h9 := HS.out j (by have := HL.out; omega)
      rw [List.getElem?_eq_getElem hj] at h9
      exact absurd e h9
theorem route_ne {s : ByteArray} (h : routeB s = true) : 0 < s.size := by
  rcases Nat.eq_zero_or_pos s.size with h0 | h0
  · have hl : s.data.toList = [] := List.length_eq_zero_iff.1 (by rw [Array.length_toList]; exact h0)
    unfold routeB at h
    rw [hl] at h
    have : allN (restL []) = false := by decide
    rw [this] at h
    simp at h
  · exact h0
set_option maxRecDepth 100000 in
set_option maxHeartbeats 8000000 in
theorem fp_walk (a : Option Addr) (n cap : Nat) (zs : List Int) (w : World) (hl : zs.length = n) (hz : ∀ x ∈ zs, 0 ≤ x ∧ x ≤ 255) (hn : n ≤ 1048576) (hs : SrcAt w a zs w.heap.size) (hT : Tabs w) (hM : MaxL w) :
    Calls Tryz.prog 4 #[.slice a n cap] w fun e w' => e = .returned (.bool true) ∧ Below w.heap.size w w' := by
  have hn' : ¬ (1048576 : Int) < (n : Int) := by omega
  have HT := hide hT
  have HM := hide hM
  have CD := hide (d_select a n cap zs w hl hz hn hs)
  clear hs hl hz hT hM
  go_enter Tryz.func4, Tryz.ntmps4
  go_wp2_with (go_at_call 6; go_in)
  refine CD.out.mono ?_
  rintro e w1 ⟨ad, m, c, D, x, s, rfl, hD, ⟨hm1, hm2⟩, htot, hdc, hs8, hb1⟩
  have B1 := hide hb1
  have HT1 := hide (tabs_below HT.out hb1)
  have HM1 := hide (maxL_go HM.out hb1 (Nat.le_refl _))
  have HD := hide hD
  have HTO := hide htot
  have HDC := hide hdc
  clear hb1 hD htot hdc CD
  go_wp2_with fail
  refine (i_select D m ad c x s w1 HD.out HTO.out (by omega) HDC.out HT1.out HM1.out).mono ?_
  rintro e w2 ⟨ka, kc, rfl, hir, hb2⟩
  have B2 := hide hb2
  have HIR := hide hir
  clear hb2 hir
  have CS : Hid (∀ w9, Below w1.heap.size w1 w9 → Calls Tryz.prog 10 #[.slice ad m c, .int .i64 x, .string s] w9 (SelAns D x s w9)) := hide (fun w9 h9 => s_select D m ad c x s w9 HD.out HTO.out (by omega) (dcAt_up (dcAt_go HDC.out h9) h9.size))
  have CI : Hid (∀ (y : Int) (t : ByteArray) (w9 : World), t.size ≤ 100 → Below w1.heap.size w1 w9 → Calls Tryz.prog 8 #[.slice ad m c, .int .i64 y, .string t] w9 (SelAns D y t w9)) := hide (fun y t w9 ht h9 => i_select D m ad c y t w9 HD.out HTO.out (by omega) (dcAt_up (dcAt_go HDC.out h9) h9.size) (tabs_below HT1.out h9) (maxL_go HM1.out h9 (Nat.le_refl _)))
  have CO : Hid (∀ w9, Below w1.heap.size w1 w9 → Calls Tryz.prog 13 #[.slice ad m c] w9 fun e w' => e = .returned (.bool (docokB D)) ∧ Below w9.heap.size w9 w') := hide (fun w9 h => s_docok D m ad c w9 HD.out HTO.out (dcAt_up (dcAt_go HDC.out h) h.size))
  have CP := hide (fun w9 => s_path s w9 (by omega))
  have HKL := hide (fun y t => selV_len (D := D) (x := y) (s := t))
  obtain ⟨b, off, hab, hbw, hrow⟩ := HDC.out (by rw [HD.out]; omega)
  subst hab
  have HROW : Hid (∀ w9, Below w1.heap.size w1 w9 → ∀ j, j < m → w9.cell? ⟨b, off + j * 4, none⟩ = some (.int .i64 (D.U j)) ∧ w9.cell? ⟨b, off + j * 4 + 1, none⟩ = some (.string (D.NM j))) := hide (fun w9 h9 j hj => by
    obtain ⟨-, -, ⟨c0, c1, -, -⟩, -, -⟩ := hrow j (by rw [HD.out]; exact hj)
    exact ⟨(h9.cell (p := ⟨b, off + j * 4, none⟩) hbw).trans c0, (h9.cell (p := ⟨b, off + j * 4 + 1, none⟩) hbw).trans c1⟩)
  clear hrow
  unfold SelAns at CS CI HIR
  obtain ⟨Q, hQ⟩ : ∃ Q, selV D x s = Q := ⟨_, rfl⟩
  have HQ := hide hQ
  have hKl : Q.length ≤ 200 := by rw [← hQ]; exact HKL.out x s
  rw [hQ] at HIR CS ⊢
  obtain ⟨K, hK⟩ : ∃ K, Q.length = K := ⟨_, rfl⟩
  rw [hK] at CS ⊢
  rw [hK] at hKl
  have HKK := hide hK
  clear hQ hK
  go_upto_region 5 with fail
  go_cut [64] (fun v wx => ∃ B : Bool, v = .bool B ∧ (B = false → txOk D x = true ∧ routeB s = true ∧ deepL s.data.toList = false) ∧ Below w2.heap.size w2 wx)
  case first =>
    go_wp2_with fail
    refine (CS.out _ B2.out).mono ?_
    rintro e w3 ⟨sa, sc, rfl, hir3, hb3⟩
    have B3 := hide (B2.out.trans (hb3.mono B2.out.size))
    have C3 := hide hb3
    have HR3 := hide (rp_row hir3)
    have HRK := hide (rp_row (gOwn_after HIR.out hb3))
    clear hir3 hb3
    go_wp2_with fail
    refine (same_same ka sa K kc sc Q _ HKK.out (by omega) HRK.out HR3.out).mono ?_
    rintro e w4 ⟨rfl, q4, rfl⟩
    have B4 : Hid (Below w1.heap.size w1 (w3.drewN q4)) := hide (B3.out.trans ⟨rfl, rfl, rfl, Nat.le_refl _, fun _ _ => rfl⟩)
    have C4 : Hid (Below w2.heap.size w2 (w3.drewN q4)) := hide (C3.out.trans ⟨rfl, rfl, rfl, Nat.le_refl _, fun _ _ => rfl⟩)
    clear HR3 HRK
    go_wp2_with fail
    refine (CO.out _ B4.out).mono ?_
    rintro e w5 ⟨rfl, hb5⟩
    have B5 := hide (B4.out.trans (hb5.mono B4.out.size))
    have C5 := hide (C4.out.trans (hb5.mono C4.out.size))
    clear hb5
    cases hdk : docokB D
    · go_wp2
      go_meet
      exact ⟨true, rfl, fun h => (by cases h), C5.out⟩
    · by_cases hx0 : x < 0
      · have hxd : decide (x < 0) = true := decide_eq_true hx0
        go_wp2
        go_meet
        exact ⟨true, rfl, fun h => (by cases h), C5.out⟩
      · have hxd : decide (x < 0) = false := decide_eq_false hx0
        by_cases hx1 : (m : Int) ≤ x
        · have hxe : decide ((m : Int) ≤ x) = true := decide_eq_true hx1
          go_wp2
          go_meet
          exact ⟨true, rfl, fun h => (by cases h), C5.out⟩
        · have hxe : decide ((m : Int) ≤ x) = false := decide_eq_false hx1
          obtain ⟨X, hXx⟩ : ∃ X : Nat, x = (X : Int) := ⟨x.toNat, by omega⟩
          subst hXx
          have hXm : X < m := by omega
          have hXi : (X : Int) < (m : Int) := by omega
          obtain ⟨-, u1⟩ := HROW.out w5 B5.out X hXm
          cases hne : (D.NM X).toList.isEmpty
          · have htx : txOk D (X : Int) = true := by unfold txOk; rw [hdk, Int.toNat_natCast, hne, decide_eq_true (by rw [HD.out]; omega)]; rfl
            have HTX := hide htx
            clear htx
            cases hro : routeB s
            · have CP2 := hide (CP.out w5)
              rw [hro] at CP2
              go_wp2_with (go_at_call 14; refine CP2.out.mono ?_; rintro e w6 ⟨rfl, hb6⟩; have C6 := hide (C5.out.trans (hb6.mono C5.out.size)); clear hb6)
              go_meet
              exact ⟨true, rfl, fun h => (by cases h), C6.out⟩
            · have CP2 := hide (CP.out w5)
              rw [hro] at CP2
              have hsz := route_ne hro
              have hs0 : (0 : Int) < s.size := by omega
              obtain ⟨b0, r, hbr⟩ : ∃ b0 r, s.data.toList = b0 :: r := by
                cases hx : s.data.toList with
                | nil =>
                  have h9 : s.data.toList.length = s.size := Array.length_toList
                  rw [hx] at h9
                  simp at h9
                  omega
                | cons b0 r => exact ⟨b0, r, rfl⟩
              have hb0 : s[0]'hsz = b0 := by
                have h9 : s.data.toList[0]? = some b0 := by rw [hbr]; rfl
                rw [Array.getElem?_toList, Array.getElem?_eq_getElem hsz] at h9
                exact Option.some.inj h9
              have HBR := hide hbr
              have HRO := hide hro
              clear hbr
              by_cases h47 : b0 = 47
              · have e47 : (((s[0]'hsz).toNat : Int) == 47) = true := by rw [hb0, h47]; rfl
                go_wp2_with (go_at_call 14; refine CP2.out.mono ?_; rintro e w6 ⟨rfl, hb6⟩; have C6 := hide (C5.out.trans (hb6.mono C5.out.size)); clear hb6)
                go_meet
                exact ⟨true, rfl, fun h => (by cases h), C6.out⟩
              · have e47 : (((s[0]'hsz).toNat : Int) == 47) = false := by
                  rw [hb0, beq_eq_false_iff_ne]
                  intro h9
                  apply h47
                  apply UInt8.toNat_inj.1
                  have : (47 : UInt8).toNat = 47 := rfl
                  omega
                have HFL := hide (flat_first HBR.out h47)
                have hxn : ¬ m ≤ X := by omega
                have hxn2 : decide (m ≤ X) = false := decide_eq_false hxn
                clear hb0
                go_wp2_with (go_at_call 14; refine CP2.out.mono ?_; rintro e w6 ⟨rfl, hb6⟩; have C6 := hide (C5.out.trans (hb6.mono C5.out.size)); clear hb6)
                go_meet
                exact ⟨false, by first | rfl | (rw [hxn2, e47]; rfl) | simp [hxn2, e47], fun _ => ⟨HTX.out, HRO.out, HFL.out⟩, C6.out⟩
          · go_wp2
            go_meet
            exact ⟨true, rfl, fun h => (by cases h), C5.out⟩
  case rest =>
    obtain ⟨B, rfl, hB, hbx⟩ := hcut
    have HBc := hide hB
    have CC := hide hbx
    have BC := hide (B2.out.trans (hbx.mono B2.out.size))
    have HIC : Hid (IntR w1.heap.size wc ka kc Q) := hide (gOwn_after HIR.out hbx)
    clear hB hbx
    cases B
    · obtain ⟨htx, hro, hfl⟩ := HBc.out rfl
      obtain ⟨hdk, -, -, hx0, hx1⟩ := tx_facts htx
      have HDEC := hide (docok_dec hdk)
      rw [HD.out] at hx1
      obtain ⟨X, hXx⟩ : ∃ X : Nat, x = (X : Int) := ⟨x.toNat, by omega⟩
      subst hXx
      have HDI := hide (fun j => deep_iff (j := j) htx hro hs8 hfl)
      clear HBc htx hro hfl hdk
      have hcat : ¬ 9223372036854775807 < 2 + s.size := by omega
      obtain ⟨S2, hS2⟩ : ∃ S2, (⟨#[47, 47]⟩ : ByteArray) ++ s = S2 := ⟨_, rfl⟩
      have hS2s : S2.size ≤ 100 := by rw [← hS2, ByteArray.size_append]; have : (⟨#[47, 47]⟩ : ByteArray).size = 2 := rfl; omega
      have C2 := hide (fun w9 h9 => CI.out (X : Int) S2 w9 hS2s h9)
      rw [hS2] at HDI
      have hDl : (selV D (X : Int) S2).length ≤ 200 := HKL.out _ _
      obtain ⟨DQ, hDQ⟩ : ∃ DQ, selV D (X : Int) S2 = DQ := ⟨_, rfl⟩
      rw [hDQ] at HDI C2 hDl
      obtain ⟨N2, hN2⟩ : ∃ N2, DQ.length = N2 := ⟨_, rfl⟩
      rw [hN2] at C2 hDl
      have HN2 := hide hN2
      rw [HQ.out] at HDI
      clear hDQ hN2
      obtain ⟨i0, hi0, hz0, hz1, hz2⟩ := info_parts infoP
      go_wp2_with fail
      refine (C2.out _ BC.out).mono ?_
      rintro e w5 ⟨da, dc, rfl, hir5, hb5⟩
      have B5 := hide (BC.out.trans (hb5.mono BC.out.size))
      have HID5 : Hid (IntR wc.heap.size w5 da dc DQ) := hide hir5
      have HIQ5 : Hid (IntR w1.heap.size w5 ka kc Q) := hide (gOwn_after HIC.out hb5)
      clear hir5 hb5 hS2
      go_wp2_with (at_builtin; refine wpList_append_src rfl (.tmp 76) (.tmp 77) 27 rfl w5.heap.size 2 i0 (.int .i64 0) 1 8 Tryz.underlying27 hi0 hz0 hz1 hz2 rfl (by decide) _ 0 [] rfl (rp_empty w5) ka K kc (Q.map (Value.int .i64)) rfl (by rw [List.length_map, Nat.mul_one]; exact HKK.out) (fun h9 => rp_src (L := Q) (B := w1.heap.size) (gOwn_after HIQ5.out ((Below.refl _ _).alloc (Nat.le_refl _) _)) (by rw [HKK.out]; exact h9)) (ints_one _) (by unfold maxLen; omega) (by omega) (by simp) ?_; intro a6 c6 w6 hown6 hgr6; rw [Nat.zero_add, List.nil_append] at hown6; rw [Nat.zero_add]; have HO6 := hide hown6; have HB6 := hide (rp_below ((Below.refl _ _).alloc (Nat.le_refl _) _) (rp_empty w5) (by simp) hgr6); clear hown6 hgr6)
      go_loopw [8, 9] (fun av iv wr => ∃ (i L c8 : Nat) (a8 : Option Addr) (AL : List Int), av = .slice a8 L c8 ∧ iv = .int .i64 i ∧ X + 1 ≤ i ∧ i ≤ m ∧ L ≤ 200 * (i + 1) ∧ Hid (AL.length = L) ∧ Hid (∀ j, j ∈ AL ↔ j ∈ Q ∨ ∃ k : Nat, k < i ∧ X < k ∧ Rc D X (k : Int) ∧ (D.NM k).toList.isEmpty = false ∧ j ∈ selV D (k : Int) s) ∧ Hid (wr.ownsRow w5.heap.size 2 1 (.slice a8 L c8) L (AL.map (Value.int .i64))) ∧ Hid (Below w5.heap.size w5 wr)) (fun _ iv _ => m - (intOf iv).toNat)
      case atStart => exact ⟨X + 1, K, c6, a6, Q, rfl, by go_num, by omega, by omega, by omega, HKK, hide (fun j => ⟨fun h => .inl h, fun h => by rcases h with h | ⟨k, h1, h2, -⟩; exact h; omega⟩), HO6, HB6⟩
      case round =>
        clear HO6 HB6
        obtain ⟨i, L, c8, a8, AL, rfl, rfl, hiX, him, hLl, HAL, HME, HO, HB⟩ := hrel
        have HBB := hide (B5.out.trans (HB.out.mono B5.out.size))
        obtain ⟨WR, rfl⟩ : ∃ WR, WR = wr := ⟨_, rfl⟩
        by_cases hlt : i < m
        · have hii : (i : Int) < (m : Int) := by omega
          have hwi1 : IntKind.i64.wrap ((i : Int) + 1) = (i : Int) + 1 := by rw [IntKind.wrap_i64]; omega
          go_wp2
          go_loopw [10] (fun uv wr3 => ∃ u : Int, uv = .int .i64 u ∧ u < (m : Int) ∧ -1 ≤ u ∧ Hid (Rc D X u ↔ Rc D X (i : Int)) ∧ WR = wr3) (fun uv _ => (intOf uv).toNat)
          case atStart => exact ⟨i, rfl, by omega, by omega, hide Iff.rfl, rfl⟩
          case round =>
            obtain ⟨u, rfl, hum, hu1, HRU, rfl⟩ := hrel
            by_cases hgt : (X : Int) < u
            · obtain ⟨U1, hU1⟩ : ∃ U1 : Nat, u = (U1 : Int) := ⟨u.toNat, by omega⟩
              subst hU1
              obtain ⟨t0, -⟩ := HROW.out WR HBB.out U1 (by omega)
              have hd1 := HDEC.out U1 (by rw [HD.out]; omega)
              have hU0 : (0 : Int) ≤ (U1 : Int) := by omega
              obtain ⟨u2, hu2⟩ : ∃ u2, D.U U1 = u2 := ⟨_, rfl⟩
              have HR2 : Hid (Rc D X u2 ↔ Rc D X (i : Int)) := hide (by
                rw [← HRU.out, ← hu2]
                constructor
                · intro h; exact Rc.up hgt (by rw [Int.toNat_natCast]; exact h)
                · intro h; have h9 := rc_more h hgt; rw [Int.toNat_natCast] at h9; exact h9)
              rw [hu2] at t0 hd1
              clear hu2
              go_wp2
              go_roundw
              case rel => exact ⟨u2, rfl, by omega, by omega, HR2, by first | rfl | trivial⟩
              case measure => simp [intOf]; omega
            · obtain ⟨-, t1⟩ := HROW.out WR HBB.out i hlt
              obtain ⟨NM, hNM⟩ : ∃ NM, D.NM i = NM := ⟨_, rfl⟩
              rw [hNM] at t1
              have HNM := hide hNM
              clear hNM
              have SKIP : (¬ Rc D X (i : Int) ∨ NM.toList.isEmpty = true) → Hid (∀ j, j ∈ AL ↔ j ∈ Q ∨ ∃ k : Nat, k < i + 1 ∧ X < k ∧ Rc D X (k : Int) ∧ (D.NM k).toList.isEmpty = false ∧ j ∈ selV D (k : Int) s) := fun hno => hide (fun j => by
                rw [HME.out j]
                constructor
                · rintro (h | ⟨k, h1, h2⟩)
                  · exact .inl h
                  · exact .inr ⟨k, by omega, h2⟩
                · rintro (h | ⟨k, h1, h2, h3, h4, h5⟩)
                  · exact .inl h
                  · by_cases e : k = i
                    · subst e
                      rcases hno with h9 | h9
                      · exact absurd h3 h9
                      · rw [HNM.out, h9] at h4; cases h4
                    · exact .inr ⟨k, by omega, h2, h3, h4, h5⟩)
              by_cases hue : u = (X : Int)
              · subst hue
                cases hne : NM.toList.isEmpty
                · have hrc : Rc D X (i : Int) := HRU.out.1 Rc.here
                  have hTl : (selV D (i : Int) s).length ≤ 200 := HKL.out _ _
                  have HTAKE : Hid (∀ j, j ∈ AL ++ selV D (i : Int) s ↔ j ∈ Q ∨ ∃ k : Nat, k < i + 1 ∧ X < k ∧ Rc D X (k : Int) ∧ (D.NM k).toList.isEmpty = false ∧ j ∈ selV D (k : Int) s) := hide (fun j => by
                    rw [List.mem_append, HME.out j]
                    constructor
                    · rintro ((h | ⟨k, h1, h2⟩) | h)
                      · exact .inl h
                      · exact .inr ⟨k, by omega, h2⟩
                      · exact .inr ⟨i, by omega, by omega, hrc, by rw [HNM.out]; exact hne, h⟩
                    · rintro (h | ⟨k, h1, h2, h3, h4, h5⟩)
                      · exact .inl (.inl h)
                      · by_cases e : k = i
                        · subst e; exact .inr h5
                        · exact .inl (.inr ⟨k, by omega, h2, h3, h4, h5⟩))
                  have C3 := hide (fun w9 h9 => CI.out (i : Int) s w9 (by omega) h9)
                  obtain ⟨TQ, hTQ⟩ : ∃ TQ, selV D (i : Int) s = TQ := ⟨_, rfl⟩
                  rw [hTQ] at HTAKE C3 hTl
                  obtain ⟨T, hT⟩ : ∃ T, TQ.length = T := ⟨_, rfl⟩
                  rw [hT] at C3 hTl
                  have HTT := hide hT
                  clear hTQ hT hrc SKIP
                  go_wp2_with (first
                    | (go_at_call 8; refine (C3.out _ HBB.out).mono ?_; rintro e w7 ⟨ta, tc, rfl, hir7, hb7⟩; have HB7 := hide (HB.out.trans (hb7.mono HB.out.size)); have HT7 : Hid (IntR WR.heap.size w7 ta tc TQ) := hide hir7; have HO7 := hide (gOwn_after HO.out hb7); clear hir7 hb7)
                    | (at_builtin; refine wpList_append_src rfl (.tmp 107) (.tmp 111) 27 rfl w5.heap.size 2 i0 (.int .i64 0) 1 8 Tryz.underlying27 hi0 hz0 hz1 hz2 rfl (by decide) _ _ _ rfl HO7.out ta T tc (TQ.map (Value.int .i64)) rfl (by rw [List.length_map, Nat.mul_one]; exact HTT.out) (fun h9 => rp_src HT7.out (by rw [HTT.out]; exact h9)) (ints_one _) (by unfold maxLen; omega) (by omega) HB7.out.size ?_; intro a8' c8' w8 hown8 hgr8; rw [← List.map_append] at hown8; have HO8 := hide hown8; have HB8 := hide (rp_below HB7.out HO7.out HB7.out.size hgr8); clear hown8 hgr8))
                  go_roundw
                  case rel => exact ⟨i + 1, L + T, c8', a8', AL ++ TQ, rfl, by go_num, by omega, by omega, by omega, hide (by rw [List.length_append, HAL.out, HTT.out]), HTAKE, HO8, HB8⟩
                  case measure => simp [intOf]; omega
                · have HSK := SKIP (.inr hne)
                  clear SKIP
                  go_wp2
                  go_roundw
                  case rel => exact ⟨i + 1, L, c8, a8, AL, rfl, by go_num, by omega, by omega, by omega, HAL, HSK, HO, HB⟩
                  case measure => simp [intOf]; omega
              · have HSK := SKIP (.inl (fun h => hue (rc_end (HRU.out.2 h) hgt)))
                have heb : (u == (X : Int)) = false := by rw [beq_eq_false_iff_ne]; exact hue
                clear SKIP
                go_wp2
                go_roundw
                case rel => exact ⟨i + 1, L, c8, a8, AL, rfl, by go_num, by omega, by omega, by omega, HAL, HSK, HO, HB⟩
                case measure => simp [intOf]; omega
        · have hie : i = m := by omega
          have HSAME : Hid (∀ j, j ∈ AL ↔ j ∈ DQ) := hide (fun j => by rw [HME.out j, HDI.out j, hie, HD.out])
          have hL9 : L ≤ 8300 := by omega
          have HID8 := hide (gOwn_after HID5.out (show Below w5.heap.size w5 WR from HB.out))
          have HRD := hide (rp_row (show IntR wc.heap.size WR da dc DQ from HID8.out))
          have HOA : Hid (IntR w5.heap.size WR a8 c8 AL) := hide (by have h9 := HO.out; unfold IntR; rw [HAL.out]; exact h9)
          have HRA := hide (rp_row HOA.out)
          have CHD : Hid (∀ v, Calls Tryz.prog 15 #[.slice da N2 dc, .int .i64 v] WR (HasAns DQ v WR)) := hide (fun v => l_has da N2 dc DQ v WR HN2.out (by omega) HRD.out)
          have CHA : Hid (∀ v, Calls Tryz.prog 15 #[.slice a8 L c8, .int .i64 v] WR (HasAns AL v WR)) := hide (fun v => l_has a8 L c8 AL v WR HAL.out (by omega) HRA.out)
          clear HME HDI hie hLl
          go_wp2
          go_loopw [11] (fun iv wr4 => ∃ k : Nat, k ≤ L ∧ iv = .int .i64 k ∧ WR = wr4) (fun iv _ => L - (intOf iv).toNat)
          case atStart => exact ⟨0, Nat.zero_le _, rfl, rfl⟩
          case round =>
            obtain ⟨k, hk, rfl, rfl⟩ := hrel
            by_cases hkL : k < L
            · have hki : (k : Int) < (L : Int) := by omega
              obtain ⟨g, hga, hg, hc⟩ := rp_at HOA.out k (by rw [HAL.out]; exact hkL)
              have q0 := hc k (by rw [HAL.out]; exact hkL)
              subst hga
              obtain ⟨p, hp⟩ : ∃ p, AL[k]?.getD 0 = p := ⟨_, rfl⟩
              have hmem : p ∈ DQ := (HSAME.out p).1 (by rw [← hp, List.getElem?_eq_getElem (by rw [HAL.out]; exact hkL)]; exact List.getElem_mem _)
              rw [hp] at q0
              have HMM := hide hmem
              clear hp hc hmem
              go_wp2_with (go_at_call 15; refine (CHD.out p).mono ?_; rintro e w9 ⟨h9, BB, rfl, hBB⟩; rw [h9]; have e9 : BB = true := hBB.2 HMM.out; subst e9; clear h9 w9 hBB)
              go_roundw
              case rel => exact ⟨k + 1, by omega, by go_num, by first | rfl | trivial⟩
              case measure => simp [intOf]; omega
            · go_wp2
              go_loopw [12] (fun iv wr5 => ∃ k : Nat, k ≤ N2 ∧ iv = .int .i64 k ∧ WR = wr5) (fun iv _ => N2 - (intOf iv).toNat)
              case atStart => exact ⟨0, Nat.zero_le _, rfl, rfl⟩
              case round =>
                obtain ⟨k2, hk2, rfl, rfl⟩ := hrel
                by_cases hkN : k2 < N2
                · have hki : (k2 : Int) < (N2 : Int) := by omega
                  obtain ⟨g, hga, hg, hc⟩ := rp_at (show IntR wc.heap.size WR da dc DQ from HID8.out) k2 (by rw [HN2.out]; exact hkN)
                  have q0 := hc k2 (by rw [HN2.out]; exact hkN)
                  subst hga
                  obtain ⟨p, hp⟩ : ∃ p, DQ[k2]?.getD 0 = p := ⟨_, rfl⟩
                  have hmem : p ∈ AL := (HSAME.out p).2 (by rw [← hp, List.getElem?_eq_getElem (by rw [HN2.out]; exact hkN)]; exact List.getElem_mem _)
                  rw [hp] at q0
                  have HMM := hide hmem
                  clear hp hc hmem
                  go_wp2_with (go_at_call 15; refine (CHA.out p).mono ?_; rintro e w9 ⟨h9, BB, rfl, hBB⟩; rw [h9]; have e9 : BB = true := hBB.2 HMM.out; subst e9; clear h9 w9 hBB)
                  go_roundw
                  case rel => exact ⟨k2 + 1, by omega, by go_num, by first | rfl | trivial⟩
                  case measure => simp [intOf]; omega
                · go_wp2
                  go_ret
                  exact ⟨rfl, B1.out.trans (HBB.out.mono B1.out.size)⟩
    · go_wp2_with fail
      refine (CS.out _ BC.out).mono ?_
      rintro e w3 ⟨sa, sc, rfl, hir3, hb3⟩
      have B3 := hide (BC.out.trans (hb3.mono BC.out.size))
      have HR3 := hide (rp_row hir3)
      have HRK := hide (rp_row (gOwn_after HIC.out hb3))
      clear hir3 hb3
      go_wp2_with fail
      refine (same_same ka sa K kc sc Q _ HKK.out (by omega) HRK.out HR3.out).mono ?_
      rintro e w4 ⟨rfl, q4, rfl⟩
      go_wp2
      go_ret
      exact ⟨rfl, (B1.out.trans (B3.out.mono B1.out.size)).trans ⟨rfl, rfl, rfl, Nat.le_refl _, fun _ _ => rfl⟩⟩
end Go.Proofs.YtpakkllcemcfdaaGreatDoor
