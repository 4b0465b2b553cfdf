/-
  The walk of the law on characters: a text is the bytes of its characters, and characters come back from their bytes.
-/
import Derived.Test.YtoibjjlicakfjaaDoorDrawRn
namespace Go.Proofs.YtoibjjlicakfjaaDoor
open Go.RowKit
set_option linter.unusedVariables false
set_option linter.unusedSimpArgs false
set_option maxHeartbeats 1000000 in
theorem same_ints (a1 a2 : Option Addr) (n m c1 c2 : Nat) (xs ys : List Int) (w : World) (hx : xs.length = n) (hy : ys.length = m) (hn : n ≤ 1048576) (hm : m ≤ 1048576) (h1 : RowAt .i64 w a1 xs w.heap.size) (h2 : RowAt .i64 w a2 ys w.heap.size) :
    Calls Tryd.prog 8 #[.slice a1 n c1, .slice a2 m c2] w fun e w' => e = .returned (.bool (decide (xs = ys))) ∧ ∃ q, w' = w.drewN q := by
  have HX : Hid (xs.length = n) := hx
  have HY : Hid (ys.length = m) := hy
  have H1 : Hid (RowAt .i64 w a1 xs w.heap.size) := h1
  have H2 : Hid (RowAt .i64 w a2 ys w.heap.size) := h2
  clear hx hy h1 h2
  by_cases hnm : n = m
  · subst hnm
    go_enter Tryd.func8, Tryd.ntmps8
    go_wp2
    go_loopw [5] (fun i wr => ∃ k : Nat, k ≤ n ∧ i = .int .i64 k ∧ (∃ q, wr = w.drewN q) ∧ ∀ j, j < k → xs[j]?.getD 0 = ys[j]?.getD 0) (fun i _ => n - (intOf i).toNat)
    case atStart => exact ⟨0, Nat.zero_le _, rfl, ⟨0, rfl⟩, fun j h => by omega⟩
    case round =>
      obtain ⟨k, hk, rfl, ⟨q, rfl⟩, hsame⟩ := hrel
      have HS := hide hsame
      clear hsame
      by_cases hlt : k < n
      · obtain ⟨b, off, rfl, hbs, hc⟩ := rowAt_cell H1.out k (by rw [HX.out]; exact hlt)
        obtain ⟨b', off', rfl, hbs', hc'⟩ := rowAt_cell H2.out k (by rw [HY.out]; exact hlt)
        have hc1 := hc k (by rw [HX.out]; exact hlt)
        have hc2 := hc' k (by rw [HY.out]; exact hlt)
        have hi : (k : Int) < (n : Int) := by omega
        have hi0 : (0 : Int) ≤ (k : Int) := by omega
        clear hc hc'
        cases hb : (xs[k]?.getD 0 != ys[k]?.getD 0)
        · go_wp2
          go_quiet (fail)
          go_wp2
          go_roundw
          case rel =>
            refine ⟨k + 1, by omega, by go_num, ⟨q + nq, by simp⟩, fun j hj => ?_⟩
            by_cases e : j = k
            · subst e; simpa using hb
            · exact HS.out j (by omega)
          case measure => simp [intOf]; omega
        · go_wp2
          go_quiet (fail)
          go_wp2
          go_ret
          exact ⟨ret_bool (eqB_f _ _ (fun e => by rw [e] at hb; simp at hb)), q + nq, by simp⟩
      · go_wp2
        go_ret
        exact ⟨ret_bool (eqB_t _ _ (get_ext xs ys (by rw [HX.out, HY.out]) (fun j hj => HS.out j (by have := HX.out; omega)))), _, rfl⟩
  · have hne : ((n : Int) != (m : Int)) = true := by simp; omega
    go_enter Tryd.func8, Tryd.ntmps8
    go_wp2
    go_ret
    exact ⟨ret_bool (eqB_f _ _ (fun e => by have := HX.out; have := HY.out; subst e; omega)), 0, rfl⟩

set_option maxHeartbeats 1000000 in
theorem s_of0 (a : Option Addr) (cap : Nat) (w : World) :
    Calls Tryd.prog 11 #[.slice a 0 cap] w fun e w' => e = .returned (.tuple #[.string (resT (goR [] [])), .bool (resB (goR [] []))]) ∧ Below w.heap.size w w' := by
  have hown := World.ownsRow_made (base := w.heap.size) (e := 5) (size := 1) w #[] 0 (Nat.le_refl _) (Nat.zero_le _) rfl
  have hcv := conv_own (acc := []) hown
  simp only [List.length_nil] at hcv
  clear hown
  go_enter Tryd.func11, Tryd.ntmps11
  go_wp2
  go_loopw [4, 5] (fun v i wr => v = .slice (some ⟨w.heap.size, 0, none⟩) 0 0 ∧ i = .int .i64 0 ∧ wr = w.alloc (.cells #[] 5)) (fun _ _ _ => 0)
  case atStart => exact ⟨rfl, rfl, rfl⟩
  case round =>
    obtain ⟨rfl, rfl, rfl⟩ := hrel
    go_wp2
    go_ret2
    exact ⟨rfl, (Below.refl _ _).alloc (Nat.le_refl _) _⟩
theorem s_of_row (a : Option Addr) (n cap : Nat) (xs : List Int) (w : World) (hx : xs.length = n) (hn : n ≤ 1048576) (hr : RowAt .i64 w a xs w.heap.size) :
    Calls Tryd.prog 11 #[.slice a n cap] w fun e w' => e = .returned (.tuple #[.string (resT (goR [] xs)), .bool (resB (goR [] xs))]) ∧ Below w.heap.size w w' := by
  by_cases h0 : xs = []
  · subst h0
    subst hx
    exact s_of0 a cap w
  · obtain ⟨b, off, rfl, hb, hc⟩ := hr h0
    exact s_of b off n cap xs w hx hn hb (fun j hj => hc j (by omega))
theorem same_same (a1 a2 : Option Addr) (n c1 c2 : Nat) (xs : List Int) (w : World) (hx : xs.length = n) (hn : n ≤ 1048576) (h1 : RowAt .i64 w a1 xs w.heap.size) (h2 : RowAt .i64 w a2 xs w.heap.size) :
    Calls Tryd.prog 8 #[.slice a1 n c1, .slice a2 n c2] w fun e w' => e = .returned (.bool true) ∧ ∃ q, w' = w.drewN q := by
  refine (same_ints a1 a2 n n c1 c2 xs xs w hx hx hn hn h1 h2).mono ?_
  rintro e w' ⟨rfl, h⟩
  exact ⟨by simp, h⟩
/-- What is read of a text comes back as that text. -/
theorem back_text {s : ByteArray} {L : List Int} (h : outL (rns s) = L) (hb : (rns s).isSome = true) : goR [] L = some (numsL s.data.toList) ∧ L.length ≤ s.size := by
  unfold rns at h hb
  by_cases hs : s.size ≤ 20000
  · rw [if_pos hs] at h hb
    cases hx : runesL s.data.toList with
    | none => rw [hx] at hb; cases hb
    | some x =>
      rw [hx] at h
      have e : x = L := h
      subst e
      have hl : s.data.toList.length = s.size := Array.length_toList
      refine ⟨?_, ?_⟩
      · rw [runes_back _ _ (Nat.le_refl _) x [] hx (by rw [hl]; simpa using hs)]; rfl
      · have := runesL_len _ _ (Nat.le_refl _) x hx
        omega
  · rw [if_neg hs] at hb; cases hb
/-- Characters come back from their bytes. -/
theorem back_list {xs bs : List Int} (h : goR [] xs = some bs) : rns (strOfNums bs) = some xs := by
  obtain ⟨h1, h2, h3⟩ := goR_enc xs [] bs h
  rw [List.nil_append] at h1
  subst h1
  unfold rns
  rw [if_pos (by rw [strOfNums_size]; exact h3 (by simp)), strOfNums_data]
  exact runes_enc xs h2
theorem src_below {w w' : World} {a : Option Addr} {zs : List Int} (h : SrcAt w a zs w.heap.size) (hb : Below w.heap.size w w') : SrcAt w' a zs w'.heap.size := by
  intro hne
  obtain ⟨b, off, rfl, hlt, hc⟩ := h hne
  exact ⟨b, off, rfl, Nat.lt_of_lt_of_le hlt hb.size, fun j hj => (hb.cell (p := ⟨b, off + j, none⟩) hlt).trans (hc j hj)⟩
set_option maxHeartbeats 4000000 in
theorem rn_walk (a : Option Addr) (n cap : Nat) (zs : List Int) (w : World) (hl : zs.length = n) (hz : ∀ x ∈ zs, 0 ≤ x ∧ x ≤ 255) (hn : n ≤ 1048576) (hs : SrcAt w a zs w.heap.size) (hT : Tabs w) :
    Calls Tryd.prog 3 #[.slice a n cap] w fun e w' => e = .returned (.bool true) ∧ Below w.heap.size w w' := by
  have hn' : ¬ (1048576 : Int) < (n : Int) := by omega
  have HS := hide hs
  have HL := hide hl
  have HZ := hide hz
  have HT := hide hT
  clear hs hl hz hT
  have second : ∀ w9, Hid (Below w.heap.size w w9) → Calls Tryd.prog 10 #[.slice a n cap] w9 fun e w' => ∃ (xs : List Int) (ad : Option Addr) (c : Nat), xs.length ≤ 6 ∧ e = .returned (.slice ad xs.length c) ∧ w'.ownsRow (w9.heap.size + 1) 2 1 (.slice ad xs.length c) xs.length (xs.map (Value.int .i64)) ∧ Below w9.heap.size w9 w' :=
    fun w9 hb => d_ofrunes a n cap zs w9 HL.out HZ.out hn (src_below HS.out hb.out)
  have SEC := hide second
  clear second
  go_enter Tryd.func3, Tryd.ntmps3
  go_wp2_with (go_at_call 4; go_in)
  refine (d_runes a n cap zs _ HL.out HZ.out hn HS.out).mono ?_
  rintro e w1 ⟨s, hss, rfl, hb1⟩
  have B1 := hide hb1
  clear hb1
  have hs20 : s.size ≤ 1048576 := by omega
  have hlen := outL_len s
  obtain ⟨L, hL⟩ : ∃ L, outL (rns s) = L := ⟨_, rfl⟩
  obtain ⟨b, hb⟩ : ∃ b, (rns s).isSome = b := ⟨_, rfl⟩
  rw [hL] at hlen
  have HLL := hide hL
  have HBb := hide hb
  have hLn : L.length ≤ 1048576 := by omega
  clear hL hb
  go_wp2_with fail
  refine (i_runes_lb s L b _ hs20 (tabs_below HT.out B1.out) HLL.out HBb.out).mono ?_
  rintro e w2 ⟨ad2, c2, rfl, ho2, hb2⟩
  have O2 := hide ho2
  have B2 := hide (B1.out.trans (hb2.mono B1.out.size))
  clear ho2 hb2
  go_wp2_with fail
  refine (s_runes_lb s L b _ hs20 HLL.out HBb.out).mono ?_
  rintro e w3 ⟨ad3, c3, rfl, ho3, hb3⟩
  have O3 := hide ho3
  have O2b := hide (own_below' O2.out hb3)
  have B3 := hide (B2.out.trans (hb3.mono B2.out.size))
  clear ho3 hb3
  go_wp2_with fail
  refine (same_same ad2 ad3 L.length c2 c3 L _ rfl hLn (own_rowAt' rfl O2b.out) (own_rowAt' rfl O3.out)).mono ?_
  rintro e w4 ⟨rfl, q, rfl⟩
  have B4 : Hid (Below w.heap.size w (w3.drewN q)) := hide (B3.out.trans (c := w3.drewN q) ⟨rfl, rfl, rfl, Nat.le_refl _, fun _ _ => rfl⟩)
  have R4 : Hid (RowAt .i64 (w3.drewN q) ad2 L (w3.drewN q).heap.size) := hide (own_rowAt' rfl O2b.out)
  obtain ⟨wx, hwx⟩ : ∃ wx, w3.drewN q = wx := ⟨_, rfl⟩
  rw [hwx] at B4 R4 ⊢
  clear hwx O2 O3 O2b B2 B3
  cases b
  · have B5 := B4
    go_wp2_with fail
    refine (SEC.out _ B5).mono ?_
    rintro e w6 ⟨xs, ad6, c6, hx6, rfl, ho6, hb6⟩
    have O6 := hide ho6
    have B6 := hide (B5.out.trans (hb6.mono B5.out.size))
    clear ho6 hb6
    have hxn : xs.length ≤ 1048576 := by omega
    obtain ⟨o, hgo⟩ : ∃ o, goR [] xs = o := ⟨_, rfl⟩
    have GO := hide hgo
    clear hgo
    go_wp2_with fail
    refine (i_of_row ad6 xs.length c6 xs _ rfl hxn (own_rowAt' rfl O6.out)).mono ?_
    rintro e w7 ⟨rfl, hb7⟩
    have O7 := hide (own_below' O6.out hb7)
    have B7 := hide (B6.out.trans (hb7.mono B6.out.size))
    clear hb7
    rw [GO.out]
    go_wp2_with fail
    refine (s_of_row ad6 xs.length c6 xs _ rfl hxn (own_rowAt' rfl O7.out)).mono ?_
    rintro e w8 ⟨rfl, hb8⟩
    have O8 := hide (own_below' O7.out hb8)
    have B8 := hide (B7.out.trans (hb8.mono B7.out.size))
    clear hb8
    rw [GO.out]
    have hus : (resT o).size ≤ 1048576 := by
      cases ho : o with
      | none => show 0 ≤ _; omega
      | some bs =>
        have := (goR_enc xs [] bs (by rw [GO.out, ho])).2.2 (by simp)
        show (strOfNums bs).size ≤ _
        rw [strOfNums_size]; omega
    obtain ⟨u, hu⟩ : ∃ u, resT o = u := ⟨_, rfl⟩
    obtain ⟨M, hM⟩ : ∃ M, outL (rns u) = M := ⟨_, rfl⟩
    obtain ⟨d, hd⟩ : ∃ d, (rns u).isSome = d := ⟨_, rfl⟩
    have hMl := outL_len u
    rw [hM] at hMl
    have hMn : M.length ≤ 1048576 := by omega
    have HBK : Hid (resB o = true → M = xs) := hide (fun hr => by
      cases ho : o with
      | none => rw [ho] at hr; cases hr
      | some bs =>
        rw [← hM, ← hu, ho]
        show outL (rns (strOfNums bs)) = xs
        rw [back_list (by rw [GO.out, ho])]; rfl)
    rw [hu] at hus ⊢
    have HM := hide hM
    have HD := hide hd
    clear hM hd hu
    obtain ⟨g, hg⟩ : ∃ g, resB o = g := ⟨_, rfl⟩
    rw [hg] at HBK ⊢
    clear hg GO
    go_wp2_with fail
    refine (i_runes_lb u M d _ hus (tabs_below HT.out B8.out) HM.out HD.out).mono ?_
    rintro e w9 ⟨ad9, c9, rfl, ho9, hb9⟩
    have O9 := hide ho9
    have O8b := hide (own_below' O8.out hb9)
    have B9 := hide (B8.out.trans (hb9.mono B8.out.size))
    clear ho9 hb9
    cases g
    · go_wp2
      go_ret
      exact ⟨rfl, B9.out⟩
    · have e := HBK.out rfl
      subst e
      go_wp2_with fail
      refine (same_same ad9 ad6 M.length c9 c6 M _ rfl hMn (own_rowAt' rfl O9.out) (own_rowAt' rfl O8b.out)).mono ?_
      rintro e w10 ⟨rfl, q2, rfl⟩
      go_wp2
      go_ret
      exact ⟨rfl, ⟨B9.out.os, B9.out.tape, B9.out.output, B9.out.size, B9.out.block⟩⟩
  · obtain ⟨hgo, hle⟩ := back_text HLL.out HBb.out
    have GO0 := hide hgo
    have hle' : ¬ (s.size : Int) < (L.length : Int) := by omega
    clear hgo hle
    go_wp2_with fail
    refine (i_of_row ad2 L.length c2 L _ rfl hLn R4.out).mono ?_
    rintro e w5 ⟨rfl, hb5⟩
    rw [GO0.out]
    have e1 : resT (some (numsL s.data.toList)) = s := nums_str s
    have e2 : resB (some (numsL s.data.toList)) = true := rfl
    rw [e1, e2]
    have B5 := hide (B4.out.trans (hb5.mono B4.out.size))
    clear hb5 e1 e2 GO0
    go_wp2_with fail
    refine (SEC.out _ B5).mono ?_
    rintro e w6 ⟨xs, ad6, c6, hx6, rfl, ho6, hb6⟩
    have O6 := hide ho6
    have B6 := hide (B5.out.trans (hb6.mono B5.out.size))
    clear ho6 hb6
    have hxn : xs.length ≤ 1048576 := by omega
    obtain ⟨o, hgo⟩ : ∃ o, goR [] xs = o := ⟨_, rfl⟩
    have GO := hide hgo
    clear hgo
    go_wp2_with fail
    refine (i_of_row ad6 xs.length c6 xs _ rfl hxn (own_rowAt' rfl O6.out)).mono ?_
    rintro e w7 ⟨rfl, hb7⟩
    have O7 := hide (own_below' O6.out hb7)
    have B7 := hide (B6.out.trans (hb7.mono B6.out.size))
    clear hb7
    rw [GO.out]
    go_wp2_with fail
    refine (s_of_row ad6 xs.length c6 xs _ rfl hxn (own_rowAt' rfl O7.out)).mono ?_
    rintro e w8 ⟨rfl, hb8⟩
    have O8 := hide (own_below' O7.out hb8)
    have B8 := hide (B7.out.trans (hb8.mono B7.out.size))
    clear hb8
    rw [GO.out]
    have hus : (resT o).size ≤ 1048576 := by
      cases ho : o with
      | none => show 0 ≤ _; omega
      | some bs =>
        have := (goR_enc xs [] bs (by rw [GO.out, ho])).2.2 (by simp)
        show (strOfNums bs).size ≤ _
        rw [strOfNums_size]; omega
    obtain ⟨u, hu⟩ : ∃ u, resT o = u := ⟨_, rfl⟩
    obtain ⟨M, hM⟩ : ∃ M, outL (rns u) = M := ⟨_, rfl⟩
    obtain ⟨d, hd⟩ : ∃ d, (rns u).isSome = d := ⟨_, rfl⟩
    have hMl := outL_len u
    rw [hM] at hMl
    have hMn : M.length ≤ 1048576 := by omega
    have HBK : Hid (resB o = true → M = xs) := hide (fun hr => by
      cases ho : o with
      | none => rw [ho] at hr; cases hr
      | some bs =>
        rw [← hM, ← hu, ho]
        show outL (rns (strOfNums bs)) = xs
        rw [back_list (by rw [GO.out, ho])]; rfl)
    rw [hu] at hus ⊢
    have HM := hide hM
    have HD := hide hd
    clear hM hd hu
    obtain ⟨g, hg⟩ : ∃ g, resB o = g := ⟨_, rfl⟩
    rw [hg] at HBK ⊢
    clear hg GO
    go_wp2_with fail
    refine (i_runes_lb u M d _ hus (tabs_below HT.out B8.out) HM.out HD.out).mono ?_
    rintro e w9 ⟨ad9, c9, rfl, ho9, hb9⟩
    have O9 := hide ho9
    have O8b := hide (own_below' O8.out hb9)
    have B9 := hide (B8.out.trans (hb9.mono B8.out.size))
    clear ho9 hb9
    cases g
    · go_wp2
      go_ret
      exact ⟨rfl, B9.out⟩
    · have e := HBK.out rfl
      subst e
      go_wp2_with fail
      refine (same_same ad9 ad6 M.length c9 c6 M _ rfl hMn (own_rowAt' rfl O9.out) (own_rowAt' rfl O8b.out)).mono ?_
      rintro e w10 ⟨rfl, q2, rfl⟩
      go_wp2
      go_ret
      exact ⟨rfl, ⟨B9.out.os, B9.out.tape, B9.out.output, B9.out.size, B9.out.block⟩⟩
end Go.Proofs.YtoibjjlicakfjaaDoor
