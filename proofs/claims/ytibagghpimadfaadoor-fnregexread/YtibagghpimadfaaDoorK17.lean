/-
  Texts put together: TeS, TeC.
-/
import Derived.Test.YtibagghpimadfaaDoorK16
import Derived.Test.YtibagghpimadfaaDoorK2
/-
  Contracts of the specification: signs, characters' texts, classes' texts, counts' texts.
-/
namespace Go.Proofs.YtibagghpimadfaaDoor
open Go.RowKit Go.Joins
set_option linter.unusedVariables false
set_option linter.unusedSimpArgs false
set_option maxRecDepth 100000 in
set_option maxHeartbeats 2000000 in
theorem s_meta (c : Int) (w : World) : Calls Tryd.prog 86 #[.int .i64 c] w fun e w' => e = .returned (.bool (isS sgO c)) ∧ w' = w := by
  go_enter Tryd.func86, Tryd.ntmps86
  go_wp2
  go_loop [3] (fun i => ∃ k : Nat, k ≤ 12 ∧ i = .int .i64 k ∧ Hid (∀ j, j < k → ((sgO[j]?.getD 0).toNat : Int) ≠ c)) (fun i => 12 - (intOf i).toNat)
  case atStart => exact ⟨0, Nat.zero_le _, rfl, fun j h => by omega⟩
  case round =>
    obtain ⟨k, hk, rfl, HA⟩ := hrel
    by_cases hlt : k < 12
    · have hki : (k : Int) < 12 := by omega
      have hkb : k < (⟨#[46, 92, 63, 42, 43, 123, 125, 40, 41, 124, 91, 93]⟩ : ByteArray).size := hlt
      have hkb2 : (k : Int) < ((⟨#[46, 92, 63, 42, 43, 123, 125, 40, 41, 124, 91, 93]⟩ : ByteArray).size : Int) := hki
      obtain ⟨x, hx⟩ : ∃ x : UInt8, (⟨#[46, 92, 63, 42, 43, 123, 125, 40, 41, 124, 91, 93]⟩ : ByteArray)[k]'hkb = x := ⟨_, rfl⟩
      have hx2 : sgO[k]?.getD 0 = x := by
        rw [← hx]
        have hkl : k < sgO.length := hlt
        rw [List.getElem?_eq_getElem hkl]
        rfl
      have HX2 := hide hx2
      have hx8 : x.toNat < 256 := x.toNat_lt
      clear hx2
      by_cases he : (x.toNat : Int) = c
      · have heb : ((x.toNat : Int) == c) = true := by rw [beq_iff_eq]; exact he
        have HY : Hid (isS sgO c = true) := hide (isS_yes (j := k) hlt (by rw [HX2.out]; exact he))
        clear he
        go_wp2
        go_ret
        exact ⟨ret_bool HY.out.symm, rfl⟩
      · have heb : ((x.toNat : Int) == c) = false := by rw [beq_eq_false_iff_ne]; exact he
        have HA2 : Hid (∀ j, j < k + 1 → ((sgO[j]?.getD 0).toNat : Int) ≠ c) := hide (fun j hj => by
          by_cases e : j = k
          · subst e; rw [HX2.out]; exact he
          · exact HA.out j (by omega))
        clear he
        go_wp2
        go_round
        case rel => exact ⟨k + 1, by omega, by go_num, HA2⟩
        case measure => simp [intOf]; omega
    · have hkm : k = 12 := by omega
      subst hkm
      have HN : Hid (isS sgO c = false) := hide (isS_no HA.out)
      go_wp2
      go_ret
      exact ⟨ret_bool HN.out.symm, rfl⟩
theorem ch_sgI (c : Int) : isS sgI c = decide (c = 91 ∨ c = 93 ∨ c = 92 ∨ c = 45 ∨ c = 94) := by
  unfold isS sgI
  rw [Bool.eq_iff_iff]
  simp
  omega
/-- A character's text, written within brackets or not. -/
def sgOf (ins : Bool) : List UInt8 := if ins = true then sgI else sgO
set_option maxRecDepth 100000 in
set_option maxHeartbeats 4000000 in
theorem s_sign (c : Int) (ins : Bool) (w : World) (hc : chB c = true) : Calls Tryd.prog 75 #[.int .i64 c, .bool ins] w fun e w' => e = .returned (.string (chT (sgOf ins) c)) ∧ Below w.heap.size w w' := by
  by_cases h10 : c = 10
  · subst h10
    go_enter Tryd.func75, Tryd.ntmps75
    go_wp2
    go_ret
    exact ⟨rfl, Below.refl _ _⟩
  · by_cases h13 : c = 13
    · subst h13
      go_enter Tryd.func75, Tryd.ntmps75
      go_wp2
      go_ret
      exact ⟨rfl, Below.refl _ _⟩
    · by_cases h9 : c = 9
      · subst h9
        go_enter Tryd.func75, Tryd.ntmps75
        go_wp2
        go_ret
        exact ⟨rfl, Below.refl _ _⟩
      · have b10 : (c == 10) = false := by rw [beq_eq_false_iff_ne]; exact h10
        have b13 : (c == 13) = false := by rw [beq_eq_false_iff_ne]; exact h13
        have b9 : (c == 9) = false := by rw [beq_eq_false_iff_ne]; exact h9
        have HCH : Hid (∀ b, isS (sgOf ins) c = b → chT (sgOf ins) c = if b = true then ⟨#[92]⟩ ++ Utf8.encode c else Utf8.encode c) := hide (fun b hb => by
          unfold chT
          rw [if_neg h10, if_neg h13, if_neg h9, hb])
        have CE := hide (s_enc c w hc)
        have hes := enc_size c
        obtain ⟨E, hE⟩ : ∃ E, Utf8.encode c = E := ⟨_, rfl⟩
        rw [hE] at CE HCH hes
        have CM := hide (s_meta c w)
        clear hE hc
        cases ins
        · cases hm : isS sgO c
          · have HV := hide (HCH.out false hm)
            rw [hm] at CM
            clear h10 h13 h9
            go_enter Tryd.func75, Tryd.ntmps75
            go_wp2_with (first | (go_at_call 86; refine CM.out.mono ?_; rintro e w9 ⟨rfl, h9⟩; rw [h9]; clear h9 w9) | (go_at_call 87; refine CE.out.mono ?_; rintro e w2 ⟨rfl, hb2⟩; have HB2 := hide hb2; clear hb2))
            go_ret
            exact ⟨ret_s9 (by rw [HV.out]; rfl), HB2.out⟩
          · have HV := hide (HCH.out true hm)
            rw [hm] at CM
            clear h10 h13 h9
            go_enter Tryd.func75, Tryd.ntmps75
            go_wp2_with (first | (go_at_call 86; refine CM.out.mono ?_; rintro e w9 ⟨rfl, h9⟩; rw [h9]; clear h9 w9) | (go_at_call 87; refine CE.out.mono ?_; rintro e w2 ⟨rfl, hb2⟩; have HB2 := hide hb2; clear hb2))
            go_ret
            exact ⟨ret_s9 (by rw [HV.out]; rfl), HB2.out⟩
        · by_cases hx : c = 91 ∨ c = 93 ∨ c = 92 ∨ c = 45 ∨ c = 94
          · have HV := hide (HCH.out true (by show isS sgI c = true; rw [ch_sgI]; exact decide_eq_true hx))
            clear h10 h13 h9
            rcases hx with rfl | rfl | rfl | rfl | rfl
            all_goals
              go_enter Tryd.func75, Tryd.ntmps75
              go_wp2_with (first | (go_at_call 86; refine CM.out.mono ?_; rintro e w9 ⟨rfl, h9⟩; rw [h9]; clear h9 w9; simp only [isS, sgO, List.any_cons, List.any_nil]) | (go_at_call 87; refine CE.out.mono ?_; rintro e w2 ⟨rfl, hb2⟩; have HB2 := hide hb2; clear hb2))
              go_ret
              exact ⟨ret_s9 (by rw [HV.out]; rfl), HB2.out⟩
          · have HV := hide (HCH.out false (by show isS sgI c = false; rw [ch_sgI]; exact decide_eq_false hx))
            have b1 : (c == 91) = false := by rw [beq_eq_false_iff_ne]; omega
            have b2 : (c == 93) = false := by rw [beq_eq_false_iff_ne]; omega
            have b3 : (c == 92) = false := by rw [beq_eq_false_iff_ne]; omega
            have b4 : (c == 45) = false := by rw [beq_eq_false_iff_ne]; omega
            have b5 : (c == 94) = false := by rw [beq_eq_false_iff_ne]; omega
            clear hx h10 h13 h9
            cases hm : isS sgO c
            all_goals
              rw [hm] at CM
              go_enter Tryd.func75, Tryd.ntmps75
              go_wp2_with (first | (go_at_call 86; refine CM.out.mono ?_; rintro e w9 ⟨rfl, h9⟩; rw [h9]; clear h9 w9) | (go_at_call 87; refine CE.out.mono ?_; rintro e w2 ⟨rfl, hb2⟩; have HB2 := hide hb2; clear hb2))
              go_ret
              exact ⟨ret_s9 (by rw [HV.out]; rfl), HB2.out⟩
end Go.Proofs.YtibagghpimadfaaDoor

/-
  Contracts of the specification: classes' texts, counts' texts.
-/
namespace Go.Proofs.YtibagghpimadfaaDoor
open Go.RowKit Go.Joins
set_option linter.unusedVariables false
set_option linter.unusedSimpArgs false
theorem te_assoc (a b c : ByteArray) : a ++ b ++ c = a ++ (b ++ c) := ByteArray.append_assoc
/-- What the ranges of a class are. -/
def RgOk (n : Nat) (L H : Nat → Int) : Prop := 1 ≤ n ∧ n ≤ 12 ∧ ∀ i, i < n → chB (L i) = true ∧ chB (H i) = true ∧ L i ≤ H i
theorem nodeAt_drewN {w : World} {G : Nat} {kd : Int} {nt : Bool} {a : Option Addr} {n c : Nat} {A B mn mx : Int} (h : NodeAt w G kd nt a n c A B mn mx) (q : Nat) : NodeAt (w.drewN q) G kd nt a n c A B mn mx := h
theorem te_drew {b : Nat} {w w1 : World} (h : Below b w w1) (q : Nat) : Below b w (w1.drewN q) := h.trans ⟨rfl, rfl, rfl, Nat.le_refl _, fun _ _ => rfl⟩
theorem ctA_succ {s : ByteArray} {L H : Nat → Int} {k : Nat} (h : L k = H k) : ctA s L H (k + 1) = ctA s L H k ++ chT sgI (L k) := by rw [ctA, if_pos h]
theorem ctA_more {s : ByteArray} {L H : Nat → Int} {k : Nat} (h : L k ≠ H k) : ctA s L H (k + 1) = ctA s L H k ++ chT sgI (L k) ++ (⟨#[45]⟩ ++ chT sgI (H k)) := by rw [ctA, if_neg h]
set_option maxRecDepth 100000 in
set_option maxHeartbeats 8000000 in
theorem s_cls (nt : Bool) (ad : Option Addr) (n cp : Nat) (A B mn mx : Int) (L H : Nat → Int) (w : World) (hok : RgOk n L H) (hr : RngAt w ad n L H w.heap.size) :
    Calls Tryd.prog 58 #[.agg #[.int .i64 2, .bool nt, .slice ad n cp, .int .i64 A, .int .i64 B, .int .i64 mn, .int .i64 mx]] w fun e w' => e = .returned (.string (ctT nt n L H)) ∧ Below w.heap.size w w' := by
  obtain ⟨h1, h12, hch⟩ := hok
  obtain ⟨b, off, rfl, hb, hrow⟩ := hr (by omega)
  have HROW := hide hrow
  have HCH := hide hch
  have hn0 : (0 : Int) < n := by omega
  obtain ⟨r0, r1⟩ := hrow 0 (by omega)
  obtain ⟨c0, c1, c2⟩ := hch 0 (by omega)
  have st := fun o : Obj => (Below.refl w.heap.size w).alloc (Nat.le_refl _) o
  have HN0 := fun T => nodeAt_new w 2 nt (some ⟨b, off, none⟩) n cp A B mn mx T
  have LOOP0 : Hid (oneC nt n L H = false → ctT nt n L H = ctA (ct0 nt) L H n ++ ⟨#[93]⟩) := hide (fun h => by unfold ctT; rw [h]; rfl)
  have r0' : w.cell? ⟨b, off, none⟩ = some (.int .i64 (L 0)) := by simpa using r0
  have r1' : w.cell? ⟨b, off + 1, none⟩ = some (.int .i64 (H 0)) := by simpa using r1
  clear r0 r1 hrow hch
  cases nt
  · by_cases hn1 : n = 1
    · have hnb : ((n : Int) == 1) = true := by rw [beq_iff_eq]; omega
      obtain ⟨l0, hl0⟩ : ∃ l0, L 0 = l0 := ⟨_, rfl⟩
      obtain ⟨h0, hh0⟩ : ∃ h0, H 0 = h0 := ⟨_, rfl⟩
      rw [hl0] at r0' c0
      rw [hh0] at r1'
      by_cases heq : l0 = h0
      · have heb : (l0 == h0) = true := by rw [beq_iff_eq]; exact heq
        have HV : Hid (ctT false n L H = chT sgO l0) := hide (by
          unfold ctT oneC
          rw [hnb, hl0, hh0, heb]
          rfl)
        have CS := hide (fun w9 => s_sign l0 false w9 c0)
        clear heq hn1 hl0 hh0
        go_enter Tryd.func58, Tryd.ntmps58
        go_wp2
        go_quiet (fail)
        go_wp2_with (go_at_call_of 75 (Value.int .i64 l0); refine (CS.out _).mono ?_; rintro e w2 ⟨rfl, hb2⟩; have HB2 := hide ((te_drew (st _) _).trans (hb2.mono (te_drew (st _) _).size)); clear hb2)
        go_ret
        exact ⟨ret_s9 HV.out.symm, HB2.out⟩
      · have heb : (l0 == h0) = false := by rw [beq_eq_false_iff_ne]; exact heq
        have HONE : Hid (oneC false n L H = false) := hide (by unfold oneC; rw [hnb, hl0, hh0, heb]; rfl)
        have LOOP := hide (LOOP0.out HONE.out)
        clear heq hn1 hl0 hh0 LOOP0
        go_enter Tryd.func58, Tryd.ntmps58
        go_wp2
        go_quiet (fail)
        go_wp2
        go_loopw [3, 4] (fun sv iv wr => ∃ (k : Nat) (S : ByteArray), k ≤ n ∧ iv = .int .i64 k ∧ sv = .string S ∧ S.size ≤ 2 + 11 * k ∧ Hid (S = ctA (ct0 false) L H k) ∧ Hid (NodeAt wr w.heap.size 2 false (some ⟨b, off, none⟩) n cp A B mn mx) ∧ Hid (Below w.heap.size w wr)) (fun _ iv _ => n - (intOf iv).toNat)
        case atStart => exact ⟨0, _, Nat.zero_le _, rfl, rfl, by decide, rfl, nodeAt_drewN (HN0 _) _, te_drew (st _) _⟩
        case round =>
          obtain ⟨k, S, hk, rfl, rfl, hS, HS, HN, HB⟩ := hrel
          obtain ⟨n0, n1, n2, -, -, -, -⟩ := nodeAt_cells HN.out
          by_cases hlt : k < n
          · have hki : (k : Int) < n := by omega
            obtain ⟨x0, x1⟩ := HROW.out k hlt
            have y0 := (HB.out.cell (p := ⟨b, off + k * 2, none⟩) hb).trans x0
            have y1 := (HB.out.cell (p := ⟨b, off + k * 2 + 1, none⟩) hb).trans x1
            obtain ⟨d0, d1, d2⟩ := HCH.out k hlt
            obtain ⟨l, hl⟩ : ∃ l, L k = l := ⟨_, rfl⟩
            obtain ⟨h, hh⟩ : ∃ h, H k = h := ⟨_, rfl⟩
            rw [hl] at y0 d0 d2
            rw [hh] at y1 d1 d2
            have CS := hide (fun w9 => s_sign l true w9 d0)
            have CT := hide (fun w9 => s_sign h true w9 d1)
            have z1 := chT_size sgI l
            have z2 := chT_size sgI h
            have HLL := hide hl
            have HHH := hide hh
            obtain ⟨T1, hT1⟩ : ∃ T1, chT (sgOf true) l = T1 := ⟨_, rfl⟩
            obtain ⟨T2, hT2⟩ : ∃ T2, chT (sgOf true) h = T2 := ⟨_, rfl⟩
            rw [hT1] at CS
            rw [hT2] at CT
            rw [show chT sgI l = T1 from hT1] at z1
            rw [show chT sgI h = T2 from hT2] at z2
            have HT1 : Hid (chT sgI l = T1) := hide hT1
            have HT2 : Hid (chT sgI h = T2) := hide hT2
            clear x0 x1 hl hh hT1 hT2
            have ha1 : ¬ 9223372036854775807 < S.size + T1.size := by omega
            have ha2 : ¬ 9223372036854775807 < S.size + T1.size + 1 := by omega
            have ha3 : ¬ 9223372036854775807 < S.size + T1.size + 1 + T2.size := by omega
            have hbw : b < wr.heap.size := Nat.lt_of_lt_of_le hb HB.out.size
            by_cases heq : l = h
            · have hgt : decide (l < h) = false := decide_eq_false (by omega)
              have hgt2 : ¬ l < h := by omega
              have HV : Hid (ctA (ct0 false) L H (k + 1) = S ++ T1) := hide (by rw [ctA_succ (by rw [HLL.out, HHH.out]; exact heq), ← HS.out, HLL.out, HT1.out])
              clear heq
              go_wp2_with (go_at_call_of 75 (Value.int .i64 l); refine (CS.out _).mono ?_; rintro e w2 ⟨rfl, hb2⟩; have HB2 := hide (HB.out.trans (hb2.mono HB.out.size)); have HN2 := hide (nodeAt_go HN.out hb2); obtain ⟨m0, m1, m2, -, -, -, -⟩ := nodeAt_cells HN2.out; have u0 := (hb2.cell (p := ⟨b, off + k * 2, none⟩) hbw).trans y0; have u1 := (hb2.cell (p := ⟨b, off + k * 2 + 1, none⟩) hbw).trans y1; clear hb2)
              go_quiet (fail)
              go_wp2
              go_roundw
              case rel => exact ⟨k + 1, _, by omega, by go_num, rfl, by rw [te_size]; omega, hide HV.out.symm, hide (nodeAt_drewN HN2.out _), hide (te_drew HB2.out _)⟩
              case measure => simp [intOf]; omega
            · have hgt : decide (l < h) = true := decide_eq_true (by omega)
              have hgt2 : l < h := by omega
              have HV : Hid (ctA (ct0 false) L H (k + 1) = S ++ T1 ++ ⟨#[45]⟩ ++ T2) := hide (by rw [ctA_more (by rw [HLL.out, HHH.out]; exact heq), ← HS.out, HLL.out, HHH.out, HT1.out, HT2.out, te_assoc (S ++ T1)])
              clear heq
              go_wp2_with (go_at_call_of 75 (Value.int .i64 l); refine (CS.out _).mono ?_; rintro e w2 ⟨rfl, hb2⟩; have HB2 := hide (HB.out.trans (hb2.mono HB.out.size)); have HN2 := hide (nodeAt_go HN.out hb2); obtain ⟨m0, m1, m2, -, -, -, -⟩ := nodeAt_cells HN2.out; have u0 := (hb2.cell (p := ⟨b, off + k * 2, none⟩) hbw).trans y0; have u1 := (hb2.cell (p := ⟨b, off + k * 2 + 1, none⟩) hbw).trans y1; clear hb2)
              go_quiet (fail)
              go_wp2_with (go_at_call_of 75 (Value.int .i64 h); refine (CT.out _).mono ?_; rintro e w3 ⟨rfl, hb3⟩; have HB3 := hide ((te_drew HB2.out _).trans (hb3.mono (te_drew HB2.out _).size)); have HN3 := hide (nodeAt_go (nodeAt_drewN HN2.out _) hb3); clear hb3)
              go_roundw
              case rel => exact ⟨k + 1, _, by omega, by go_num, rfl, by simp only [te_size]; show S.size + T1.size + 1 + T2.size ≤ _; omega, hide HV.out.symm, HN3, HB3⟩
              case measure => simp [intOf]; omega
          · have hkn : k = n := by omega
            have ha1 : ¬ 9223372036854775807 < S.size + 1 := by omega
            have HV : Hid (ctT false n L H = S ++ ⟨#[93]⟩) := hide (by rw [LOOP.out, HS.out, hkn])
            clear hkn
            go_wp2
            go_ret
            exact ⟨ret_s9 HV.out.symm, HB.out⟩
    · have hnb : ((n : Int) == 1) = false := by rw [beq_eq_false_iff_ne]; omega
      have HONE : Hid (oneC false n L H = false) := hide (by unfold oneC; rw [hnb]; rfl)
      have LOOP := hide (LOOP0.out HONE.out)
      clear hn1 LOOP0
      go_enter Tryd.func58, Tryd.ntmps58
      go_wp2
      go_quiet (fail)
      go_wp2
      go_loopw [3, 4] (fun sv iv wr => ∃ (k : Nat) (S : ByteArray), k ≤ n ∧ iv = .int .i64 k ∧ sv = .string S ∧ S.size ≤ 2 + 11 * k ∧ Hid (S = ctA (ct0 false) L H k) ∧ Hid (NodeAt wr w.heap.size 2 false (some ⟨b, off, none⟩) n cp A B mn mx) ∧ Hid (Below w.heap.size w wr)) (fun _ iv _ => n - (intOf iv).toNat)
      case atStart => exact ⟨0, _, Nat.zero_le _, rfl, rfl, by decide, rfl, nodeAt_drewN (HN0 _) _, te_drew (st _) _⟩
      case round =>
        obtain ⟨k, S, hk, rfl, rfl, hS, HS, HN, HB⟩ := hrel
        obtain ⟨n0, n1, n2, -, -, -, -⟩ := nodeAt_cells HN.out
        by_cases hlt : k < n
        · have hki : (k : Int) < n := by omega
          obtain ⟨x0, x1⟩ := HROW.out k hlt
          have y0 := (HB.out.cell (p := ⟨b, off + k * 2, none⟩) hb).trans x0
          have y1 := (HB.out.cell (p := ⟨b, off + k * 2 + 1, none⟩) hb).trans x1
          obtain ⟨d0, d1, d2⟩ := HCH.out k hlt
          obtain ⟨l, hl⟩ : ∃ l, L k = l := ⟨_, rfl⟩
          obtain ⟨h, hh⟩ : ∃ h, H k = h := ⟨_, rfl⟩
          rw [hl] at y0 d0 d2
          rw [hh] at y1 d1 d2
          have CS := hide (fun w9 => s_sign l true w9 d0)
          have CT := hide (fun w9 => s_sign h true w9 d1)
          have z1 := chT_size sgI l
          have z2 := chT_size sgI h
          have HLL := hide hl
          have HHH := hide hh
          obtain ⟨T1, hT1⟩ : ∃ T1, chT (sgOf true) l = T1 := ⟨_, rfl⟩
          obtain ⟨T2, hT2⟩ : ∃ T2, chT (sgOf true) h = T2 := ⟨_, rfl⟩
          rw [hT1] at CS
          rw [hT2] at CT
          rw [show chT sgI l = T1 from hT1] at z1
          rw [show chT sgI h = T2 from hT2] at z2
          have HT1 : Hid (chT sgI l = T1) := hide hT1
          have HT2 : Hid (chT sgI h = T2) := hide hT2
          clear x0 x1 hl hh hT1 hT2
          have ha1 : ¬ 9223372036854775807 < S.size + T1.size := by omega
          have ha2 : ¬ 9223372036854775807 < S.size + T1.size + 1 := by omega
          have ha3 : ¬ 9223372036854775807 < S.size + T1.size + 1 + T2.size := by omega
          have hbw : b < wr.heap.size := Nat.lt_of_lt_of_le hb HB.out.size
          by_cases heq : l = h
          · have hgt : decide (l < h) = false := decide_eq_false (by omega)
            have hgt2 : ¬ l < h := by omega
            have HV : Hid (ctA (ct0 false) L H (k + 1) = S ++ T1) := hide (by rw [ctA_succ (by rw [HLL.out, HHH.out]; exact heq), ← HS.out, HLL.out, HT1.out])
            clear heq
            go_wp2_with (go_at_call_of 75 (Value.int .i64 l); refine (CS.out _).mono ?_; rintro e w2 ⟨rfl, hb2⟩; have HB2 := hide (HB.out.trans (hb2.mono HB.out.size)); have HN2 := hide (nodeAt_go HN.out hb2); obtain ⟨m0, m1, m2, -, -, -, -⟩ := nodeAt_cells HN2.out; have u0 := (hb2.cell (p := ⟨b, off + k * 2, none⟩) hbw).trans y0; have u1 := (hb2.cell (p := ⟨b, off + k * 2 + 1, none⟩) hbw).trans y1; clear hb2)
            go_quiet (fail)
            go_wp2
            go_roundw
            case rel => exact ⟨k + 1, _, by omega, by go_num, rfl, by rw [te_size]; omega, hide HV.out.symm, hide (nodeAt_drewN HN2.out _), hide (te_drew HB2.out _)⟩
            case measure => simp [intOf]; omega
          · have hgt : decide (l < h) = true := decide_eq_true (by omega)
            have hgt2 : l < h := by omega
            have HV : Hid (ctA (ct0 false) L H (k + 1) = S ++ T1 ++ ⟨#[45]⟩ ++ T2) := hide (by rw [ctA_more (by rw [HLL.out, HHH.out]; exact heq), ← HS.out, HLL.out, HHH.out, HT1.out, HT2.out, te_assoc (S ++ T1)])
            clear heq
            go_wp2_with (go_at_call_of 75 (Value.int .i64 l); refine (CS.out _).mono ?_; rintro e w2 ⟨rfl, hb2⟩; have HB2 := hide (HB.out.trans (hb2.mono HB.out.size)); have HN2 := hide (nodeAt_go HN.out hb2); obtain ⟨m0, m1, m2, -, -, -, -⟩ := nodeAt_cells HN2.out; have u0 := (hb2.cell (p := ⟨b, off + k * 2, none⟩) hbw).trans y0; have u1 := (hb2.cell (p := ⟨b, off + k * 2 + 1, none⟩) hbw).trans y1; clear hb2)
            go_quiet (fail)
            go_wp2_with (go_at_call_of 75 (Value.int .i64 h); refine (CT.out _).mono ?_; rintro e w3 ⟨rfl, hb3⟩; have HB3 := hide ((te_drew HB2.out _).trans (hb3.mono (te_drew HB2.out _).size)); have HN3 := hide (nodeAt_go (nodeAt_drewN HN2.out _) hb3); clear hb3)
            go_roundw
            case rel => exact ⟨k + 1, _, by omega, by go_num, rfl, by simp only [te_size]; show S.size + T1.size + 1 + T2.size ≤ _; omega, hide HV.out.symm, HN3, HB3⟩
            case measure => simp [intOf]; omega
        · have hkn : k = n := by omega
          have ha1 : ¬ 9223372036854775807 < S.size + 1 := by omega
          have HV : Hid (ctT false n L H = S ++ ⟨#[93]⟩) := hide (by rw [LOOP.out, HS.out, hkn])
          clear hkn
          go_wp2
          go_ret
          exact ⟨ret_s9 HV.out.symm, HB.out⟩
  · have HONE : Hid (oneC true n L H = false) := hide rfl
    have LOOP := hide (LOOP0.out HONE.out)
    clear LOOP0
    go_enter Tryd.func58, Tryd.ntmps58
    go_wp2
    go_quiet (fail)
    go_wp2
    go_loopw [3, 4] (fun sv iv wr => ∃ (k : Nat) (S : ByteArray), k ≤ n ∧ iv = .int .i64 k ∧ sv = .string S ∧ S.size ≤ 2 + 11 * k ∧ Hid (S = ctA (ct0 true) L H k) ∧ Hid (NodeAt wr w.heap.size 2 true (some ⟨b, off, none⟩) n cp A B mn mx) ∧ Hid (Below w.heap.size w wr)) (fun _ iv _ => n - (intOf iv).toNat)
    case atStart => exact ⟨0, _, Nat.zero_le _, rfl, rfl, by decide, rfl, nodeAt_drewN (HN0 _) _, te_drew (st _) _⟩
    case round =>
      obtain ⟨k, S, hk, rfl, rfl, hS, HS, HN, HB⟩ := hrel
      obtain ⟨n0, n1, n2, -, -, -, -⟩ := nodeAt_cells HN.out
      by_cases hlt : k < n
      · have hki : (k : Int) < n := by omega
        obtain ⟨x0, x1⟩ := HROW.out k hlt
        have y0 := (HB.out.cell (p := ⟨b, off + k * 2, none⟩) hb).trans x0
        have y1 := (HB.out.cell (p := ⟨b, off + k * 2 + 1, none⟩) hb).trans x1
        obtain ⟨d0, d1, d2⟩ := HCH.out k hlt
        obtain ⟨l, hl⟩ : ∃ l, L k = l := ⟨_, rfl⟩
        obtain ⟨h, hh⟩ : ∃ h, H k = h := ⟨_, rfl⟩
        rw [hl] at y0 d0 d2
        rw [hh] at y1 d1 d2
        have CS := hide (fun w9 => s_sign l true w9 d0)
        have CT := hide (fun w9 => s_sign h true w9 d1)
        have z1 := chT_size sgI l
        have z2 := chT_size sgI h
        have HLL := hide hl
        have HHH := hide hh
        obtain ⟨T1, hT1⟩ : ∃ T1, chT (sgOf true) l = T1 := ⟨_, rfl⟩
        obtain ⟨T2, hT2⟩ : ∃ T2, chT (sgOf true) h = T2 := ⟨_, rfl⟩
        rw [hT1] at CS
        rw [hT2] at CT
        rw [show chT sgI l = T1 from hT1] at z1
        rw [show chT sgI h = T2 from hT2] at z2
        have HT1 : Hid (chT sgI l = T1) := hide hT1
        have HT2 : Hid (chT sgI h = T2) := hide hT2
        clear x0 x1 hl hh hT1 hT2
        have ha1 : ¬ 9223372036854775807 < S.size + T1.size := by omega
        have ha2 : ¬ 9223372036854775807 < S.size + T1.size + 1 := by omega
        have ha3 : ¬ 9223372036854775807 < S.size + T1.size + 1 + T2.size := by omega
        have hbw : b < wr.heap.size := Nat.lt_of_lt_of_le hb HB.out.size
        by_cases heq : l = h
        · have hgt : decide (l < h) = false := decide_eq_false (by omega)
          have hgt2 : ¬ l < h := by omega
          have HV : Hid (ctA (ct0 true) L H (k + 1) = S ++ T1) := hide (by rw [ctA_succ (by rw [HLL.out, HHH.out]; exact heq), ← HS.out, HLL.out, HT1.out])
          clear heq
          go_wp2_with (go_at_call_of 75 (Value.int .i64 l); refine (CS.out _).mono ?_; rintro e w2 ⟨rfl, hb2⟩; have HB2 := hide (HB.out.trans (hb2.mono HB.out.size)); have HN2 := hide (nodeAt_go HN.out hb2); obtain ⟨m0, m1, m2, -, -, -, -⟩ := nodeAt_cells HN2.out; have u0 := (hb2.cell (p := ⟨b, off + k * 2, none⟩) hbw).trans y0; have u1 := (hb2.cell (p := ⟨b, off + k * 2 + 1, none⟩) hbw).trans y1; clear hb2)
          go_quiet (fail)
          go_wp2
          go_roundw
          case rel => exact ⟨k + 1, _, by omega, by go_num, rfl, by rw [te_size]; omega, hide HV.out.symm, hide (nodeAt_drewN HN2.out _), hide (te_drew HB2.out _)⟩
          case measure => simp [intOf]; omega
        · have hgt : decide (l < h) = true := decide_eq_true (by omega)
          have hgt2 : l < h := by omega
          have HV : Hid (ctA (ct0 true) L H (k + 1) = S ++ T1 ++ ⟨#[45]⟩ ++ T2) := hide (by rw [ctA_more (by rw [HLL.out, HHH.out]; exact heq), ← HS.out, HLL.out, HHH.out, HT1.out, HT2.out, te_assoc (S ++ T1)])
          clear heq
          go_wp2_with (go_at_call_of 75 (Value.int .i64 l); refine (CS.out _).mono ?_; rintro e w2 ⟨rfl, hb2⟩; have HB2 := hide (HB.out.trans (hb2.mono HB.out.size)); have HN2 := hide (nodeAt_go HN.out hb2); obtain ⟨m0, m1, m2, -, -, -, -⟩ := nodeAt_cells HN2.out; have u0 := (hb2.cell (p := ⟨b, off + k * 2, none⟩) hbw).trans y0; have u1 := (hb2.cell (p := ⟨b, off + k * 2 + 1, none⟩) hbw).trans y1; clear hb2)
          go_quiet (fail)
          go_wp2_with (go_at_call_of 75 (Value.int .i64 h); refine (CT.out _).mono ?_; rintro e w3 ⟨rfl, hb3⟩; have HB3 := hide ((te_drew HB2.out _).trans (hb3.mono (te_drew HB2.out _).size)); have HN3 := hide (nodeAt_go (nodeAt_drewN HN2.out _) hb3); clear hb3)
          go_roundw
          case rel => exact ⟨k + 1, _, by omega, by go_num, rfl, by simp only [te_size]; show S.size + T1.size + 1 + T2.size ≤ _; omega, hide HV.out.symm, HN3, HB3⟩
          case measure => simp [intOf]; omega
      · have hkn : k = n := by omega
        have ha1 : ¬ 9223372036854775807 < S.size + 1 := by omega
        have HV : Hid (ctT true n L H = S ++ ⟨#[93]⟩) := hide (by rw [LOOP.out, HS.out, hkn])
        clear hkn
        go_wp2
        go_ret
        exact ⟨ret_s9 HV.out.symm, HB.out⟩
end Go.Proofs.YtibagghpimadfaaDoor
