/-
  Contracts of the specification: classes' texts, counts' texts.
-/
import Derived.Test.YtibagghpimadfaaGreatDoorV24
namespace Go.Proofs.YtibagghpimadfaaGreatDoor
open Go.RowKit Go.Joins
set_option linter.unusedVariables false
set_option linter.unusedSimpArgs false
theorem te_assoc (a b c : ByteArray) : a ++ b ++ c = a ++ (b ++ c) := ByteArray.append_assoc
/-- What the ranges of a class are. -/
def RgOk (n : Nat) (L H : Nat → Int) : Prop := 1 ≤ n ∧ n ≤ 12 ∧ ∀ i, i < n → chB (L i) = true ∧ chB (H i) = true ∧ L i ≤ H i
theorem nodeAt_drewN {w : World} {G : Nat} {kd : Int} {nt : Bool} {a : Option Addr} {n c : Nat} {A B mn mx : Int} (h : NodeAt w G kd nt a n c A B mn mx) (q : Nat) : NodeAt (w.drewN q) G kd nt a n c A B mn mx := h
theorem te_drew {b : Nat} {w w1 : World} (h : Below b w w1) (q : Nat) : Below b w (w1.drewN q) := h.trans ⟨rfl, rfl, rfl, Nat.le_refl _, fun _ _ => rfl⟩
theorem ctA_succ {s : ByteArray} {L H : Nat → Int} {k : Nat} (h : L k = H k) : ctA s L H (k + 1) = ctA s L H k ++ chT sgI (L k) := by rw [ctA, if_pos h]
theorem ctA_more {s : ByteArray} {L H : Nat → Int} {k : Nat} (h : L k ≠ H k) : ctA s L H (k + 1) = ctA s L H k ++ chT sgI (L k) ++ (⟨#[45]⟩ ++ chT sgI (H k)) := by rw [ctA, if_neg h]
set_option maxRecDepth 100000 in
set_option maxHeartbeats 8000000 in
theorem s_cls (nt : Bool) (ad : Option Addr) (n cp : Nat) (A B mn mx : Int) (L H : Nat → Int) (w : World) (hok : RgOk n L H) (hr : RngAt w ad n L H w.heap.size) :
    Calls Tryz.prog 35 #[.agg #[.int .i64 2, .bool nt, .slice ad n cp, .int .i64 A, .int .i64 B, .int .i64 mn, .int .i64 mx]] w fun e w' => e = .returned (.string (ctT nt n L H)) ∧ Below w.heap.size w w' := by
  obtain ⟨h1, h12, hch⟩ := hok
  obtain ⟨b, off, rfl, hb, hrow⟩ := hr (by omega)
  have HROW := hide hrow
  have HCH := hide hch
  have hn0 : (0 : Int) < n := by omega
  obtain ⟨r0, r1⟩ := hrow 0 (by omega)
  obtain ⟨c0, c1, c2⟩ := hch 0 (by omega)
  have st := fun o : Obj => (Below.refl w.heap.size w).alloc (Nat.le_refl _) o
  have HN0 := fun T => nodeAt_new w 2 nt (some ⟨b, off, none⟩) n cp A B mn mx T
  have LOOP0 : Hid (oneC nt n L H = false → ctT nt n L H = ctA (ct0 nt) L H n ++ ⟨#[93]⟩) := hide (fun h => by unfold ctT; rw [h]; rfl)
  have r0' : w.cell? ⟨b, off, none⟩ = some (.int .i64 (L 0)) := by simpa using r0
  have r1' : w.cell? ⟨b, off + 1, none⟩ = some (.int .i64 (H 0)) := by simpa using r1
  clear r0 r1 hrow hch
  cases nt
  · by_cases hn1 : n = 1
    · have hnb : ((n : Int) == 1) = true := by rw [beq_iff_eq]; omega
      obtain ⟨l0, hl0⟩ : ∃ l0, L 0 = l0 := ⟨_, rfl⟩
      obtain ⟨h0, hh0⟩ : ∃ h0, H 0 = h0 := ⟨_, rfl⟩
      rw [hl0] at r0' c0
      rw [hh0] at r1'
      by_cases heq : l0 = h0
      · have heb : (l0 == h0) = true := by rw [beq_iff_eq]; exact heq
        have HV : Hid (ctT false n L H = chT sgO l0) := hide (by
          unfold ctT oneC
          rw [hnb, hl0, hh0, heb]
          rfl)
        have CS := hide (fun w9 => s_sign l0 false w9 c0)
        clear heq hn1 hl0 hh0
        go_enter Tryz.func35, Tryz.ntmps35
        go_wp2
        go_quiet (fail)
        go_wp2_with (go_at_call_of 55 (Value.int .i64 l0); refine (CS.out _).mono ?_; rintro e w2 ⟨rfl, hb2⟩; have HB2 := hide ((te_drew (st _) _).trans (hb2.mono (te_drew (st _) _).size)); clear hb2)
        go_ret
        exact ⟨ret_s9 HV.out.symm, HB2.out⟩
      · have heb : (l0 == h0) = false := by rw [beq_eq_false_iff_ne]; exact heq
        have HONE : Hid (oneC false n L H = false) := hide (by unfold oneC; rw [hnb, hl0, hh0, heb]; rfl)
        have LOOP := hide (LOOP0.out HONE.out)
        clear heq hn1 hl0 hh0 LOOP0
        go_enter Tryz.func35, Tryz.ntmps35
        go_wp2
        go_quiet (fail)
        go_wp2
        go_loopw [3, 4] (fun sv iv wr => ∃ (k : Nat) (S : ByteArray), k ≤ n ∧ iv = .int .i64 k ∧ sv = .string S ∧ S.size ≤ 2 + 11 * k ∧ Hid (S = ctA (ct0 false) L H k) ∧ Hid (NodeAt wr w.heap.size 2 false (some ⟨b, off, none⟩) n cp A B mn mx) ∧ Hid (Below w.heap.size w wr)) (fun _ iv _ => n - (intOf iv).toNat)
        case atStart => exact ⟨0, _, Nat.zero_le _, rfl, rfl, by decide, rfl, nodeAt_drewN (HN0 _) _, te_drew (st _) _⟩
        case round =>
          obtain ⟨k, S, hk, rfl, rfl, hS, HS, HN, HB⟩ := hrel
          obtain ⟨n0, n1, n2, -, -, -, -⟩ := nodeAt_cells HN.out
          by_cases hlt : k < n
          · have hki : (k : Int) < n := by omega
            obtain ⟨x0, x1⟩ := HROW.out k hlt
            have y0 := (HB.out.cell (p := ⟨b, off + k * 2, none⟩) hb).trans x0
            have y1 := (HB.out.cell (p := ⟨b, off + k * 2 + 1, none⟩) hb).trans x1
            obtain ⟨d0, d1, d2⟩ := HCH.out k hlt
            obtain ⟨l, hl⟩ : ∃ l, L k = l := ⟨_, rfl⟩
            obtain ⟨h, hh⟩ : ∃ h, H k = h := ⟨_, rfl⟩
            rw [hl] at y0 d0 d2
            rw [hh] at y1 d1 d2
            have CS := hide (fun w9 => s_sign l true w9 d0)
            have CT := hide (fun w9 => s_sign h true w9 d1)
            have z1 := chT_size sgI l
            have z2 := chT_size sgI h
            have HLL := hide hl
            have HHH := hide hh
            obtain ⟨T1, hT1⟩ : ∃ T1, chT (sgOf true) l = T1 := ⟨_, rfl⟩
            obtain ⟨T2, hT2⟩ : ∃ T2, chT (sgOf true) h = T2 := ⟨_, rfl⟩
            rw [hT1] at CS
            rw [hT2] at CT
            rw [show chT sgI l = T1 from hT1] at z1
            rw [show chT sgI h = T2 from hT2] at z2
            have HT1 : Hid (chT sgI l = T1) := hide hT1
            have HT2 : Hid (chT sgI h = T2) := hide hT2
            clear x0 x1 hl hh hT1 hT2
            have ha1 : ¬ 9223372036854775807 < S.size + T1.size := by omega
            have ha2 : ¬ 9223372036854775807 < S.size + T1.size + 1 := by omega
            have ha3 : ¬ 9223372036854775807 < S.size + T1.size + 1 + T2.size := by omega
            have hbw : b < wr.heap.size := Nat.lt_of_lt_of_le hb HB.out.size
            by_cases heq : l = h
            · have hgt : decide (l < h) = false := decide_eq_false (by omega)
              have hgt2 : ¬ l < h := by omega
              have HV : Hid (ctA (ct0 false) L H (k + 1) = S ++ T1) := hide (by rw [ctA_succ (by rw [HLL.out, HHH.out]; exact heq), ← HS.out, HLL.out, HT1.out])
              clear heq
              go_wp2_with (go_at_call_of 55 (Value.int .i64 l); refine (CS.out _).mono ?_; rintro e w2 ⟨rfl, hb2⟩; have HB2 := hide (HB.out.trans (hb2.mono HB.out.size)); have HN2 := hide (nodeAt_go HN.out hb2); obtain ⟨m0, m1, m2, -, -, -, -⟩ := nodeAt_cells HN2.out; have u0 := (hb2.cell (p := ⟨b, off + k * 2, none⟩) hbw).trans y0; have u1 := (hb2.cell (p := ⟨b, off + k * 2 + 1, none⟩) hbw).trans y1; clear hb2)
              go_quiet (fail)
              go_wp2
              go_roundw
              case rel => exact ⟨k + 1, _, by omega, by go_num, rfl, by rw [te_size]; omega, hide HV.out.symm, hide (nodeAt_drewN HN2.out _), hide (te_drew HB2.out _)⟩
              case measure => simp [intOf]; omega
            · have hgt : decide (l < h) = true := decide_eq_true (by omega)
              have hgt2 : l < h := by omega
              have HV : Hid (ctA (ct0 false) L H (k + 1) = S ++ T1 ++ ⟨#[45]⟩ ++ T2) := hide (by rw [ctA_more (by rw [HLL.out, HHH.out]; exact heq), ← HS.out, HLL.out, HHH.out, HT1.out, HT2.out, te_assoc (S ++ T1)])
              clear heq
              go_wp2_with (go_at_call_of 55 (Value.int .i64 l); refine (CS.out _).mono ?_; rintro e w2 ⟨rfl, hb2⟩; have HB2 := hide (HB.out.trans (hb2.mono HB.out.size)); have HN2 := hide (nodeAt_go HN.out hb2); obtain ⟨m0, m1, m2, -, -, -, -⟩ := nodeAt_cells HN2.out; have u0 := (hb2.cell (p := ⟨b, off + k * 2, none⟩) hbw).trans y0; have u1 := (hb2.cell (p := ⟨b, off + k * 2 + 1, none⟩) hbw).trans y1; clear hb2)
              go_quiet (fail)
              go_wp2_with (go_at_call_of 55 (Value.int .i64 h); refine (CT.out _).mono ?_; rintro e w3 ⟨rfl, hb3⟩; have HB3 := hide ((te_drew HB2.out _).trans (hb3.mono (te_drew HB2.out _).size)); have HN3 := hide (nodeAt_go (nodeAt_drewN HN2.out _) hb3); clear hb3)
              go_roundw
              case rel => exact ⟨k + 1, _, by omega, by go_num, rfl, by simp only [te_size]; show S.size + T1.size + 1 + T2.size ≤ _; omega, hide HV.out.symm, HN3, HB3⟩
              case measure => simp [intOf]; omega
          · have hkn : k = n := by omega
            have ha1 : ¬ 9223372036854775807 < S.size + 1 := by omega
            have HV : Hid (ctT false n L H = S ++ ⟨#[93]⟩) := hide (by rw [LOOP.out, HS.out, hkn])
            clear hkn
            go_wp2
            go_ret
            exact ⟨ret_s9 HV.out.symm, HB.out⟩
    · have hnb : ((n : Int) == 1) = false := by rw [beq_eq_false_iff_ne]; omega
      have HONE : Hid (oneC false n L H = false) := hide (by unfold oneC; rw [hnb]; rfl)
      have LOOP := hide (LOOP0.out HONE.out)
      clear hn1 LOOP0
      go_enter Tryz.func35, Tryz.ntmps35
      go_wp2
      go_quiet (fail)
      go_wp2
      go_loopw [3, 4] (fun sv iv wr => ∃ (k : Nat) (S : ByteArray), k ≤ n ∧ iv = .int .i64 k ∧ sv = .string S ∧ S.size ≤ 2 + 11 * k ∧ Hid (S = ctA (ct0 false) L H k) ∧ Hid (NodeAt wr w.heap.size 2 false (some ⟨b, off, none⟩) n cp A B mn mx) ∧ Hid (Below w.heap.size w wr)) (fun _ iv _ => n - (intOf iv).toNat)
      case atStart => exact ⟨0, _, Nat.zero_le _, rfl, rfl, by decide, rfl, nodeAt_drewN (HN0 _) _, te_drew (st _) _⟩
      case round =>
        obtain ⟨k, S, hk, rfl, rfl, hS, HS, HN, HB⟩ := hrel
        obtain ⟨n0, n1, n2, -, -, -, -⟩ := nodeAt_cells HN.out
        by_cases hlt : k < n
        · have hki : (k : Int) < n := by omega
          obtain ⟨x0, x1⟩ := HROW.out k hlt
          have y0 := (HB.out.cell (p := ⟨b, off + k * 2, none⟩) hb).trans x0
          have y1 := (HB.out.cell (p := ⟨b, off + k * 2 + 1, none⟩) hb).trans x1
          obtain ⟨d0, d1, d2⟩ := HCH.out k hlt
          obtain ⟨l, hl⟩ : ∃ l, L k = l := ⟨_, rfl⟩
          obtain ⟨h, hh⟩ : ∃ h, H k = h := ⟨_, rfl⟩
          rw [hl] at y0 d0 d2
          rw [hh] at y1 d1 d2
          have CS := hide (fun w9 => s_sign l true w9 d0)
          have CT := hide (fun w9 => s_sign h true w9 d1)
          have z1 := chT_size sgI l
          have z2 := chT_size sgI h
          have HLL := hide hl
          have HHH := hide hh
          obtain ⟨T1, hT1⟩ : ∃ T1, chT (sgOf true) l = T1 := ⟨_, rfl⟩
          obtain ⟨T2, hT2⟩ : ∃ T2, chT (sgOf true) h = T2 := ⟨_, rfl⟩
          rw [hT1] at CS
          rw [hT2] at CT
          rw [show chT sgI l = T1 from hT1] at z1
          rw [show chT sgI h = T2 from hT2] at z2
          have HT1 : Hid (chT sgI l = T1) := hide hT1
          have HT2 : Hid (chT sgI h = T2) := hide hT2
          clear x0 x1 hl hh hT1 hT2
          have ha1 : ¬ 9223372036854775807 < S.size + T1.size := by omega
          have ha2 : ¬ 9223372036854775807 < S.size + T1.size + 1 := by omega
          have ha3 : ¬ 9223372036854775807 < S.size + T1.size + 1 + T2.size := by omega
          have hbw : b < wr.heap.size := Nat.lt_of_lt_of_le hb HB.out.size
          by_cases heq : l = h
          · have hgt : decide (l < h) = false := decide_eq_false (by omega)
            have hgt2 : ¬ l < h := by omega
            have HV : Hid (ctA (ct0 false) L H (k + 1) = S ++ T1) := hide (by rw [ctA_succ (by rw [HLL.out, HHH.out]; exact heq), ← HS.out, HLL.out, HT1.out])
            clear heq
            go_wp2_with (go_at_call_of 55 (Value.int .i64 l); refine (CS.out _).mono ?_; rintro e w2 ⟨rfl, hb2⟩; have HB2 := hide (HB.out.trans (hb2.mono HB.out.size)); have HN2 := hide (nodeAt_go HN.out hb2); obtain ⟨m0, m1, m2, -, -, -, -⟩ := nodeAt_cells HN2.out; have u0 := (hb2.cell (p := ⟨b, off + k * 2, none⟩) hbw).trans y0; have u1 := (hb2.cell (p := ⟨b, off + k * 2 + 1, none⟩) hbw).trans y1; clear hb2)
            go_quiet (fail)
            go_wp2
            go_roundw
            case rel => exact ⟨k + 1, _, by omega, by go_num, rfl, by rw [te_size]; omega, hide HV.out.symm, hide (nodeAt_drewN HN2.out _), hide (te_drew HB2.out _)⟩
            case measure => simp [intOf]; omega
          · have hgt : decide (l < h) = true := decide_eq_true (by omega)
            have hgt2 : l < h := by omega
            have HV : Hid (ctA (ct0 false) L H (k + 1) = S ++ T1 ++ ⟨#[45]⟩ ++ T2) := hide (by rw [ctA_more (by rw [HLL.out, HHH.out]; exact heq), ← HS.out, HLL.out, HHH.out, HT1.out, HT2.out, te_assoc (S ++ T1)])
            clear heq
            go_wp2_with (go_at_call_of 55 (Value.int .i64 l); refine (CS.out _).mono ?_; rintro e w2 ⟨rfl, hb2⟩; have HB2 := hide (HB.out.trans (hb2.mono HB.out.size)); have HN2 := hide (nodeAt_go HN.out hb2); obtain ⟨m0, m1, m2, -, -, -, -⟩ := nodeAt_cells HN2.out; have u0 := (hb2.cell (p := ⟨b, off + k * 2, none⟩) hbw).trans y0; have u1 := (hb2.cell (p := ⟨b, off + k * 2 + 1, none⟩) hbw).trans y1; clear hb2)
            go_quiet (fail)
            go_wp2_with (go_at_call_of 55 (Value.int .i64 h); refine (CT.out _).mono ?_; rintro e w3 ⟨rfl, hb3⟩; have HB3 := hide ((te_drew HB2.out _).trans (hb3.mono (te_drew HB2.out _).size)); have HN3 := hide (nodeAt_go (nodeAt_drewN HN2.out _) hb3); clear hb3)
            go_roundw
            case rel => exact ⟨k + 1, _, by omega, by go_num, rfl, by simp only [te_size]; show S.size + T1.size + 1 + T2.size ≤ _; omega, hide HV.out.symm, HN3, HB3⟩
            case measure => simp [intOf]; omega
        · have hkn : k = n := by omega
          have ha1 : ¬ 9223372036854775807 < S.size + 1 := by omega
          have HV : Hid (ctT false n L H = S ++ ⟨#[93]⟩) := hide (by rw [LOOP.out, HS.out, hkn])
          clear hkn
          go_wp2
          go_ret
          exact ⟨ret_s9 HV.out.symm, HB.out⟩
  · have HONE : Hid (oneC true n L H = false) := hide rfl
    have LOOP := hide (LOOP0.out HONE.out)
    clear LOOP0
    go_enter Tryz.func35, Tryz.ntmps35
    go_wp2
    go_quiet (fail)
    go_wp2
    go_loopw [3, 4] (fun sv iv wr => ∃ (k : Nat) (S : ByteArray), k ≤ n ∧ iv = .int .i64 k ∧ sv = .string S ∧ S.size ≤ 2 + 11 * k ∧ Hid (S = ctA (ct0 true) L H k) ∧ Hid (NodeAt wr w.heap.size 2 true (some ⟨b, off, none⟩) n cp A B mn mx) ∧ Hid (Below w.heap.size w wr)) (fun _ iv _ => n - (intOf iv).toNat)
    case atStart => exact ⟨0, _, Nat.zero_le _, rfl, rfl, by decide, rfl, nodeAt_drewN (HN0 _) _, te_drew (st _) _⟩
    case round =>
      obtain ⟨k, S, hk, rfl, rfl, hS, HS, HN, HB⟩ := hrel
      obtain ⟨n0, n1, n2, -, -, -, -⟩ := nodeAt_cells HN.out
      by_cases hlt : k < n
      · have hki : (k : Int) < n := by omega
        obtain ⟨x0, x1⟩ := HROW.out k hlt
        have y0 := (HB.out.cell (p := ⟨b, off + k * 2, none⟩) hb).trans x0
        have y1 := (HB.out.cell (p := ⟨b, off + k * 2 + 1, none⟩) hb).trans x1
        obtain ⟨d0, d1, d2⟩ := HCH.out k hlt
        obtain ⟨l, hl⟩ : ∃ l, L k = l := ⟨_, rfl⟩
        obtain ⟨h, hh⟩ : ∃ h, H k = h := ⟨_, rfl⟩
        rw [hl] at y0 d0 d2
        rw [hh] at y1 d1 d2
        have CS := hide (fun w9 => s_sign l true w9 d0)
        have CT := hide (fun w9 => s_sign h true w9 d1)
        have z1 := chT_size sgI l
        have z2 := chT_size sgI h
        have HLL := hide hl
        have HHH := hide hh
        obtain ⟨T1, hT1⟩ : ∃ T1, chT (sgOf true) l = T1 := ⟨_, rfl⟩
        obtain ⟨T2, hT2⟩ : ∃ T2, chT (sgOf true) h = T2 := ⟨_, rfl⟩
        rw [hT1] at CS
        rw [hT2] at CT
        rw [show chT sgI l = T1 from hT1] at z1
        rw [show chT sgI h = T2 from hT2] at z2
        have HT1 : Hid (chT sgI l = T1) := hide hT1
        have HT2 : Hid (chT sgI h = T2) := hide hT2
        clear x0 x1 hl hh hT1 hT2
        have ha1 : ¬ 9223372036854775807 < S.size + T1.size := by omega
        have ha2 : ¬ 9223372036854775807 < S.size + T1.size + 1 := by omega
        have ha3 : ¬ 9223372036854775807 < S.size + T1.size + 1 + T2.size := by omega
        have hbw : b < wr.heap.size := Nat.lt_of_lt_of_le hb HB.out.size
        by_cases heq : l = h
        · have hgt : decide (l < h) = false := decide_eq_false (by omega)
          have hgt2 : ¬ l < h := by omega
          have HV : Hid (ctA (ct0 true) L H (k + 1) = S ++ T1) := hide (by rw [ctA_succ (by rw [HLL.out, HHH.out]; exact heq), ← HS.out, HLL.out, HT1.out])
          clear heq
          go_wp2_with (go_at_call_of 55 (Value.int .i64 l); refine (CS.out _).mono ?_; rintro e w2 ⟨rfl, hb2⟩; have HB2 := hide (HB.out.trans (hb2.mono HB.out.size)); have HN2 := hide (nodeAt_go HN.out hb2); obtain ⟨m0, m1, m2, -, -, -, -⟩ := nodeAt_cells HN2.out; have u0 := (hb2.cell (p := ⟨b, off + k * 2, none⟩) hbw).trans y0; have u1 := (hb2.cell (p := ⟨b, off + k * 2 + 1, none⟩) hbw).trans y1; clear hb2)
          go_quiet (fail)
          go_wp2
          go_roundw
          case rel => exact ⟨k + 1, _, by omega, by go_num, rfl, by rw [te_size]; omega, hide HV.out.symm, hide (nodeAt_drewN HN2.out _), hide (te_drew HB2.out _)⟩
          case measure => simp [intOf]; omega
        · have hgt : decide (l < h) = true := decide_eq_true (by omega)
          have hgt2 : l < h := by omega
          have HV : Hid (ctA (ct0 true) L H (k + 1) = S ++ T1 ++ ⟨#[45]⟩ ++ T2) := hide (by rw [ctA_more (by rw [HLL.out, HHH.out]; exact heq), ← HS.out, HLL.out, HHH.out, HT1.out, HT2.out, te_assoc (S ++ T1)])
          clear heq
          go_wp2_with (go_at_call_of 55 (Value.int .i64 l); refine (CS.out _).mono ?_; rintro e w2 ⟨rfl, hb2⟩; have HB2 := hide (HB.out.trans (hb2.mono HB.out.size)); have HN2 := hide (nodeAt_go HN.out hb2); obtain ⟨m0, m1, m2, -, -, -, -⟩ := nodeAt_cells HN2.out; have u0 := (hb2.cell (p := ⟨b, off + k * 2, none⟩) hbw).trans y0; have u1 := (hb2.cell (p := ⟨b, off + k * 2 + 1, none⟩) hbw).trans y1; clear hb2)
          go_quiet (fail)
          go_wp2_with (go_at_call_of 55 (Value.int .i64 h); refine (CT.out _).mono ?_; rintro e w3 ⟨rfl, hb3⟩; have HB3 := hide ((te_drew HB2.out _).trans (hb3.mono (te_drew HB2.out _).size)); have HN3 := hide (nodeAt_go (nodeAt_drewN HN2.out _) hb3); clear hb3)
          go_roundw
          case rel => exact ⟨k + 1, _, by omega, by go_num, rfl, by simp only [te_size]; show S.size + T1.size + 1 + T2.size ≤ _; omega, hide HV.out.symm, HN3, HB3⟩
          case measure => simp [intOf]; omega
      · have hkn : k = n := by omega
        have ha1 : ¬ 9223372036854775807 < S.size + 1 := by omega
        have HV : Hid (ctT true n L H = S ++ ⟨#[93]⟩) := hide (by rw [LOOP.out, HS.out, hkn])
        clear hkn
        go_wp2
        go_ret
        exact ⟨ret_s9 HV.out.symm, HB.out⟩
end Go.Proofs.YtibagghpimadfaaGreatDoor
