/-
  Contracts of the program: a character's text, a class's text, a count's text.
-/
import Derived.Test.YtibagghpimadfaaGreatDoorV14
import Derived.Test.YtibagghpimadfaaGreatDoorV25
import Derived.Deep.RegionWith
namespace Go.Proofs.YtibagghpimadfaaGreatDoor
open Go.RowKit Go.Joins
set_option linter.unusedVariables false
set_option linter.unusedSimpArgs false
set_option maxRecDepth 100000 in
set_option maxHeartbeats 4000000 in
theorem i_chO (c : Int) (w : World) (hc : chB c = true) : Calls Tryz.prog 46 #[.int .i64 c, .string ⟨#[46, 92, 63, 42, 43, 123, 125, 40, 41, 124, 91, 93]⟩] w fun e w' => e = .returned (.string (chT sgO c)) ∧ Below w.heap.size w w' := by
  by_cases h10 : c = 10
  · subst h10
    go_enter Tryz.func46, Tryz.ntmps46
    go_wp2
    go_ret
    exact ⟨rfl, Below.refl _ _⟩
  · by_cases h13 : c = 13
    · subst h13
      go_enter Tryz.func46, Tryz.ntmps46
      go_wp2
      go_ret
      exact ⟨rfl, Below.refl _ _⟩
    · by_cases h9 : c = 9
      · subst h9
        go_enter Tryz.func46, Tryz.ntmps46
        go_wp2
        go_ret
        exact ⟨rfl, Below.refl _ _⟩
      · have b10 : (c == 10) = false := by rw [beq_eq_false_iff_ne]; exact h10
        have b13 : (c == 13) = false := by rw [beq_eq_false_iff_ne]; exact h13
        have b9 : (c == 9) = false := by rw [beq_eq_false_iff_ne]; exact h9
        have HCH : Hid (∀ b, isS sgO c = b → chT sgO c = if b = true then ⟨#[92]⟩ ++ Utf8.encode c else Utf8.encode c) := hide (fun b hb => by
          unfold chT
          rw [if_neg h10, if_neg h13, if_neg h9, hb])
        have C := hide (i_signO c w hc)
        have hes := enc_size c
        have hcv := enc_run c
        have h2 := chB_cases hc
        have hw : IntKind.i32.wrap c = c := by rw [IntKind.wrap_i32]; omega
        obtain ⟨E, hE⟩ : ∃ E, Utf8.encode c = E := ⟨_, rfl⟩
        rw [hE] at HCH hes hcv
        have a1 : ¬ 9223372036854775807 < 1 + E.size := by omega
        clear hE hc h10 h13 h9 h2
        cases hm : isS sgO c
        all_goals
          have HV := hide (HCH.out _ hm)
          rw [hm] at C
          go_enter Tryz.func46, Tryz.ntmps46
          go_wp2_with (go_at_call 64; refine C.out.mono ?_; rintro e w2 ⟨rfl, hb2⟩; have HB2 := hide hb2; clear hb2)
          go_ret
          exact ⟨ret_s9 (by rw [HV.out]; rfl), HB2.out⟩
set_option maxRecDepth 100000 in
set_option maxHeartbeats 4000000 in
theorem i_chI (c : Int) (w : World) (hc : chB c = true) : Calls Tryz.prog 46 #[.int .i64 c, .string ⟨#[91, 93, 92, 45, 94]⟩] w fun e w' => e = .returned (.string (chT sgI c)) ∧ Below w.heap.size w w' := by
  by_cases h10 : c = 10
  · subst h10
    go_enter Tryz.func46, Tryz.ntmps46
    go_wp2
    go_ret
    exact ⟨rfl, Below.refl _ _⟩
  · by_cases h13 : c = 13
    · subst h13
      go_enter Tryz.func46, Tryz.ntmps46
      go_wp2
      go_ret
      exact ⟨rfl, Below.refl _ _⟩
    · by_cases h9 : c = 9
      · subst h9
        go_enter Tryz.func46, Tryz.ntmps46
        go_wp2
        go_ret
        exact ⟨rfl, Below.refl _ _⟩
      · have b10 : (c == 10) = false := by rw [beq_eq_false_iff_ne]; exact h10
        have b13 : (c == 13) = false := by rw [beq_eq_false_iff_ne]; exact h13
        have b9 : (c == 9) = false := by rw [beq_eq_false_iff_ne]; exact h9
        have HCH : Hid (∀ b, isS sgI c = b → chT sgI c = if b = true then ⟨#[92]⟩ ++ Utf8.encode c else Utf8.encode c) := hide (fun b hb => by
          unfold chT
          rw [if_neg h10, if_neg h13, if_neg h9, hb])
        have C := hide (i_signI c w hc)
        have hes := enc_size c
        have hcv := enc_run c
        have h2 := chB_cases hc
        have hw : IntKind.i32.wrap c = c := by rw [IntKind.wrap_i32]; omega
        obtain ⟨E, hE⟩ : ∃ E, Utf8.encode c = E := ⟨_, rfl⟩
        rw [hE] at HCH hes hcv
        have a1 : ¬ 9223372036854775807 < 1 + E.size := by omega
        clear hE hc h10 h13 h9 h2
        cases hm : isS sgI c
        all_goals
          have HV := hide (HCH.out _ hm)
          rw [hm] at C
          go_enter Tryz.func46, Tryz.ntmps46
          go_wp2_with (go_at_call 64; refine C.out.mono ?_; rintro e w2 ⟨rfl, hb2⟩; have HB2 := hide hb2; clear hb2)
          go_ret
          exact ⟨ret_s9 (by rw [HV.out]; rfl), HB2.out⟩
theorem cellsK_new (w : World) (l h : Int) (T : TypeId) : ∃ U, (w.alloc (.cells #[.int .i64 l, .int .i64 h] T)).heap[w.heap.size]? = some (.cells #[.int .i64 l, .int .i64 h] U (0, 0)) := ⟨T, heap_alloc_new w _⟩
theorem cellsK_go {w w2 : World} {G : Nat} {l h : Int} (x : ∃ U, w.heap[G]? = some (.cells #[.int .i64 l, .int .i64 h] U (0, 0))) (k : Below w.heap.size w w2) : w2.cell? ⟨G, 0, none⟩ = some (.int .i64 l) ∧ w2.cell? ⟨G, 1, none⟩ = some (.int .i64 h) := by
  obtain ⟨U, hx⟩ := x
  have hl := (Array.getElem?_eq_some_iff.1 hx).1
  have h2 := (k.block G hl).trans hx
  exact ⟨cell_of_row w2 G 0 _ U (0, 0) h2, cell_of_row w2 G 1 _ U (0, 0) h2⟩
set_option maxRecDepth 100000 in
set_option maxHeartbeats 8000000 in
theorem i_cls (nt : Bool) (ad : Option Addr) (n cp : Nat) (A B mn mx : Int) (L H : Nat → Int) (w : World) (hok : RgOk n L H) (hr : RngAt w ad n L H w.heap.size) :
    Calls Tryz.prog 26 #[.agg #[.int .i64 2, .bool nt, .slice ad n cp, .int .i64 A, .int .i64 B, .int .i64 mn, .int .i64 mx]] w fun e w' => e = .returned (.string (ctT nt n L H)) ∧ Below w.heap.size w w' := by
  obtain ⟨h1, h12, hch⟩ := hok
  obtain ⟨b, off, rfl, hb, hrow⟩ := hr (by omega)
  have HROW := hide hrow
  have HCH := hide hch
  have hn0 : (0 : Int) < n := by omega
  obtain ⟨r0, r1⟩ := hrow 0 (by omega)
  obtain ⟨c0, c1, c2⟩ := hch 0 (by omega)
  have st := fun o : Obj => (Below.refl w.heap.size w).alloc (Nat.le_refl _) o
  have LOOP0 : Hid (oneC nt n L H = false → ctT nt n L H = ctA (ct0 nt) L H n ++ ⟨#[93]⟩) := hide (fun h => by unfold ctT; rw [h]; rfl)
  have r0' : w.cell? ⟨b, off, none⟩ = some (.int .i64 (L 0)) := by simpa using r0
  have r1' : w.cell? ⟨b, off + 1, none⟩ = some (.int .i64 (H 0)) := by simpa using r1
  obtain ⟨l0, hl0⟩ : ∃ l0, L 0 = l0 := ⟨_, rfl⟩
  obtain ⟨h0, hh0⟩ : ∃ h0, H 0 = h0 := ⟨_, rfl⟩
  rw [hl0] at r0' c0
  rw [hh0] at r1'
  clear r0 r1 hrow hch
  cases nt
  · by_cases hn1 : n = 1
    · have hnb : ((n : Int) == 1) = true := by rw [beq_iff_eq]; omega
      by_cases heq : l0 = h0
      · have heb : (l0 == h0) = true := by rw [beq_iff_eq]; exact heq
        have HV : Hid (ctT false n L H = chT sgO l0) := hide (by
          unfold ctT oneC
          rw [hnb, hl0, hh0, heb]
          rfl)
        have CS := hide (fun w9 => i_chO l0 w9 c0)
        clear heq hn1 hl0 hh0
        go_enter Tryz.func26, Tryz.ntmps26
        go_wp2_with (go_at_call_of 46 (Value.int .i64 l0); refine (CS.out _).mono ?_; rintro e w2 ⟨rfl, hb2⟩; have HB2 := hide (((st _).alloc (st _).size _).trans (hb2.mono ((st _).alloc (st _).size _).size)); clear hb2)
        go_ret
        exact ⟨ret_s9 HV.out.symm, HB2.out⟩
      · have heb : (l0 == h0) = false := by rw [beq_eq_false_iff_ne]; exact heq
        have HONE : Hid (oneC false n L H = false) := hide (by unfold oneC; rw [hnb, hl0, hh0, heb]; rfl)
        have LOOP := hide (LOOP0.out HONE.out)
        clear heq hn1 hl0 hh0 LOOP0
        go_enter Tryz.func26, Tryz.ntmps26
        go_wp2
        go_loopw [4, 37] (fun sv iv wr => ∃ (k : Nat) (S : ByteArray), k ≤ n ∧ iv = .int .i64 k ∧ sv = .string S ∧ S.size ≤ 2 + 11 * k ∧ Hid (S = ctA (ct0 false) L H k) ∧ Hid (Below w.heap.size w wr)) (fun _ iv _ => n - (intOf iv).toNat)
        case atStart => exact ⟨0, _, Nat.zero_le _, rfl, rfl, by decide, hide (by first | rfl | decide), hide ((st _).alloc (st _).size _)⟩
        case round =>
          obtain ⟨k, S, hk, rfl, rfl, hS, HS, HB⟩ := hrel
          by_cases hlt : k < n
          · have hki : (k : Int) < n := by omega
            obtain ⟨x0, x1⟩ := HROW.out k hlt
            have y0 := (HB.out.cell (p := ⟨b, off + k * 2, none⟩) hb).trans x0
            have y1 := (HB.out.cell (p := ⟨b, off + k * 2 + 1, none⟩) hb).trans x1
            obtain ⟨d0, d1, d2⟩ := HCH.out k hlt
            obtain ⟨l, hl⟩ : ∃ l, L k = l := ⟨_, rfl⟩
            obtain ⟨h, hh⟩ : ∃ h, H k = h := ⟨_, rfl⟩
            rw [hl] at y0 d0 d2
            rw [hh] at y1 d1 d2
            have CS := hide (fun w9 => i_chI l w9 d0)
            have CT := hide (fun w9 => i_chI h w9 d1)
            have z1 := chT_size sgI l
            have z2 := chT_size sgI h
            have HLL := hide hl
            have HHH := hide hh
            obtain ⟨T1, hT1⟩ : ∃ T1, chT sgI l = T1 := ⟨_, rfl⟩
            obtain ⟨T2, hT2⟩ : ∃ T2, chT sgI h = T2 := ⟨_, rfl⟩
            rw [hT1] at CS z1
            rw [hT2] at CT z2
            have HT1 := hide hT1
            have HT2 := hide hT2
            have HNB := fun T => cellsK_new wr l h T
            have hwb : w.heap.size ≤ wr.heap.size := HB.out.size
            clear x0 x1 hl hh hT1 hT2
            have ha1 : ¬ 9223372036854775807 < S.size + T1.size := by omega
            have ha2 : ¬ 9223372036854775807 < 1 + T2.size := by omega
            have ha3 : ¬ 9223372036854775807 < S.size + T1.size + (1 + T2.size) := by omega
            by_cases heq : l = h
            · have hgt : (l != h) = false := by rw [heq]; simp
              have HV : Hid (ctA (ct0 false) L H (k + 1) = S ++ T1) := hide (by rw [ctA_succ (by rw [HLL.out, HHH.out]; exact heq), ← HS.out, HLL.out, HT1.out])
              clear heq
              go_wp2_with (go_at_call_of 46 (Value.int .i64 l); refine (CS.out _).mono ?_; rintro e w2 ⟨rfl, hb2⟩; have HB2 := hide ((HB.out.alloc hwb _).trans (hb2.mono (HB.out.alloc hwb _).size)); obtain ⟨m0, m1⟩ := cellsK_go (HNB _) hb2; clear hb2)
              go_roundw
              case rel => exact ⟨k + 1, _, by omega, by go_num, rfl, by rw [te_size]; omega, hide HV.out.symm, HB2⟩
              case measure => simp [intOf]; omega
            · have hgt : (l != h) = true := by rw [bne_iff_ne]; exact heq
              have HV : Hid (ctA (ct0 false) L H (k + 1) = S ++ T1 ++ (⟨#[45]⟩ ++ T2)) := hide (by rw [ctA_more (by rw [HLL.out, HHH.out]; exact heq), ← HS.out, HLL.out, HHH.out, HT1.out, HT2.out])
              have HLH := hide heq
              clear heq
              go_wp2_with (first | (go_at_call_of 46 (Value.int .i64 l); refine (CS.out _).mono ?_; rintro e w2 ⟨rfl, hb2⟩; have HB2 := hide ((HB.out.alloc hwb _).trans (hb2.mono (HB.out.alloc hwb _).size)); obtain ⟨m0, m1⟩ := cellsK_go (HNB _) hb2; clear hb2) | (go_at_call_of 46 (Value.int .i64 h); refine (CT.out _).mono ?_; rintro e w3 ⟨rfl, hb3⟩; have HB3 := hide (HB2.out.trans (hb3.mono HB2.out.size)); clear hb3))
              go_roundw
              case rel => exact ⟨k + 1, _, by omega, by go_num, rfl, by simp only [te_size]; show S.size + T1.size + (1 + T2.size) ≤ _; omega, hide HV.out.symm, HB3⟩
              case measure => simp [intOf]; omega
          · have hkn : k = n := by omega
            have ha1 : ¬ 9223372036854775807 < S.size + 1 := by omega
            have HV : Hid (ctT false n L H = S ++ ⟨#[93]⟩) := hide (by rw [LOOP.out, HS.out, hkn])
            clear hkn
            go_wp2
            go_ret
            exact ⟨ret_s9 HV.out.symm, HB.out⟩
    · have hnb : ((n : Int) == 1) = false := by rw [beq_eq_false_iff_ne]; omega
      have HONE : Hid (oneC false n L H = false) := hide (by unfold oneC; rw [hnb]; rfl)
      have LOOP := hide (LOOP0.out HONE.out)
      clear hn1 hl0 hh0 LOOP0
      go_enter Tryz.func26, Tryz.ntmps26
      go_wp2
      go_loopw [4, 37] (fun sv iv wr => ∃ (k : Nat) (S : ByteArray), k ≤ n ∧ iv = .int .i64 k ∧ sv = .string S ∧ S.size ≤ 2 + 11 * k ∧ Hid (S = ctA (ct0 false) L H k) ∧ Hid (Below w.heap.size w wr)) (fun _ iv _ => n - (intOf iv).toNat)
      case atStart => exact ⟨0, _, Nat.zero_le _, rfl, rfl, by decide, hide (by first | rfl | decide), hide ((st _).alloc (st _).size _)⟩
      case round =>
        obtain ⟨k, S, hk, rfl, rfl, hS, HS, HB⟩ := hrel
        by_cases hlt : k < n
        · have hki : (k : Int) < n := by omega
          obtain ⟨x0, x1⟩ := HROW.out k hlt
          have y0 := (HB.out.cell (p := ⟨b, off + k * 2, none⟩) hb).trans x0
          have y1 := (HB.out.cell (p := ⟨b, off + k * 2 + 1, none⟩) hb).trans x1
          obtain ⟨d0, d1, d2⟩ := HCH.out k hlt
          obtain ⟨l, hl⟩ : ∃ l, L k = l := ⟨_, rfl⟩
          obtain ⟨h, hh⟩ : ∃ h, H k = h := ⟨_, rfl⟩
          rw [hl] at y0 d0 d2
          rw [hh] at y1 d1 d2
          have CS := hide (fun w9 => i_chI l w9 d0)
          have CT := hide (fun w9 => i_chI h w9 d1)
          have z1 := chT_size sgI l
          have z2 := chT_size sgI h
          have HLL := hide hl
          have HHH := hide hh
          obtain ⟨T1, hT1⟩ : ∃ T1, chT sgI l = T1 := ⟨_, rfl⟩
          obtain ⟨T2, hT2⟩ : ∃ T2, chT sgI h = T2 := ⟨_, rfl⟩
          rw [hT1] at CS z1
          rw [hT2] at CT z2
          have HT1 := hide hT1
          have HT2 := hide hT2
          have HNB := fun T => cellsK_new wr l h T
          have hwb : w.heap.size ≤ wr.heap.size := HB.out.size
          clear x0 x1 hl hh hT1 hT2
          have ha1 : ¬ 9223372036854775807 < S.size + T1.size := by omega
          have ha2 : ¬ 9223372036854775807 < 1 + T2.size := by omega
          have ha3 : ¬ 9223372036854775807 < S.size + T1.size + (1 + T2.size) := by omega
          by_cases heq : l = h
          · have hgt : (l != h) = false := by rw [heq]; simp
            have HV : Hid (ctA (ct0 false) L H (k + 1) = S ++ T1) := hide (by rw [ctA_succ (by rw [HLL.out, HHH.out]; exact heq), ← HS.out, HLL.out, HT1.out])
            clear heq
            go_wp2_with (go_at_call_of 46 (Value.int .i64 l); refine (CS.out _).mono ?_; rintro e w2 ⟨rfl, hb2⟩; have HB2 := hide ((HB.out.alloc hwb _).trans (hb2.mono (HB.out.alloc hwb _).size)); obtain ⟨m0, m1⟩ := cellsK_go (HNB _) hb2; clear hb2)
            go_roundw
            case rel => exact ⟨k + 1, _, by omega, by go_num, rfl, by rw [te_size]; omega, hide HV.out.symm, HB2⟩
            case measure => simp [intOf]; omega
          · have hgt : (l != h) = true := by rw [bne_iff_ne]; exact heq
            have HV : Hid (ctA (ct0 false) L H (k + 1) = S ++ T1 ++ (⟨#[45]⟩ ++ T2)) := hide (by rw [ctA_more (by rw [HLL.out, HHH.out]; exact heq), ← HS.out, HLL.out, HHH.out, HT1.out, HT2.out])
            have HLH := hide heq
            clear heq
            go_wp2_with (first | (go_at_call_of 46 (Value.int .i64 l); refine (CS.out _).mono ?_; rintro e w2 ⟨rfl, hb2⟩; have HB2 := hide ((HB.out.alloc hwb _).trans (hb2.mono (HB.out.alloc hwb _).size)); obtain ⟨m0, m1⟩ := cellsK_go (HNB _) hb2; clear hb2) | (go_at_call_of 46 (Value.int .i64 h); refine (CT.out _).mono ?_; rintro e w3 ⟨rfl, hb3⟩; have HB3 := hide (HB2.out.trans (hb3.mono HB2.out.size)); clear hb3))
            go_roundw
            case rel => exact ⟨k + 1, _, by omega, by go_num, rfl, by simp only [te_size]; show S.size + T1.size + (1 + T2.size) ≤ _; omega, hide HV.out.symm, HB3⟩
            case measure => simp [intOf]; omega
        · have hkn : k = n := by omega
          have ha1 : ¬ 9223372036854775807 < S.size + 1 := by omega
          have HV : Hid (ctT false n L H = S ++ ⟨#[93]⟩) := hide (by rw [LOOP.out, HS.out, hkn])
          clear hkn
          go_wp2
          go_ret
          exact ⟨ret_s9 HV.out.symm, HB.out⟩
  · have HONE : Hid (oneC true n L H = false) := hide rfl
    have LOOP := hide (LOOP0.out HONE.out)
    clear LOOP0 hl0 hh0
    go_enter Tryz.func26, Tryz.ntmps26
    go_wp2
    go_loopw [4, 37] (fun sv iv wr => ∃ (k : Nat) (S : ByteArray), k ≤ n ∧ iv = .int .i64 k ∧ sv = .string S ∧ S.size ≤ 2 + 11 * k ∧ Hid (S = ctA (ct0 true) L H k) ∧ Hid (Below w.heap.size w wr)) (fun _ iv _ => n - (intOf iv).toNat)
    case atStart => exact ⟨0, _, Nat.zero_le _, rfl, rfl, by decide, hide (by first | rfl | decide), hide ((st _).alloc (st _).size _)⟩
    case round =>
      obtain ⟨k, S, hk, rfl, rfl, hS, HS, HB⟩ := hrel
      by_cases hlt : k < n
      · have hki : (k : Int) < n := by omega
        obtain ⟨x0, x1⟩ := HROW.out k hlt
        have y0 := (HB.out.cell (p := ⟨b, off + k * 2, none⟩) hb).trans x0
        have y1 := (HB.out.cell (p := ⟨b, off + k * 2 + 1, none⟩) hb).trans x1
        obtain ⟨d0, d1, d2⟩ := HCH.out k hlt
        obtain ⟨l, hl⟩ : ∃ l, L k = l := ⟨_, rfl⟩
        obtain ⟨h, hh⟩ : ∃ h, H k = h := ⟨_, rfl⟩
        rw [hl] at y0 d0 d2
        rw [hh] at y1 d1 d2
        have CS := hide (fun w9 => i_chI l w9 d0)
        have CT := hide (fun w9 => i_chI h w9 d1)
        have z1 := chT_size sgI l
        have z2 := chT_size sgI h
        have HLL := hide hl
        have HHH := hide hh
        obtain ⟨T1, hT1⟩ : ∃ T1, chT sgI l = T1 := ⟨_, rfl⟩
        obtain ⟨T2, hT2⟩ : ∃ T2, chT sgI h = T2 := ⟨_, rfl⟩
        rw [hT1] at CS z1
        rw [hT2] at CT z2
        have HT1 := hide hT1
        have HT2 := hide hT2
        have HNB := fun T => cellsK_new wr l h T
        have hwb : w.heap.size ≤ wr.heap.size := HB.out.size
        clear x0 x1 hl hh hT1 hT2
        have ha1 : ¬ 9223372036854775807 < S.size + T1.size := by omega
        have ha2 : ¬ 9223372036854775807 < 1 + T2.size := by omega
        have ha3 : ¬ 9223372036854775807 < S.size + T1.size + (1 + T2.size) := by omega
        by_cases heq : l = h
        · have hgt : (l != h) = false := by rw [heq]; simp
          have HV : Hid (ctA (ct0 true) L H (k + 1) = S ++ T1) := hide (by rw [ctA_succ (by rw [HLL.out, HHH.out]; exact heq), ← HS.out, HLL.out, HT1.out])
          clear heq
          go_wp2_with (go_at_call_of 46 (Value.int .i64 l); refine (CS.out _).mono ?_; rintro e w2 ⟨rfl, hb2⟩; have HB2 := hide ((HB.out.alloc hwb _).trans (hb2.mono (HB.out.alloc hwb _).size)); obtain ⟨m0, m1⟩ := cellsK_go (HNB _) hb2; clear hb2)
          go_roundw
          case rel => exact ⟨k + 1, _, by omega, by go_num, rfl, by rw [te_size]; omega, hide HV.out.symm, HB2⟩
          case measure => simp [intOf]; omega
        · have hgt : (l != h) = true := by rw [bne_iff_ne]; exact heq
          have HV : Hid (ctA (ct0 true) L H (k + 1) = S ++ T1 ++ (⟨#[45]⟩ ++ T2)) := hide (by rw [ctA_more (by rw [HLL.out, HHH.out]; exact heq), ← HS.out, HLL.out, HHH.out, HT1.out, HT2.out])
          have HLH := hide heq
          clear heq
          go_wp2_with (first | (go_at_call_of 46 (Value.int .i64 l); refine (CS.out _).mono ?_; rintro e w2 ⟨rfl, hb2⟩; have HB2 := hide ((HB.out.alloc hwb _).trans (hb2.mono (HB.out.alloc hwb _).size)); obtain ⟨m0, m1⟩ := cellsK_go (HNB _) hb2; clear hb2) | (go_at_call_of 46 (Value.int .i64 h); refine (CT.out _).mono ?_; rintro e w3 ⟨rfl, hb3⟩; have HB3 := hide (HB2.out.trans (hb3.mono HB2.out.size)); clear hb3))
          go_roundw
          case rel => exact ⟨k + 1, _, by omega, by go_num, rfl, by simp only [te_size]; show S.size + T1.size + (1 + T2.size) ≤ _; omega, hide HV.out.symm, HB3⟩
          case measure => simp [intOf]; omega
      · have hkn : k = n := by omega
        have ha1 : ¬ 9223372036854775807 < S.size + 1 := by omega
        have HV : Hid (ctT true n L H = S ++ ⟨#[93]⟩) := hide (by rw [LOOP.out, HS.out, hkn])
        clear hkn
        go_wp2
        go_ret
        exact ⟨ret_s9 HV.out.symm, HB.out⟩
end Go.Proofs.YtibagghpimadfaaGreatDoor
