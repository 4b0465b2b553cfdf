/-
  spec.White where blanks are made one kind, and where nothing is done.
-/
import Derived.Test.YtfbahffljhnjbaaGreatDoorX36
namespace Go.Proofs.YtfbahffljhnjbaaGreatDoor
open Go.RowKit
set_option linter.unusedVariables false
set_option linter.unusedSimpArgs false
theorem blB_iff (c : UInt8) : blB c = true ↔ c.toNat = 32 ∨ c.toNat = 9 ∨ c.toNat = 10 ∨ c.toNat = 13 := by
  rw [← blR_B]
  unfold blR
  simp
  omega
set_option maxHeartbeats 4000000 in
theorem s_blank (c : UInt8) (w : World) : Calls Tryz.prog 94 #[.int .u8 c.toNat] w fun e w' => e = .returned (.bool (blB c)) ∧ w' = w := by
  obtain ⟨b, hb⟩ : ∃ b, blB c = b := ⟨_, rfl⟩
  have hc : (c.toNat : Int) < 256 := by have := c.toNat_lt; omega
  have hc0 : (0 : Int) ≤ (c.toNat : Int) := by omega
  have hi := blB_iff c
  rw [hb] at hi ⊢
  go_enter Tryz.func94, Tryz.ntmps94
  by_cases h1 : (c.toNat : Int) = 32
  · have : b = true := hi.2 (by omega)
    subst this
    clear hi hb
    have e1 : ((c.toNat : Int) == 32) = true := by simpa using h1
    go_wp2
    go_ret
    exact ⟨rfl, rfl⟩
  · have e1 : ((c.toNat : Int) == 32) = false := by simpa using h1
    by_cases h2 : (c.toNat : Int) = 9
    · have : b = true := hi.2 (by omega)
      subst this
      clear hi hb
      have e2 : ((c.toNat : Int) == 9) = true := by simpa using h2
      go_wp2
      go_ret
      exact ⟨rfl, rfl⟩
    · have e2 : ((c.toNat : Int) == 9) = false := by simpa using h2
      by_cases h3 : (c.toNat : Int) = 10
      · have : b = true := hi.2 (by omega)
        subst this
        clear hi hb
        have e3 : ((c.toNat : Int) == 10) = true := by simpa using h3
        go_wp2
        go_ret
        exact ⟨rfl, rfl⟩
      · have e3 : ((c.toNat : Int) == 10) = false := by simpa using h3
        by_cases h4 : (c.toNat : Int) = 13
        · have : b = true := hi.2 (by omega)
          subst this
          clear hi hb
          have e4 : ((c.toNat : Int) == 13) = true := by simpa using h4
          go_wp2
          go_ret
          exact ⟨rfl, rfl⟩
        · have e4 : ((c.toNat : Int) == 13) = false := by simpa using h4
          have : b = false := by
            cases b
            · rfl
            · have := hi.1 rfl
              omega
          subst this
          clear hi hb
          go_wp2
          go_ret
          exact ⟨rfl, rfl⟩
set_option maxRecDepth 100000 in
set_option maxHeartbeats 8000000 in
theorem s_white1 (s : ByteArray) (w : World) (hs : s.size ≤ 1048576) :
    Calls Tryz.prog 63 #[.string s, .int .i64 1] w (BrAns s w) := by
  obtain ⟨cap, w1, hcv, hbf, hb1⟩ := buf_made w s
  have HBF := hide hbf
  have HB1 := hide hb1
  clear hbf hb1
  go_enter Tryz.func63, Tryz.ntmps63
  go_wp2_with fail
  go_loopw [6] (fun v6 wr => ∃ i : Nat, i ≤ s.size ∧ v6 = .int .i64 i ∧ Hid (BufA wr w.heap.size (mixB s.data.toList i)) ∧ Hid (Below w.heap.size w wr)) (fun v6 _ => s.size - (intOf v6).toNat)
  case atStart => exact ⟨0, Nat.zero_le _, rfl, hide (by rw [mixB_zero]; exact HBF.out), HB1⟩
  case round =>
    obtain ⟨i, hi, rfl, HR, HB⟩ := hrel
    by_cases hlt : i < s.size
    · have hii : (i : Int) < (s.size : Int) := by omega
      have hi0 : (0 : Int) ≤ (i : Int) := by omega
      have hat := at_ba9 s i hlt
      obtain ⟨c, hc⟩ : ∃ c, s[i] = c := ⟨_, rfl⟩
      rw [hc] at hat
      have HAT := hide hat
      have HN := hide (mixB_next hat)
      have bc := buf_cell HR.out (mixB_at hat)
      have bf := buf_frozen HR.out (j := i) (by rw [mixB_len]; simpa using hlt)
      clear hat hc
      have CB := hide (s_blank c wr)
      cases hx : blB c
      · have HM : Hid (mixB s.data.toList (i + 1) = mixB s.data.toList i) := hide (by
          rw [HN.out, hx]
          apply List.ext_getElem?
          intro j
          by_cases e : i = j
          · subst e
            rw [mixB_at HAT.out, List.getElem?_set_self (by rw [mixB_len]; simpa using hlt)]
            rfl
          · rw [List.getElem?_set_ne e])
        rw [hx] at CB
        clear HN hx
        go_wp2_with (go_at_call 94; refine CB.out.mono ?_; rintro e w' ⟨rfl, rfl⟩)
        go_roundw
        case rel => exact ⟨i + 1, by omega, by go_num, hide (by rw [HM.out]; exact HR.out), HB⟩
        case measure => simp [intOf]; omega
      · have HS := hide (buf_set HR.out i 32)
        rw [hx, if_pos rfl] at HN
        rw [hx] at CB
        rw [← HN.out] at HS
        have HB2 := hide (HB.out.setCell (p := ⟨w.heap.size, i, none⟩) (Nat.le_refl _) (.int .u8 32))
        clear HN hx
        go_wp2_with (go_at_call 94; refine CB.out.mono ?_; rintro e w' ⟨rfl, rfl⟩)
        go_roundw
        case rel => exact ⟨i + 1, by omega, by go_num, HS, HB2⟩
        case measure => simp [intOf]; omega
    · have e : i = s.size := by omega
      subst e
      have hii : ¬ (s.size : Int) < (s.size : Int) := by omega
      have hml : mixB s.data.toList s.size = reB s.data.toList := by
        have := mixB_all s.data.toList
        simpa using this
      have hbf := HR.out
      rw [hml] at hbf
      have hl : (reB s.data.toList).length = s.size := by simp [reB]
      have hcv2 := buf_back hbf cap
      rw [hl] at hcv2
      clear hml hl hbf
      go_wp2
      go_ret
      exact ⟨rfl, HB.out⟩
end Go.Proofs.YtfbahffljhnjbaaGreatDoor
