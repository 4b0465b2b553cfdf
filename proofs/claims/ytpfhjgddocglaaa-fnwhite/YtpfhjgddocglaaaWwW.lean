/-
  The law on blanks: its walk behind the draw.
-/
import Derived.Test.YtpfhjgddocglaaaWwD
import Derived.Test.YtpfhjgddocglaaaWwM
namespace Go.Proofs.Ytpfhjgddocglaaa
open Go.RowKit
set_option linter.unusedVariables false
set_option linter.unusedSimpArgs false
theorem self_bne (l : List UInt8) : (l != l) = false := by simp
theorem self_beq (l : List UInt8) : (l == l) = true := by simp
set_option maxRecDepth 100000 in
set_option maxHeartbeats 16000000 in
theorem ww_walk (a : Option Addr) (n cap : Nat) (zs : List Int) (w : World) (hl : zs.length = n) (hz : ∀ x ∈ zs, 0 ≤ x ∧ x ≤ 255) (hn : n ≤ 1048576) (hs : SrcAt w a zs w.heap.size) :
    Calls Try.prog 3 #[.slice a n cap] w fun e w' => e = .returned (.bool true) ∧ Below w.heap.size w w' := by
  have hn' : ¬ (1048576 : Int) < (n : Int) := by omega
  have CD := hide (d_white a n cap zs w hl hz hn hs)
  clear hl hz hs
  go_enter Try.func3, Try.ntmps3
  go_wp2_with (first | (go_at_call 5; go_in) | fail)
  refine CD.out.mono ?_
  rintro e w1 ⟨s, i, hs, rfl, hb1⟩
  have B1 := hide hb1
  clear hb1
  obtain ⟨T, hT⟩ : ∃ T, whB s i = T := ⟨_, rfl⟩
  have HT := hide hT
  have hTs : T.size ≤ 100 := by rw [← hT]; exact wh_size s i hs
  have CI := hide (fun w9 => i_white s i w9 (by omega))
  have CS := hide (fun w9 => s_white s i w9 (by omega))
  have CT := hide (fun w9 => i_white T i w9 (by omega))
  have hid : whB T i = T := by rw [← hT]; exact wh_idem s i
  rw [hT] at CI CS
  rw [hid] at CT
  clear hT hid
  by_cases h1 : i = 1
  · subst h1
    have hsz : (T.size : Int) = (s.size : Int) := by rw [← HT.out, wh_len]
    go_wp2_with fail
    refine (CI.out _).mono ?_
    rintro e w2 ⟨rfl, hb⟩
    have B2 := hide (B1.out.trans (hb.mono B1.out.size))
    clear hb
    go_wp2_with fail
    refine (CS.out _).mono ?_
    rintro e w3 ⟨rfl, hb⟩
    have B3 := hide (B2.out.trans (hb.mono B2.out.size))
    clear hb
    go_wp2_with fail
    refine (CT.out _).mono ?_
    rintro e w4 ⟨rfl, hb⟩
    have B4 := hide (B3.out.trans (hb.mono B3.out.size))
    clear hb
    go_wp2
    go_ret
    exact ⟨rfl, B4.out⟩
  · have e1 : (i == 1) = false := by simpa using h1
    by_cases h2 : i = 2
    · subst h2
      have HG : Hid (GoodT T.data.toList) := hide (by rw [← HT.out]; exact jn_good s)
      have HBOTH : Hid (whB (whB s 1) 2 = T) := hide (by rw [wh_both, ← HT.out]; rfl)
      obtain ⟨U, hU⟩ : ∃ U, whB s 1 = U := ⟨_, rfl⟩
      have hUs : U.size ≤ 100 := by rw [← hU]; exact wh_size s 1 hs
      have C1 := hide (fun w9 => i_white s 1 w9 (by omega))
      have C2 := hide (fun w9 => i_white U 2 w9 (by omega))
      rw [hU] at C1 HBOTH
      rw [HBOTH.out] at C2
      clear hU
      go_wp2_with fail
      refine (CI.out _).mono ?_
      rintro e w2 ⟨rfl, hb⟩
      have B2 := hide (B1.out.trans (hb.mono B1.out.size))
      clear hb
      go_wp2_with fail
      refine (CS.out _).mono ?_
      rintro e w3 ⟨rfl, hb⟩
      have B3 := hide (B2.out.trans (hb.mono B2.out.size))
      clear hb
      go_wp2_with fail
      refine (CT.out _).mono ?_
      rintro e w4 ⟨rfl, hb⟩
      have B4 := hide (B3.out.trans (hb.mono B3.out.size))
      clear hb
      go_wp2
      go_loopw [6] (fun v wr => ∃ k : Nat, k ≤ T.size ∧ v = .int .i64 k ∧ wr = w4) (fun v _ => T.size - (intOf v).toNat)
      case atStart => exact ⟨0, Nat.zero_le _, rfl, rfl⟩
      case round =>
        obtain ⟨k, hk, rfl, hw⟩ := hrel
        rw [hw]
        by_cases hlt : k < T.size
        · have hlti : (k : Int) < (T.size : Int) := by omega
          have hk0 : (0 : Int) ≤ (k : Int) := by omega
          have hat := at_ba9 T k hlt
          by_cases hb : blB T[k] = true
          · obtain ⟨g1, g2, g3, g4⟩ := HG.out k _ hat hb
            have hlen : T.data.toList.length = T.size := by simp
            rw [hlen] at g3
            have hlt1 : k - 1 < T.size := by omega
            have g5 := g4 _ (at_ba9 T (k - 1) hlt1)
            have e32 : ((T[k].toNat : Int) == 32) = true := by rw [g1]; rfl
            have e9 : ((T[k].toNat : Int) == 9) = false := by rw [g1]; rfl
            have e10 : ((T[k].toNat : Int) == 10) = false := by rw [g1]; rfl
            have e13 : ((T[k].toNat : Int) == 13) = false := by rw [g1]; rfl
            have ek0 : ((k : Int) == 0) = false := by
              have : ¬ (k : Int) = 0 := by omega
              simpa using this
            have ek1 : ((k : Int) + 1 == (T.size : Int)) = false := by
              have : ¬ (k : Int) + 1 = (T.size : Int) := by omega
              simpa using this
            have hm0 : (0 : Int) ≤ (k : Int) - 1 := by omega
            have hm1 : (k : Int) - 1 < (T.size : Int) := by omega
            have hm2 : ((k : Int) - 1).toNat = k - 1 := by omega
            have ep : (((T[k - 1]'hlt1).toNat : Int) == 32) = false := by
              have : ¬ (((T[k - 1]'hlt1).toNat : Int) = 32) := fun e => by
                have : blB (T[k - 1]'hlt1) = true := (blB_iff _).2 (by omega)
                rw [this] at g5
                cases g5
              simpa using this
            clear g1 g2 g4 g5 hb hat hlen
            go_wp2
            go_roundw
            case rel => exact ⟨k + 1, by omega, by go_num, by first | rfl | trivial⟩
            case measure => simp [intOf]; omega
          · have hnb : ∀ m : Nat, (m = 32 ∨ m = 9 ∨ m = 10 ∨ m = 13) → ¬ (T[k].toNat : Int) = (m : Int) := fun m hm e => hb ((blB_iff _).2 (by omega))
            have e32 : ((T[k].toNat : Int) == 32) = false := by simpa using hnb 32 (by omega)
            have e9 : ((T[k].toNat : Int) == 9) = false := by simpa using hnb 9 (by omega)
            have e10 : ((T[k].toNat : Int) == 10) = false := by simpa using hnb 10 (by omega)
            have e13 : ((T[k].toNat : Int) == 13) = false := by simpa using hnb 13 (by omega)
            clear hnb hb hat
            go_wp2
            go_roundw
            case rel => exact ⟨k + 1, by omega, by go_num, by first | rfl | trivial⟩
            case measure => simp [intOf]; omega
        · have hlti : ¬ (k : Int) < (T.size : Int) := by omega
          go_wp2_with fail
          refine (C1.out _).mono ?_
          rintro e w5 ⟨rfl, hb⟩
          have B5 := hide (B4.out.trans (hb.mono B4.out.size))
          clear hb
          go_wp2_with fail
          refine (C2.out _).mono ?_
          rintro e w6 ⟨rfl, hb⟩
          have B6 := hide (B5.out.trans (hb.mono B5.out.size))
          clear hb
          go_wp2
          go_ret
          exact ⟨rfl, B6.out⟩
    · have e2 : (i == 2) = false := by simpa using h2
      have e3 : (i != 2) = true := by simpa using h2
      have hTS : T = s := by rw [← HT.out]; unfold whB; rw [if_neg h1, if_neg h2]
      subst hTS
      go_wp2_with fail
      refine (CI.out _).mono ?_
      rintro e w2 ⟨rfl, hb⟩
      have B2 := hide (B1.out.trans (hb.mono B1.out.size))
      clear hb
      go_wp2_with fail
      refine (CS.out _).mono ?_
      rintro e w3 ⟨rfl, hb⟩
      have B3 := hide (B2.out.trans (hb.mono B2.out.size))
      clear hb
      go_wp2_with fail
      refine (CT.out _).mono ?_
      rintro e w4 ⟨rfl, hb⟩
      have B4 := hide (B3.out.trans (hb.mono B3.out.size))
      clear hb
      go_wp2
      go_ret
      exact ⟨rfl, B4.out⟩
end Go.Proofs.Ytpfhjgddocglaaa
