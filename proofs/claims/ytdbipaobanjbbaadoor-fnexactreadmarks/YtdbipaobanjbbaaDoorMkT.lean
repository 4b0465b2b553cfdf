/-
  Contract: the text of marks, by the specification.
-/
import Derived.Test.YtdbipaobanjbbaaDoorMkD
import Derived.Deep.RegionHeld3
namespace Go.Proofs.YtdbipaobanjbbaaDoor
open Go.RowKit Go.Joins
set_option linter.unusedVariables false
set_option linter.unusedSimpArgs false
/-- What a round keeps. -/
def MB (w W : World) (G : Nat) (g : Bool) (dc : Int) (vl : ByteArray) (nl gv : Bool) : Prop := Below w.heap.size w W ∧ CellsAt W G #[.bool g, .int .i64 dc, .string vl, .bool nl, .bool gv]
section
variable {w W W' : World} {G : Nat} {g : Bool} {dc : Int} {vl : ByteArray} {nl gv : Bool}
theorem mb_go (h : MB w W G g dc vl nl gv) (k : Below W.heap.size W W') : MB w W' G g dc vl nl gv := ⟨h.1.trans (k.mono h.1.size), cellsAt_go h.2 k (cellsAt_lt h.2)⟩
theorem mb_drew (h : MB w W G g dc vl nl gv) : MB w W.drew G g dc vl nl gv := mb_go h ⟨rfl, rfl, rfl, Nat.le_refl _, fun _ _ => rfl⟩
theorem mb_cells (h : MB w W G g dc vl nl gv) : W.cell? ⟨G, 0, none⟩ = some (.bool g) ∧ W.cell? ⟨G, 1, none⟩ = some (.int .i64 dc) ∧ W.cell? ⟨G, 2, none⟩ = some (.string vl) ∧ W.cell? ⟨G, 3, none⟩ = some (.bool nl) ∧ W.cell? ⟨G, 4, none⟩ = some (.bool gv) := ⟨cellsAt_cell h.2 0, cellsAt_cell h.2 1, cellsAt_cell h.2 2, cellsAt_cell h.2 3, cellsAt_cell h.2 4⟩
theorem mb_all (h : MB w W G g dc vl nl gv) : MB w W G g dc vl nl gv ∧ W.cell? ⟨G, 0, none⟩ = some (.bool g) ∧ W.cell? ⟨G, 1, none⟩ = some (.int .i64 dc) ∧ W.cell? ⟨G, 2, none⟩ = some (.string vl) ∧ W.cell? ⟨G, 3, none⟩ = some (.bool nl) ∧ W.cell? ⟨G, 4, none⟩ = some (.bool gv) := ⟨h, mb_cells h⟩
end
theorem fl_size (b : Bool) (c : UInt8) : (⟨(fl b c).toArray⟩ : ByteArray).size = 1 := by unfold fl; split <;> rfl
set_option maxRecDepth 100000 in
set_option maxHeartbeats 8000000 in
theorem s_marksText (M : Mk) (n : Nat) (a : Option Addr) (cap : Nat) (w : World) (hM : M.n = n) (hz : mkTot M ≤ 1048576) (hr : MkAt w a M w.heap.size) :
    Calls Tryd.prog 11 #[.slice a n cap] w fun e w' => e = .returned (.string (mkV M)) ∧ Below w.heap.size w w' := by
  have HM := hide hM
  have HR := hide hr
  have HZ := hide (mk_sz hz)
  have hn : n ≤ 1048576 := by rw [← hM]; exact (mk_sz hz).1
  clear hr hM hz
  by_cases hb2 : 200 < n
  · have HV := hide (mkV_big (M := M) (by rw [HM.out]; exact hb2))
    have hb3 : (200 : Int) < (n : Int) := by omega
    go_enter Tryd.func11, Tryd.ntmps11
    go_wp2
    go_ret
    exact ⟨ret_s9 HV.out.symm, Below.refl _ _⟩
  · have hb3 : ¬ (200 : Int) < (n : Int) := by omega
    go_enter Tryd.func11, Tryd.ntmps11
    go_wp2
    go_loopw [3, 4] (fun sv iv wr => ∃ (k : Nat) (t : ByteArray), k ≤ n ∧ iv = .int .i64 k ∧ sv = .string t ∧ Hid (t.data.toList = txM M k) ∧ Below w.heap.size w wr ∧ Hid (∀ j, j < k → okM M j = true)) (fun _ iv _ => n - (intOf iv).toNat)
    case atStart => exact ⟨0, ⟨#[]⟩, Nat.zero_le _, rfl, rfl, hide rfl, Below.refl _ _, hide (fun j h => by omega)⟩
    case round =>
      obtain ⟨k, t, hk, rfl, rfl, HT, hb, HA⟩ := hrel
      have htl := tx_len k HA.out
      have hts : t.size ≤ 200 * 15010 := by
        rw [← bl, HT.out]
        have : k * 15010 ≤ 200 * 15010 := Nat.mul_le_mul_right _ (by omega)
        omega
      by_cases hlt : k < n
      · obtain ⟨b, off, rfl, hbs, hc⟩ := HR.out (by rw [HM.out]; omega)
        obtain ⟨h0, h1, h2, h3, h4⟩ := hc k (by rw [HM.out]; omega)
        have c0 := (hb.cell (p := ⟨b, off + k * 5, none⟩) hbs).trans h0
        have c1 := (hb.cell (p := ⟨b, off + k * 5 + 1, none⟩) hbs).trans h1
        have c2 := (hb.cell (p := ⟨b, off + k * 5 + 2, none⟩) hbs).trans h2
        have c3 := (hb.cell (p := ⟨b, off + k * 5 + 3, none⟩) hbs).trans h3
        have c4 := (hb.cell (p := ⟨b, off + k * 5 + 4, none⟩) hbs).trans h4
        have hvs : (M.VL k).size ≤ 1048576 := by have := HZ.out.2 k (by rw [HM.out]; omega); unfold mkSz at this; omega
        have hin : (k : Int) < (n : Int) := by omega
        have HX1 : Hid (MB w (wr.alloc (.cells #[.bool (M.G k), .int .i64 (M.DC k), .string (M.VL k), .bool (M.NL k), .bool (M.GV k)] 29)) wr.heap.size (M.G k) (M.DC k) (M.VL k) (M.NL k) (M.GV k)) := hide ⟨hb.alloc hb.size _, cellsAt_new wr _ _⟩
        have CO := hide (fun (w : World) => s_markOk (M.G k) (M.DC k) (M.VL k) (M.NL k) (M.GV k) w hvs)
        have HTX : Hid (txM M (k + 1) = txM M k ++ lnP (M.G k) (M.DC k) (M.VL k) (M.NL k) (M.GV k)) := hide rfl
        have HOK : Hid (okM M k = mkB (M.DC k) (M.VL k)) := hide rfl
        clear hc hb h0 h1 h2 h3 h4
        cases hok : okM M k
        · have HV := hide (mkV_bad (M := M) (k := k) (by rw [HM.out]; exact hlt) hok)
          rw [← HOK.out, hok] at CO
          go_wp2_with (first | (go_at_call 20; refine (CO.out _).mono ?_; rintro e w2 ⟨rfl, hb2⟩; have X2 := hide (mb_go HX1.out hb2); clear hb2))
          go_ret
          exact ⟨ret_s9 HV.out.symm, X2.out.1⟩
        · obtain ⟨hdc, hes, hv2⟩ := ok_parts hok
          have HA2 : Hid (∀ j, j < k + 1 → okM M j = true) := hide (fun j hj => by
            by_cases e : j = k
            · subst e; exact hok
            · exact HA.out j (by omega))
          rw [← HOK.out, hok] at CO
          have CF := hide (fun (b : Bool) (c : UInt8) (w : World) => s_flag b c w)
          have CD := hide (fun (w : World) => s_dec (M.DC k) w hdc)
          have CE := hide (fun (w : World) => s_escL true (M.VL k) w hvs)
          have hil := itoa_len hdc
          have hel := escL_len true (M.VL k).data.toList
          rw [bl] at hel
          obtain ⟨D, hD⟩ : ∃ D : ByteArray, (⟨(Lib.itoa (M.DC k)).toArray⟩ : ByteArray) = D := ⟨_, rfl⟩
          obtain ⟨E, hE⟩ : ∃ E : ByteArray, (⟨(escL true (M.VL k).data.toList).toArray⟩ : ByteArray) = E := ⟨_, rfl⟩
          rw [hD] at CD
          rw [hE] at CE
          have HDL : Hid (D.data.toList = Lib.itoa (M.DC k)) := hide (by rw [← hD])
          have HEL : Hid (E.data.toList = escL true (M.VL k).data.toList) := hide (by rw [← hE])
          have hds : D.size ≤ 2 := by rw [← bl, HDL.out]; exact hil
          have hEs : E.size ≤ 15000 := by rw [← bl, HEL.out]; omega
          have HLN : Hid (lnP (M.G k) (M.DC k) (M.VL k) (M.NL k) (M.GV k) = fl (M.G k) 103 ++ fl (M.NL k) 110 ++ fl (M.GV k) 100 ++ [32] ++ Lib.itoa (M.DC k) ++ [32] ++ escL true (M.VL k).data.toList ++ [10]) := hide rfl
          obtain ⟨F1, hF1⟩ : ∃ F : ByteArray, (⟨(fl (M.G k) 103).toArray⟩ : ByteArray) = F := ⟨_, rfl⟩
          obtain ⟨F2, hF2⟩ : ∃ F : ByteArray, (⟨(fl (M.NL k) 110).toArray⟩ : ByteArray) = F := ⟨_, rfl⟩
          obtain ⟨F3, hF3⟩ : ∃ F : ByteArray, (⟨(fl (M.GV k) 100).toArray⟩ : ByteArray) = F := ⟨_, rfl⟩
          have CF1 := hide (fun (w : World) => CF.out (M.G k) 103 w)
          have CF2 := hide (fun (w : World) => CF.out (M.NL k) 110 w)
          have CF3 := hide (fun (w : World) => CF.out (M.GV k) 100 w)
          rw [hF1] at CF1
          rw [hF2] at CF2
          rw [hF3] at CF3
          have z1 : F1.size ≤ 1 := by rw [← hF1, fl_size]; omega
          have z2 : F2.size ≤ 1 := by rw [← hF2, fl_size]; omega
          have z3 : F3.size ≤ 1 := by rw [← hF3, fl_size]; omega
          have HF : Hid (F1.data.toList = fl (M.G k) 103 ∧ F2.data.toList = fl (M.NL k) 110 ∧ F3.data.toList = fl (M.GV k) 100) := hide ⟨by rw [← hF1], by rw [← hF2], by rw [← hF3]⟩
          have s1 : ¬ 9223372036854775807 < t.size + F1.size := by omega
          have s2 : ¬ 9223372036854775807 < t.size + F1.size + F2.size := by omega
          have s3 : ¬ 9223372036854775807 < t.size + F1.size + F2.size + F3.size := by omega
          have s4 : ¬ 9223372036854775807 < t.size + F1.size + F2.size + F3.size + 1 := by omega
          have s5 : ¬ 9223372036854775807 < t.size + F1.size + F2.size + F3.size + 1 + D.size := by omega
          have s6 : ¬ 9223372036854775807 < t.size + F1.size + F2.size + F3.size + 1 + D.size + 1 := by omega
          have s7 : ¬ 9223372036854775807 < t.size + F1.size + F2.size + F3.size + 1 + D.size + 1 + E.size := by omega
          have s8 : ¬ 9223372036854775807 < t.size + F1.size + F2.size + F3.size + 1 + D.size + 1 + E.size + 1 := by omega
          clear hD hE hF1 hF2 hF3 CF hil hel hes hv2 htl hdc
          go_wp2_with fail
          refine (CO.out _).mono ?_
          rintro e w2 ⟨rfl, hb2⟩
          have XX := hide (mb_go HX1.out hb2)
          clear hb2 HX1 c0 c1 c2 c3 c4
          obtain ⟨x0, x1, x2, x3, x4⟩ := mb_cells XX.out
          go_wp2
          go_region_held3 (fun w' => MB w w' wr.heap.size (M.G k) (M.DC k) (M.VL k) (M.NL k) (M.GV k) ∧ w'.cell? ⟨wr.heap.size, 0, none⟩ = some (.bool (M.G k)) ∧ w'.cell? ⟨wr.heap.size, 1, none⟩ = some (.int .i64 (M.DC k)) ∧ w'.cell? ⟨wr.heap.size, 2, none⟩ = some (.string (M.VL k)) ∧ w'.cell? ⟨wr.heap.size, 3, none⟩ = some (.bool (M.NL k)) ∧ w'.cell? ⟨wr.heap.size, 4, none⟩ = some (.bool (M.GV k))) (first | assumption | exact mb_all (mb_drew XX.out) | exact mb_all XX.out) (first | (go_at_call_of 21 (Value.string ⟨#[103]⟩); refine (CF1.out _).mono ?_; rintro e w2 ⟨rfl, rfl⟩) | (go_at_call_of 21 (Value.string ⟨#[110]⟩); refine (CF2.out _).mono ?_; rintro e w2 ⟨rfl, rfl⟩) | (go_at_call_of 21 (Value.string ⟨#[100]⟩); refine (CF3.out _).mono ?_; rintro e w2 ⟨rfl, rfl⟩) | (go_at_call 23; refine (CE.out _).mono ?_; rintro e w2 ⟨rfl, rfl⟩) | (go_at_call 22; refine (CD.out _).mono ?_; rintro e w2 ⟨rfl, hb2⟩; have X2 := hide (mb_go (mb_drew XX.out) hb2); replace XX := X2; clear X2 hb2))
          all_goals
            go_wp2
            go_roundw
            case rel =>
              refine ⟨k + 1, _, by omega, by go_num, rfl, hide ?_, XX.out.1, HA2⟩
              rw [HTX.out, HLN.out]
              simp only [bl_app, HT.out, HF.out.1, HF.out.2.1, HF.out.2.2, HDL.out, HEL.out]
              simp only [List.append_assoc]
            case measure => simp [intOf]; omega
      · have hkn : k = n := by omega
        subst hkn
        have HV := hide (mkV_all (M := M) (by rw [HM.out]; omega) (by rw [HM.out]; exact HA.out))
        rw [HM.out] at HV
        go_wp2
        go_ret
        exact ⟨ret_s9 (by rw [HV.out]; exact Go.WideShapes.bytes_inj (by rw [HT.out])), hb⟩
end Go.Proofs.YtdbipaobanjbbaaDoor
