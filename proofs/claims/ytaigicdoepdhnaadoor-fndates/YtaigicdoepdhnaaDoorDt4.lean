/-
  Contracts: the text of a date: the program's.
-/
import Derived.Test.YtaigicdoepdhnaaDoorDt3
import Derived.Lib.LaidIn
import Derived.Lib.LaidU8T
namespace Go.Proofs.YtaigicdoepdhnaaDoor
open Go.RowKit Go.Joins
set_option linter.unusedVariables false
set_option linter.unusedSimpArgs false
theorem zone_size (g : Bool) (z : Int) : (zoneB g z).size ≤ 6 := by
  unfold zoneB
  split
  · decide
  · split
    · decide
    · split <;> rw [ByteArray.size_append, clock_size] <;> decide
theorem tabis_of {P : Program} {W : World} {name : String} {k : IntKind} {zs : List Int} {g : Nat} {t e : TypeId} {n : Nat} (hg : P.globalNamed name = some g) (hty : (P.globals[g]?).map (·.type) = some t) (ht : P.underlying t = some (.array n e)) (he : P.underlying e = some (.int k)) (hce : P.cellsOf e = 1) (hct : P.cellsOf t = n)
    (h : Lib.VarReads P W name (Lib.tabData k zs)) : Lib.TabIs P W name k zs := by
  obtain ⟨g', t', cs, fuel, p, hg', ht', hvar, hd⟩ := h
  obtain rfl := Option.some.inj (hg.symm.trans hg')
  obtain rfl := Option.some.inj (hty.symm.trans ht')
  have e := Lib.cells_of_tab ht he hce hct hd
  unfold Lib.TabIs
  rw [hvar]; congr 1; cases cs; simp at e; rw [e]
set_option maxRecDepth 100000 in
set_option maxHeartbeats 8000000 in
theorem i_dtext (y mo d h mi s : Int) (g : Bool) (z : Int) (w : World) (ht : MTab 0 w) (htab : Lib.TabIs Tryd.prog w "internal/strconv.uint64pow10" .u64 Lib.pow10Tab) : Calls Tryd.prog 6 #[.agg #[.int .i64 y, .int .i64 mo, .int .i64 d, .int .i64 h, .int .i64 mi, .int .i64 s, .bool g, .int .i64 z]] w fun e w' => e = .returned (.string (dtB y mo d h mi s g z)) ∧ Below w.heap.size w w' := by
  have HM := hide (mtab_box ht (.cells #[.int .i64 y, .int .i64 mo, .int .i64 d, .int .i64 h, .int .i64 mi, .int .i64 s, .bool g, .int .i64 z] 25))
  have HT := hide htab
  clear ht htab
  cases hd : dateB y mo d h mi s g z
  · go_enter Tryd.func6, Tryd.ntmps6
    go_wp2_with fail
    refine (i_dateok y mo d h mi s g z _ HM.out).mono ?_
    rintro e w1 ⟨rfl, hb1⟩
    rw [hd]
    have HB1 := hide (box_below hb1)
    clear hb1
    go_wp2
    go_ret
    exact ⟨ret_st (by simp [dtB, hd]), HB1.out⟩
  · obtain ⟨⟨y0, y1⟩, ⟨m0, m1⟩, ⟨d0, d1⟩, ⟨h0, h1⟩, ⟨i0, i1⟩, ⟨s0, s1⟩, ⟨z0, z1⟩⟩ := date_bounds hd
    have d2 : d ≤ 31 := by have := dim_bd y mo; omega
    have HV : Hid (dtB y mo d h mi s g z = dayB y mo d ++ (chB1 84 ++ (clockB h mi ++ (chB1 58 ++ (twoB s ++ zoneB g z))))) := hide (by rw [dtB, if_pos hd])
    have hsz : ∀ n, (twoB n).size = 2 := two_size
    have hy4 : ∀ n, (yearB n).size = 4 := year_size
    have hc5 : ∀ a b, (clockB a b).size = 5 := clock_size
    have hZs := zone_size g z
    obtain ⟨Z, hZ⟩ : ∃ Z, zoneB g z = Z := ⟨_, rfl⟩
    rw [hZ] at hZs HV
    have HZ := hide hZ
    clear hZ
    go_enter Tryd.func6, Tryd.ntmps6
    go_wp2_with fail
    refine (i_dateok y mo d h mi s g z _ HM.out).mono ?_
    rintro e w1 ⟨rfl, hb1⟩
    rw [hd]
    have HX : Hid (DX w w1 y mo d h mi s g z) := ⟨dbox_go (dbox_new w y mo d h mi s g z _) hb1, box_below hb1⟩
    clear hb1 hd
    have hS0 := dx_all (dx_drew HX.out)
    go_wp2_with fail
    go_cut [3] (fun v3 wx => ∃ T : ByteArray, v3 = .string T ∧ T.size ≤ 30 ∧ Hid (T = dayB y mo d) ∧ Hid (DX w wx y mo d h mi s g z))
    case first =>
      go_region_held3 (fun w' => DX w w' y mo d h mi s g z ∧ w'.cell? ⟨w.heap.size, 0, none⟩ = some (.int .i64 y) ∧ w'.cell? ⟨w.heap.size, 1, none⟩ = some (.int .i64 mo) ∧ w'.cell? ⟨w.heap.size, 2, none⟩ = some (.int .i64 d) ∧ w'.cell? ⟨w.heap.size, 3, none⟩ = some (.int .i64 h) ∧ w'.cell? ⟨w.heap.size, 4, none⟩ = some (.int .i64 mi) ∧ w'.cell? ⟨w.heap.size, 5, none⟩ = some (.int .i64 s) ∧ w'.cell? ⟨w.heap.size, 6, none⟩ = some (.bool g) ∧ w'.cell? ⟨w.heap.size, 7, none⟩ = some (.int .i64 z)) (first | assumption | exact dx_all HY.out) (first
        | (go_at_call_of 14 (Value.int .i64 4); refine (i_pad4 y _ (by omega) (by omega) (tab_go HT.out (dx_drew HX.out).2)).mono ?_; rintro e wn ⟨rfl, hbn⟩; (have HY := hide (dx_go (dx_drew HX.out) hbn)); clear hbn)
        | (go_at_call_of 14 (Value.int .i64 mo); refine (i_pad2 mo _ (by omega) (by omega) (tab_go HT.out HY.out.2)).mono ?_; rintro e wn ⟨rfl, hbn⟩; (replace HY := hide (dx_go HY.out hbn)); clear hbn)
        | (go_at_call_of 14 (Value.int .i64 d); refine (i_pad2 d _ (by omega) (by omega) (tab_go HT.out HY.out.2)).mono ?_; rintro e wn ⟨rfl, hbn⟩; (replace HY := hide (dx_go HY.out hbn)); clear hbn))
      all_goals
        go_wp2_with fail
        go_meet
        refine ⟨_, rfl, ?_, hide ?_, HY⟩
        · simp only [ByteArray.size_append, hsz, hy4]; decide
        · simp only [dayB, yearB, chB1, ByteArray.append_assoc]
    case rest =>
      obtain ⟨T, rfl, hTs, HTT, HY⟩ := hcut
      have b1 : ¬ 9223372036854775807 < T.size + 1 := by omega
      have b2 : ¬ 9223372036854775807 < T.size + 1 + 5 := by omega
      have b3 : ¬ 9223372036854775807 < T.size + 1 + 5 + 1 := by omega
      have b4 : ¬ 9223372036854775807 < T.size + 1 + 5 + 1 + 2 := by omega
      have b5 : ¬ 9223372036854775807 < T.size + 1 + 5 + 1 + 2 + Z.size := by omega
      have hS1 := dx_all (dx_drew HY.out)
      go_wp2_with fail
      go_region_held3 (fun w' => DX w w' y mo d h mi s g z ∧ w'.cell? ⟨w.heap.size, 0, none⟩ = some (.int .i64 y) ∧ w'.cell? ⟨w.heap.size, 1, none⟩ = some (.int .i64 mo) ∧ w'.cell? ⟨w.heap.size, 2, none⟩ = some (.int .i64 d) ∧ w'.cell? ⟨w.heap.size, 3, none⟩ = some (.int .i64 h) ∧ w'.cell? ⟨w.heap.size, 4, none⟩ = some (.int .i64 mi) ∧ w'.cell? ⟨w.heap.size, 5, none⟩ = some (.int .i64 s) ∧ w'.cell? ⟨w.heap.size, 6, none⟩ = some (.bool g) ∧ w'.cell? ⟨w.heap.size, 7, none⟩ = some (.int .i64 z)) (first | assumption | exact dx_all HW.out) (first
        | (go_at_call 15; refine (i_clock h mi _ (by omega) (by omega) (by omega) (by omega) (tab_go HT.out (dx_drew HY.out).2)).mono ?_; rintro e wn ⟨rfl, hbn⟩; (have HW := hide (dx_go (dx_drew HY.out) hbn)); clear hbn)
        | (go_at_call 14; refine (i_pad2 s _ (by omega) (by omega) (tab_go HT.out HW.out.2)).mono ?_; rintro e wn ⟨rfl, hbn⟩; (replace HW := hide (dx_go HW.out hbn)); clear hbn)
        | (go_at_call 16; refine (i_ztext y mo d h mi s g z _ (by omega) (by omega) (tab_go HT.out HW.out.2)).mono ?_; rintro e wn ⟨rfl, hbn⟩; rw [HZ.out]; (replace HW := hide (dx_go HW.out hbn)); clear hbn))
      all_goals
        go_wp2
        go_ret
        refine ⟨ret_st ?_, HW.out.2⟩
        rw [HV.out, HTT.out]
        simp only [chB1, ByteArray.append_assoc]
end Go.Proofs.YtaigicdoepdhnaaDoor
