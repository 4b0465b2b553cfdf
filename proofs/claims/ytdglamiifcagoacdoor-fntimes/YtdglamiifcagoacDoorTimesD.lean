/-
  Contract: the program's TimesDec.
-/
import Derived.Test.YtdglamiifcagoacDoorTimesI
import Derived.Test.YtdglamiifcagoacDoorDecOf
import Derived.Test.YtdglamiifcagoacDoorDigText
namespace Go.Proofs.YtdglamiifcagoacDoor
open Go.RowKit
set_option linter.unusedSimpArgs false
set_option linter.unusedVariables false
def timesB (n : Bool) (s : ByteArray) (c : Int) (m : Bool) (t : ByteArray) (d : Int) : Bool × ByteArray × Int × Bool := if decB n s c = true ∧ decB m t d = true then decRes (n != m) (valL s.data.toList * valL t.data.toList) (c + d).toNat else (false, ByteArray.empty, 0, false)
theorem timesB_no1 {n : Bool} {s : ByteArray} {c : Int} (m : Bool) (t : ByteArray) (d : Int) (h : decB n s c = false) : timesB n s c m t d = (false, ByteArray.empty, 0, false) := by simp [timesB, h]
theorem timesB_no2 (n : Bool) (s : ByteArray) (c : Int) {m : Bool} {t : ByteArray} {d : Int} (h : decB m t d = false) : timesB n s c m t d = (false, ByteArray.empty, 0, false) := by simp [timesB, h]
theorem timesB_yes {n m : Bool} {s t : ByteArray} {c d : Int} (h1 : decB n s c = true) (h2 : decB m t d = true) : timesB n s c m t d = decRes (n != m) (valL s.data.toList * valL t.data.toList) (c + d).toNat := by simp [timesB, h1, h2]
theorem heldN_set3 {w : World} {B : Nat} {n : Bool} {s : ByteArray} {c : Int} (h : HeldN w B n s c) (n9 : Bool) (s9 : ByteArray) (c9 : Int) : HeldN (((w.setCell ⟨B, 0, none⟩ (.bool n9)).setCell ⟨B, 1, none⟩ (.string s9)).setCell ⟨B, 2, none⟩ (.int .i64 c9)) B n9 s9 c9 := by
  obtain ⟨T, h⟩ := h
  exact ⟨T, heap_setCell_same _ _ _ _ _ _ (heap_setCell_same _ _ _ _ _ _ (heap_setCell_same _ _ _ _ _ _ h))⟩
theorem heap_set3 (w : World) (B : Nat) (x y z : Value) (k : Nat) (hk : k ≠ B) : (((w.setCell ⟨B, 0, none⟩ x).setCell ⟨B, 1, none⟩ y).setCell ⟨B, 2, none⟩ z).heap[k]? = w.heap[k]? :=
  (Below.heap_setCell _ ⟨B, 2, none⟩ _ k hk).trans ((Below.heap_setCell _ ⟨B, 1, none⟩ _ k hk).trans (Below.heap_setCell _ ⟨B, 0, none⟩ _ k hk))
def TdIn (w w1 : World) (g : Nat) (n : Bool) (s : ByteArray) (c : Int) (m : Bool) (t : ByteArray) (d : Int) (P : List Int) : Prop := HeldN w1 w.heap.size n s c ∧ HeldN w1 (w.heap.size + 1) m t d ∧ (∃ n' s' c', HeldN w1 (w.heap.size + 1 + 1) n' s' c') ∧ Below w.heap.size w w1 ∧ w.heap.size + 1 + 1 < g ∧ w1.heap[g]? = some (.cells (rowV P) 32 (0, 0)) ∧ P.length = 120
theorem td_lt {w w1 : World} {g : Nat} {n m : Bool} {s t : ByteArray} {c d : Int} {P : List Int} (h : TdIn w w1 g n s c m t d P) : g < w1.heap.size := (Array.getElem?_eq_some_iff.1 h.2.2.2.2.2.1).1
theorem td_row {w w1 : World} {g : Nat} {n m : Bool} {s t : ByteArray} {c d : Int} {P : List Int} (h : TdIn w w1 g n s c m t d P) : ∀ i, i < 120 → w1.cell? ⟨g, i, none⟩ = some (.int .u8 (P[i]?.getD 0)) :=
  fun i hi => by rw [cell_of_row _ _ i _ _ (0, 0) h.2.2.2.2.2.1, rowV_get P i (by rw [h.2.2.2.2.2.2]; exact hi)]
theorem td_go {w w1 w2 : World} {g : Nat} {n m : Bool} {s t : ByteArray} {c d : Int} {P : List Int} (h : TdIn w w1 g n s c m t d P) (k : Below w1.heap.size w1 w2) : TdIn w w2 g n s c m t d P := by
  have hl := td_lt h
  obtain ⟨h1, h2, ⟨n', s', c', h3⟩, h4, h5, h6, h7⟩ := h
  exact ⟨heldN_below h1 k, heldN_below h2 k, ⟨n', s', c', heldN_below h3 k⟩, below_go h4 k, h5, (k.block _ hl).trans h6, h7⟩
theorem td_drew {w w1 : World} {g : Nat} {n m : Bool} {s t : ByteArray} {c d : Int} {P : List Int} (h : TdIn w w1 g n s c m t d P) : TdIn w w1.drew g n s c m t d P := td_go h ⟨rfl, rfl, rfl, Nat.le_refl _, fun _ _ => rfl⟩
theorem td_set {w w1 : World} {g : Nat} {n m : Bool} {s t : ByteArray} {c d : Int} {P : List Int} (h : TdIn w w1 g n s c m t d P) (n9 : Bool) (s9 : ByteArray) (c9 : Int) : TdIn w (((w1.setCell ⟨w.heap.size + 1 + 1, 0, none⟩ (.bool n9)).setCell ⟨w.heap.size + 1 + 1, 1, none⟩ (.string s9)).setCell ⟨w.heap.size + 1 + 1, 2, none⟩ (.int .i64 c9)) g n s c m t d P := by
  obtain ⟨⟨T1, h1⟩, ⟨T2, h2⟩, ⟨n', s', c', h3⟩, h4, h5, h6, h7⟩ := h
  exact ⟨⟨T1, (heap_set3 _ _ _ _ _ _ (by omega)).trans h1⟩, ⟨T2, (heap_set3 _ _ _ _ _ _ (by omega)).trans h2⟩, ⟨n9, s9, c9, heldN_set3 h3 n9 s9 c9⟩, below_set3 h4 (by omega) _ _ _, h5, (heap_set3 _ _ _ _ _ _ (by omega)).trans h6, h7⟩
theorem td_new {w w1 : World} {n m : Bool} {s t : ByteArray} {c d : Int} {P : List Int} {R : Array Value} (h0 : w.heap.size + 1 + 1 < w1.heap.size) (h : AddIn w (w1.alloc (.cells R 32)) n s c m t d) (hR : rowV P = R) (hP : P.length = 120) : TdIn w (w1.alloc (.cells R 32)) w1.heap.size n s c m t d P :=
  ⟨h.1, h.2.1, ⟨_, _, _, h.2.2.1⟩, h.2.2.2, h0, by rw [hR]; exact heap_alloc_new w1 _, hP⟩
theorem td_all {w w1 : World} {g : Nat} {n m : Bool} {s t : ByteArray} {c d : Int} {P : List Int} (h : TdIn w w1 g n s c m t d P) :
    TdIn w w1 g n s c m t d P ∧ w1.cell? ⟨w.heap.size, 0, none⟩ = some (.bool n) ∧ w1.cell? ⟨w.heap.size, 2, none⟩ = some (.int .i64 c) ∧ w1.cell? ⟨w.heap.size + 1, 0, none⟩ = some (.bool m) ∧ w1.cell? ⟨w.heap.size + 1, 2, none⟩ = some (.int .i64 d) := by
  obtain ⟨⟨a1, a2, a3⟩, _⟩ := heldN_cells h.1
  obtain ⟨⟨b1, b2, b3⟩, _⟩ := heldN_cells h.2.1
  exact ⟨h, a1, a3, b1, b3⟩
set_option maxRecDepth 100000 in
set_option maxHeartbeats 4000000 in
theorem i_times (n m : Bool) (s t : ByteArray) (c d : Int) (w : World) (hs : s.size ≤ maxLen) (ht : t.size ≤ maxLen) :
    Calls Tryd.prog 6 #[.agg #[.bool n, .string s, .int .i64 c], .agg #[.bool m, .string t, .int .i64 d]] w fun e w' =>
      e = .returned (resV (timesB n s c m t d)) ∧ Below w.heap.size w w' := by
  cases h1 : decB n s c
  · have HV := hide (timesB_no1 m t d h1)
    go_enter Tryd.func6, Tryd.ntmps6
    go_wp2_with fail
    refine (i_decok n s c _ hs).mono ?_
    rintro e w1 ⟨rfl, hb1⟩
    have HI := hide (addin_go (addin_new w n s c m t d _) hb1)
    clear hb1
    obtain ⟨⟨a1, a2, a3⟩, _, _, _⟩ := heldN_cells HI.out.1
    obtain ⟨⟨b1, b2, b3⟩, _, _, _⟩ := heldN_cells HI.out.2.1
    obtain ⟨⟨r1, r2, r3⟩, g1, g2, g3⟩ := heldN_cells HI.out.2.2.1
    have HZ := hide (heldN_three HI.out.2.2.1 (.bool false) (.string ⟨#[]⟩) (.int .i64 0))
    go_wp2
    obtain ⟨z0, z1, z2⟩ := HZ.out
    exact bodyPost_ret (v := .tuple #[.agg #[.bool false, .string ⟨#[]⟩, .int .i64 0], .bool false]) (by simp [results, Tryd.results6, go_sem, z0, z1, z2]) rfl ⟨by rw [HV.out]; rfl, below_set3 HI.out.2.2.2 (by omega) _ _ _⟩
  · cases h2 : decB m t d
    · have HV := hide (timesB_no2 n s c h2)
      go_enter Tryd.func6, Tryd.ntmps6
      go_wp2_with fail
      refine (i_decok n s c _ hs).mono ?_
      rintro e w1 ⟨rfl, hb1⟩
      have HI := hide (addin_go (addin_new w n s c m t d _) hb1)
      clear hb1
      obtain ⟨⟨a1, a2, a3⟩, _, _, _⟩ := heldN_cells HI.out.1
      obtain ⟨⟨b1, b2, b3⟩, _, _, _⟩ := heldN_cells HI.out.2.1
      obtain ⟨⟨r1, r2, r3⟩, g1, g2, g3⟩ := heldN_cells HI.out.2.2.1
      go_wp2_with fail
      refine (i_decok m t d _ ht).mono ?_
      rintro e w2 ⟨rfl, hb2⟩
      replace HI := hide (addin_go HI.out hb2)
      clear hb2 a1 a2 a3 b1 b2 b3 r1 r2 r3 g1 g2 g3
      obtain ⟨⟨a1, a2, a3⟩, _, _, _⟩ := heldN_cells HI.out.1
      obtain ⟨⟨b1, b2, b3⟩, _, _, _⟩ := heldN_cells HI.out.2.1
      obtain ⟨⟨r1, r2, r3⟩, g1, g2, g3⟩ := heldN_cells HI.out.2.2.1
      have HZ := hide (heldN_three HI.out.2.2.1 (.bool false) (.string ⟨#[]⟩) (.int .i64 0))
      go_wp2
      obtain ⟨z0, z1, z2⟩ := HZ.out
      exact bodyPost_ret (v := .tuple #[.agg #[.bool false, .string ⟨#[]⟩, .int .i64 0], .bool false]) (by simp [results, Tryd.results6, go_sem, z0, z1, z2]) rfl ⟨by rw [HV.out]; rfl, below_set3 HI.out.2.2.2 (by omega) _ _ _⟩
    · have HV := hide (timesB_yes h1 h2)
      obtain ⟨hs6, hc0, hc1⟩ := decB_bounds h1
      obtain ⟨ht6, hd0, hd1⟩ := decB_bounds h2
      have H1 := hide h1
      have H2 := hide h2
      go_enter Tryd.func6, Tryd.ntmps6
      go_wp2_with fail
      refine (i_decok n s c _ hs).mono ?_
      rintro e w1 ⟨rfl, hb1⟩
      have HI := hide (addin_go (addin_new w n s c m t d _) hb1)
      clear hb1
      obtain ⟨⟨a1, a2, a3⟩, _, _, _⟩ := heldN_cells HI.out.1
      obtain ⟨⟨b1, b2, b3⟩, _, _, _⟩ := heldN_cells HI.out.2.1
      obtain ⟨⟨r1, r2, r3⟩, g1, g2, g3⟩ := heldN_cells HI.out.2.2.1
      go_wp2_with fail
      refine (i_decok m t d _ ht).mono ?_
      rintro e w2 ⟨rfl, hb2⟩
      replace HI := hide (addin_go HI.out hb2)
      clear hb2 a1 a2 a3 b1 b2 b3 r1 r2 r3 g1 g2 g3
      obtain ⟨⟨a1, a2, a3⟩, _, _, _⟩ := heldN_cells HI.out.1
      obtain ⟨⟨b1, b2, b3⟩, _, _, _⟩ := heldN_cells HI.out.2.1
      obtain ⟨⟨r1, r2, r3⟩, g1, g2, g3⟩ := heldN_cells HI.out.2.2.1
      go_wp2_with fail
      refine (i_timesD n m s t c d _ H1.out H2.out).mono ?_
      rintro e w3 ⟨P, hpl, hpo, hpv, rfl, hb3⟩
      replace HI := hide (addin_go HI.out hb3)
      have HPL := hide hpl
      have HPO := hide hpo
      have HPV := hide hpv
      clear hb3 h1 h2 hpl hpo hpv a1 a2 a3 b1 b2 b3 r1 r2 r3 g1 g2 g3
      obtain ⟨R, hR⟩ : ∃ R, rowV P = R := ⟨_, rfl⟩
      rw [hR]
      have hz := z_zero120
      have hsz : (Tryd.prog.info? 32).map (·.size) = some R.size := by rw [← hR, rowV_size, HPL.out]; exact (zero_of_info z_info120).2
      have hzz : Zt.size = R.size := by rw [← hR, rowV_size, HPL.out]; simp [Zt, rowV_size]
      have hall : R.all (·.oneCell') = true := by rw [← hR]; simp [rowV, Value.oneCell']
      have HR := hide hR
      clear hR
      have hlt9 : w.heap.size + 1 + 1 < w3.heap.size := heldN_lt HI.out.2.2.1
      replace HI := hide (addin_go HI.out ((Below.refl w3.heap.size w3).alloc (Nat.le_refl _) (.cells R 32)))
      have HT := hide (td_new hlt9 HI.out HR.out HPL.out)
      obtain ⟨hv0, hdg0⟩ := txt_val P HPO.out
      have hu9 : (strOfNums (P.reverse.map fun x => 48 + x)).size = 120 := by rw [strOfNums_size]; simp [HPL.out]
      obtain ⟨U, hU⟩ : ∃ U, strOfNums (P.reverse.map fun x => 48 + x) = U := ⟨_, rfl⟩
      rw [hU] at hv0 hdg0 hu9
      have hvv : valL U.data.toList = valL s.data.toList * valL t.data.toList := by
        have := hv0.trans HPV.out
        exact_mod_cast this
      have EU := hide hU
      have HVV := hide hvv
      have HDG := hide hdg0
      obtain ⟨RR, hRR⟩ : ∃ X, decRes (n != m) (valL s.data.toList * valL t.data.toList) (c + d).toNat = X := ⟨_, rfl⟩
      have ERR := hide hRR
      obtain ⟨n9, s9, c9, o9⟩ := RR
      have hres : Hid (resV (n9, s9, c9, o9) = .tuple #[.agg #[.bool n9, .string s9, .int .i64 c9], .bool o9]) := hide rfl
      have hcd0 : 0 ≤ c + d := by omega
      have hcd1 : c + d ≤ 200 := by omega
      have hcdw : IntKind.i64.wrap (c + d) = c + d := by rw [IntKind.wrap_i64]; omega
      have hS0 := td_all (td_drew HT.out)
      clear hU hv0 hdg0 hvv hRR
      go_wp2_with (refine wpList_store_row rfl 32 _ _ rfl w3.heap.size _ rfl rfl 32 _ (heap_alloc_last w3 _) hsz hzz hall ?_; rw [World.setRow_alloc_new])
      go_wp2
      go_region_held3 (fun w' => TdIn w w' w3.heap.size n s c m t d P ∧ w'.cell? ⟨w.heap.size, 0, none⟩ = some (.bool n) ∧ w'.cell? ⟨w.heap.size, 2, none⟩ = some (.int .i64 c) ∧ w'.cell? ⟨w.heap.size + 1, 0, none⟩ = some (.bool m) ∧ w'.cell? ⟨w.heap.size + 1, 2, none⟩ = some (.int .i64 d)) (first | assumption | exact td_all (td_set HTB.out n9 s9 c9) | exact td_all (td_go (And.left (by assumption)) hbb) | exact td_all (td_go (And.left (by assumption)) hba)) (first | (go_at_call 14; refine (i_digText w3.heap.size 120 _ P _ HPL.out (by omega) (by omega) (td_lt (And.left (by assumption : TdIn _ _ _ _ _ _ _ _ _ _ ∧ _))) HPO.out (td_row (And.left (by assumption : TdIn _ _ _ _ _ _ _ _ _ _ ∧ _)))).mono ?_; rintro e wa ⟨rfl, hba⟩; rw [EU.out]) | (go_at_call 13; refine (i_decOf (n != m) U (c + d) _ (by omega) HDG.out hcd0 hcd1).mono ?_; rintro e wb ⟨rfl, hbb⟩; rw [HVV.out, ERR.out, hres.out]; have HTB := hide (td_go (td_go (td_drew HT.out) hba) hbb); obtain ⟨n7, s7, c7, hq7⟩ := HTB.out.2.2.1; obtain ⟨⟨r1, r2, r3⟩, g1, g2, g3⟩ := heldN_cells hq7))
      obtain ⟨z0, z1, z2⟩ := heldN_three hq7 (.bool n9) (.string s9) (.int .i64 c9)
      go_wp2
      exact bodyPost_ret (v := .tuple #[.agg #[.bool n9, .string s9, .int .i64 c9], .bool o9]) (by simp [results, Tryd.results6, go_sem, z0, z1, z2]) rfl ⟨by rw [HV.out, ERR.out]; rfl, below_set3 HTB.out.2.2.2.1 (by omega) _ _ _⟩
end Go.Proofs.YtdglamiifcagoacDoor
