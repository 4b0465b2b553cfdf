/-
  Texts put together: FdI, PlI.
-/
import Derived.Test.YtfbahffljhnjbaaGreatDoorD4
import Derived.Test.YtfbahffljhnjbaaGreatDoorD8
import Derived.Test.YtfbahffljhnjbaaGreatDoorD5
/-
  Contract: what a field tells, by the program.
-/
namespace Go.Proofs.YtfbahffljhnjbaaGreatDoor
open Go.RowKit
set_option linter.unusedVariables false
set_option linter.unusedSimpArgs false
theorem ct_len (s : ByteArray) : s.data.toList.length = s.size := by simp
theorem dot_cmpI (s : ByteArray) : (s.toList == [46]) = decide (s.data.toList = [46]) := by
  rw [ByteArray.toList_eq]
  cases h : s.data.toList == [46]
  · rw [eq_comm, decide_eq_false_iff_not]; intro e; rw [e] at h; simp at h
  · rw [eq_comm, decide_eq_true_iff]; simpa using h
theorem c_cut (t H A : ByteArray) (fo : Bool) (w : World) (ht : t.size ≤ 1048576) (hM : MaxL w) (hx : ct1 64 t.data.toList = (H.data.toList, A.data.toList, fo)) :
    Calls Tryz.prog 66 #[.string t, .string ⟨#[64]⟩] w fun e w' => e = .returned (.tuple #[.string H, .string A, .bool fo]) ∧ Below w.heap.size w w' := by
  obtain ⟨m, hm⟩ := hM
  have h := Any.strings_Cut { Tryz.laysM145 with } t ⟨#[64]⟩ m w (by omega) hm
  have e : Lib.cut t.data.toList (⟨#[64]⟩ : ByteArray).data.toList = (H.data.toList, A.data.toList, fo) := (ct1_eq 64 t.data.toList).trans hx
  rw [e] at h
  refine h.mono ?_
  rintro e w' ⟨h1, n, rfl⟩
  exact ⟨h1, ⟨rfl, rfl, rfl, Nat.le_refl _, fun _ _ => rfl⟩⟩
/-- What a field down a path is told as. -/
def DownAns (s a : ByteArray) (w : World) (e : Ending) (w' : World) : Prop := Below w.heap.size w w' ∧
  ((pathF s.data.toList = true ∧ ∃ ad c, e = .returned (.tuple #[.agg #[.bool false, .slice ad (sg [] s.data.toList).length c, .string a], .bool true]) ∧ w'.ownsRow w.heap.size 9 1 (.slice ad (sg [] s.data.toList).length c) (sg [] s.data.toList).length (strV (sg [] s.data.toList))) ∨
   (pathF s.data.toList = false ∧ e = .returned (.tuple #[.agg #[.bool false, .slice none 0 0, .string ⟨#[]⟩], .bool false])))
set_option maxRecDepth 100000 in
set_option maxHeartbeats 4000000 in
theorem i_fieldDown (s a : ByteArray) (w : World) (hs : s.size ≤ 1048576) (hM : MaxL w) : Calls Tryz.prog 67 #[.string s, .string a] w (DownAns s a w) := by
  have hM1 : MaxL (w.alloc (.cells #[.bool false, .slice none 0 0, .string ⟨#[]⟩] 71)) := maxL_go hM ((Below.refl _ _).alloc (Nat.le_refl _) _) (Nat.le_refl _)
  have C := hide (i_route s _ hs hM1)
  have HPR := hide (pathF_route s)
  clear hM hM1
  go_enter Tryz.func67, Tryz.ntmps67
  go_wp2_with fail
  refine C.out.mono ?_
  rintro e w2 ⟨hb, h⟩
  have hK := cellsAt_go (cellsAt_new w #[.bool false, .slice none 0 0, .string ⟨#[]⟩] 71) hb (by simp)
  have HB := hide (gBox_below hb)
  have hsz2 : w.heap.size < w2.heap.size := cellsAt_lt hK
  have p0 : w2.cell? ⟨w.heap.size, 0, none⟩ = some (.bool false) := cellsAt_cell hK 0
  have p1 : w2.cell? ⟨w.heap.size, 1, none⟩ = some (.slice none 0 0) := cellsAt_cell hK 1
  have p2 : w2.cell? ⟨w.heap.size, 2, none⟩ = some (.string ⟨#[]⟩) := cellsAt_cell hK 2
  have g0 : ∀ i, w2.frozen? ⟨w.heap.size, i, none⟩ = false := fun i => cellsAt_frozen hK i
  have HF := hide hK
  clear hb hK
  rcases h with ⟨hr, ad, c, rfl, ho⟩ | ⟨hr, rfl⟩
  · rw [hr] at HPR
    obtain ⟨d, hd⟩ : ∃ d, deepL s.data.toList = d := ⟨_, rfl⟩
    rw [hd] at HPR ⊢
    have HDD := hide hd
    have HO := hide ho
    clear ho hd hr
    obtain ⟨m, hm⟩ : ∃ m, cntN (restL s.data.toList) = m := ⟨_, rfl⟩
    have HMM := hide hm
    rw [hm]
    clear hm
    cases d
    · go_wp2
      have hk := fun o : Obj => cellsAt_go (cellsAt_set (i := 2) (cellsAt_set (i := 1) (cellsAt_set (i := 0) HF.out (.bool false)) (.slice ad m c)) (.string a)) ((Below.refl _ _).alloc (Nat.le_refl _) o) (by simp; exact hsz2)
      have r0 := fun o : Obj => cellsAt_cell (hk o) 0
      have r1 := fun o : Obj => cellsAt_cell (hk o) 1
      have r2 := fun o : Obj => cellsAt_cell (hk o) 2
      have hp : pathF s.data.toList = true := HPR.out.symm
      obtain ⟨h1, h2⟩ := pathF_shallow hp
      have hl : (sg [] s.data.toList).length = m := by rw [← HMM.out, h2]; rfl
      refine bodyPost_ret (v := .tuple #[.agg #[.bool false, .slice ad m c, .string a], .bool true]) (by simp [results, Tryz.results67, go_sem, r0, r1, r2]) rfl ⟨((((HB.out.setCell (Nat.le_refl _) _).setCell (Nat.le_refl _) _).setCell (Nat.le_refl _) _).alloc (by simp; omega) _), .inl ⟨hp, ad, c, by rw [hl], ?_⟩⟩
      have ho := HO.out
      rw [HMM.out, h2] at ho
      rw [hl]
      have ho2 := gOwn_lower ho (B' := w.heap.size) (by simp)
      have hne : ∀ i, (Value.slice ad m c).ownBlock ≠ some (⟨w.heap.size, i, none⟩ : Addr).block := by
        intro i
        cases ad with
        | none => simp [Value.ownBlock]
        | some p =>
          rcases ho.2 with ⟨e, -⟩ | ⟨g, cap, cur, e, hg, -⟩
          · cases e
          · simp only [Value.slice.injEq, Option.some.injEq] at e
            obtain ⟨rfl, -⟩ := e
            simp at hg
            simp [Value.ownBlock]
            omega
      exact (gOwn_set (gOwn_set (gOwn_set ho2 _ _ (hne _)) _ _ (hne _)) _ _ (hne _)).alloc _
    · go_wp2
      have hk := fun o : Obj => cellsAt_go (cellsAt_set (i := 2) (cellsAt_set (i := 1) (cellsAt_set (i := 0) HF.out (.bool false)) (.slice none 0 0)) (.string ⟨#[]⟩)) ((Below.refl _ _).alloc (Nat.le_refl _) o) (by simp; exact hsz2)
      have r0 := fun o : Obj => cellsAt_cell (hk o) 0
      have r1 := fun o : Obj => cellsAt_cell (hk o) 1
      have r2 := fun o : Obj => cellsAt_cell (hk o) 2
      refine bodyPost_ret (v := .tuple #[.agg #[.bool false, .slice none 0 0, .string ⟨#[]⟩], .bool false]) (by simp [results, Tryz.results67, go_sem, r0, r1, r2]) rfl ⟨((((HB.out.setCell (Nat.le_refl _) _).setCell (Nat.le_refl _) _).setCell (Nat.le_refl _) _).alloc (by simp; omega) _), .inr ⟨HPR.out.symm, rfl⟩⟩
  · rw [hr] at HPR
    go_wp2
    have hk := fun o : Obj => cellsAt_go (cellsAt_set (i := 2) (cellsAt_set (i := 1) (cellsAt_set (i := 0) HF.out (.bool false)) (.slice none 0 0)) (.string ⟨#[]⟩)) ((Below.refl _ _).alloc (Nat.le_refl _) o) (by simp; exact hsz2)
    have r0 := fun o : Obj => cellsAt_cell (hk o) 0
    have r1 := fun o : Obj => cellsAt_cell (hk o) 1
    have r2 := fun o : Obj => cellsAt_cell (hk o) 2
    refine bodyPost_ret (v := .tuple #[.agg #[.bool false, .slice none 0 0, .string ⟨#[]⟩], .bool false]) (by simp [results, Tryz.results67, go_sem, r0, r1, r2]) rfl ⟨((((HB.out.setCell (Nat.le_refl _) _).setCell (Nat.le_refl _) _).setCell (Nat.le_refl _) _).alloc (by simp; omega) _), .inr ⟨HPR.out.symm, rfl⟩⟩
/-- What a field is told as by the program. -/
def FdAns (s : ByteArray) (w : World) (e : Ending) (w' : World) : Prop := Below w.heap.size w w' ∧
  ((∃ x ad c, fld s.data.toList = some x ∧ e = .returned (.tuple #[.agg #[.bool false, .slice ad x.1.length c, .string ⟨x.2.toArray⟩], .bool true]) ∧ w'.ownsRow w.heap.size 9 1 (.slice ad x.1.length c) x.1.length (strV x.1)) ∨
   (fld s.data.toList = none ∧ e = .returned (.tuple #[.agg #[.bool false, .slice none 0 0, .string ⟨#[]⟩], .bool false])))
theorem fd_own0 (w : World) (B : Nat) : w.ownsRow B 9 1 (.slice none ([] : List (List UInt8)).length 0) ([] : List (List UInt8)).length (strV []) := ⟨rfl, .inl ⟨rfl, rfl⟩⟩
set_option maxRecDepth 100000 in
set_option maxHeartbeats 4000000 in
theorem i_field (s : ByteArray) (w : World) (hs : s.size ≤ 1048576) (hM : MaxL w) : Calls Tryz.prog 36 #[.string s] w (FdAns s w) := by
  have hM1 : MaxL (w.alloc (.cells #[.bool false, .slice none 0 0, .string ⟨#[]⟩] 71)) := maxL_go hM ((Below.refl _ _).alloc (Nat.le_refl _) _) (Nat.le_refl _)
  have hdc := dot_cmpI s
  by_cases hd : s.data.toList = [46]
  · rw [decide_eq_true hd] at hdc
    have HD := hide hd
    clear hd hM hM1
    go_enter Tryz.func36, Tryz.ntmps36
    go_wp2
    refine bodyPost_ret (v := .tuple #[.agg #[.bool false, .slice none 0 0, .string ⟨#[]⟩], .bool true]) (by simp [results, Tryz.results36, go_sem]) rfl ⟨(Below.refl _ _).alloc (Nat.le_refl _) _, .inl ⟨([], []), none, 0, ?_, rfl, fd_own0 _ _⟩⟩
    rw [HD.out]; exact fld_dot
  · rw [decide_eq_false hd] at hdc
    have HD := hide hd
    clear hd
    obtain ⟨hh, at2, fo, hx⟩ : ∃ (hh at2 : ByteArray) (fo : Bool), ct1 64 s.data.toList = (hh.data.toList, at2.data.toList, fo) := ⟨⟨(ct1 64 s.data.toList).1.toArray⟩, ⟨(ct1 64 s.data.toList).2.1.toArray⟩, (ct1 64 s.data.toList).2.2, rfl⟩
    have HX := hide hx
    have hz := ct1_sz 64 s.data.toList
    rw [hx] at hz
    obtain ⟨hz1, hz2⟩ := hz
    simp only at hz1 hz2
    simp only [ct_len] at hz1 hz2
    have C1 := hide (c_cut s hh at2 fo _ hs hM1 hx)
    have HM1 := hide hM1
    clear hM hM1 hx
    go_enter Tryz.func36, Tryz.ntmps36
    go_wp2_with fail
    refine C1.out.mono ?_
    rintro e w2 ⟨rfl, hb2⟩
    have HM2 := hide (maxL_go HM1.out hb2 (Nat.le_refl _))
    have hK := cellsAt_go (cellsAt_new w #[.bool false, .slice none 0 0, .string ⟨#[]⟩] 71) hb2 (by simp)
    have HB2 := hide (gBox_below hb2)
    have hsz2 : w.heap.size < w2.heap.size := cellsAt_lt hK
    have p0 : w2.cell? ⟨w.heap.size, 0, none⟩ = some (.bool false) := cellsAt_cell hK 0
    have p1 : w2.cell? ⟨w.heap.size, 1, none⟩ = some (.slice none 0 0) := cellsAt_cell hK 1
    have p2 : w2.cell? ⟨w.heap.size, 2, none⟩ = some (.string ⟨#[]⟩) := cellsAt_cell hK 2
    have g0 : ∀ i, w2.frozen? ⟨w.heap.size, i, none⟩ = false := fun i => cellsAt_frozen hK i
    have HK := hide hK
    clear hb2 hK HM1
    have down : ∀ (p a : ByteArray) (e : Ending) (w3 : World) (hd : DownAns p a w2 e w3) (hf : fld s.data.toList = if pathF p.data.toList = true then some (sg [] p.data.toList, a.data.toList) else none),
        ∃ b0 ad m c st ok, e = .returned (.tuple #[.agg #[.bool b0, .slice ad m c, .string st], .bool ok]) ∧ CellsAt w3 w.heap.size #[.bool false, .slice none 0 0, .string ⟨#[]⟩] ∧
          FdAns s w (.returned (.tuple #[.agg #[.bool b0, .slice ad m c, .string st], .bool ok])) (((w3.setCell ⟨w.heap.size, 0, none⟩ (.bool b0)).setCell ⟨w.heap.size, 1, none⟩ (.slice ad m c)).setCell ⟨w.heap.size, 2, none⟩ (.string st)) := by
      intro p a e w3 hd hf
      have hb := hd.1
      have hk3 := cellsAt_go HK.out hb hsz2
      have hb3 : Below w.heap.size w w3 := HB2.out.trans (hb.mono HB2.out.size)
      have own : ∀ {ad : Option Addr} {c m : Nat} {xs : List Value} (x y z : Value), w3.ownsRow w2.heap.size 9 1 (.slice ad m c) m xs → (((w3.setCell ⟨w.heap.size, 0, none⟩ x).setCell ⟨w.heap.size, 1, none⟩ y).setCell ⟨w.heap.size, 2, none⟩ z).ownsRow w.heap.size 9 1 (.slice ad m c) m xs := by
        intro ad c m xs x y z ho
        have ho2 := gOwn_lower ho (B' := w.heap.size) (Nat.le_of_lt hsz2)
        have hne : ∀ i, (Value.slice ad m c).ownBlock ≠ some (⟨w.heap.size, i, none⟩ : Addr).block := by
          intro i
          cases ad with
          | none => simp [Value.ownBlock]
          | some p =>
            rcases ho.2 with ⟨e, -⟩ | ⟨g, cap, cur, e, hg, -⟩
            · cases e
            · simp only [Value.slice.injEq, Option.some.injEq] at e
              obtain ⟨rfl, -⟩ := e
              simp [Value.ownBlock]
              omega
        exact gOwn_set (gOwn_set (gOwn_set ho2 _ _ (hne _)) _ _ (hne _)) _ _ (hne _)
      have hb4 : ∀ x y z, Below w.heap.size w (((w3.setCell ⟨w.heap.size, 0, none⟩ x).setCell ⟨w.heap.size, 1, none⟩ y).setCell ⟨w.heap.size, 2, none⟩ z) := fun x y z => ((hb3.setCell (Nat.le_refl _) _).setCell (Nat.le_refl _) _).setCell (Nat.le_refl _) _
      rcases hd.2 with ⟨hp, ad, c, rfl, hown⟩ | ⟨hp, rfl⟩
      · rw [if_pos hp] at hf
        exact ⟨_, _, _, _, _, _, rfl, hk3, hb4 _ _ _, .inl ⟨_, ad, c, hf, rfl, own _ _ _ hown⟩⟩
      · rw [if_neg (by rw [hp]; decide)] at hf
        exact ⟨_, _, _, _, _, _, rfl, hk3, hb4 _ _ _, .inr ⟨hf, rfl⟩⟩
    have DN := hide down
    clear down
    cases fo
    · have HF := hide (fld_down HD.out (by rw [HX.out]))
      have C2 := hide (i_fieldDown s ⟨#[]⟩ w2 hs HM2.out)
      go_wp2_with fail
      refine C2.out.mono ?_
      rintro e w3 ha
      obtain ⟨b0, ad, m, c, st, ok, rfl, hk3, hfd⟩ := DN.out s ⟨#[]⟩ e w3 ha HF.out
      have HFD := hide hfd
      have s0 := cellsAt_cell hk3 0
      have s1 := cellsAt_cell hk3 1
      have s2 := cellsAt_cell hk3 2
      have sf := cellsAt_frozen hk3
      simp at s0 s1 s2
      have HK3 := hide hk3
      clear ha hfd hk3
      go_wp2
      have hk := cellsAt_set (i := 2) (cellsAt_set (i := 1) (cellsAt_set (i := 0) HK3.out (.bool b0)) (.slice ad m c)) (.string st)
      have r0 := cellsAt_cell hk 0
      have r1 := cellsAt_cell hk 1
      have r2 := cellsAt_cell hk 2
      exact bodyPost_ret (v := .tuple #[.agg #[.bool b0, .slice ad m c, .string st], .bool ok]) (by simp [results, Tryz.results36, go_sem, r0, r1, r2]) rfl HFD.out
    · have hat : at2.size ≤ maxLen := by unfold maxLen; omega
      have hfin : ∀ x y z, CellsAt (((w2.setCell ⟨w.heap.size, 0, none⟩ x).setCell ⟨w.heap.size, 1, none⟩ y).setCell ⟨w.heap.size, 2, none⟩ z) w.heap.size #[x, y, z] := fun x y z => cellsAt_set (i := 2) (cellsAt_set (i := 1) (cellsAt_set (i := 0) HK.out x) y) z
      have hbf : ∀ x y z, Below w.heap.size w (((w2.setCell ⟨w.heap.size, 0, none⟩ x).setCell ⟨w.heap.size, 1, none⟩ y).setCell ⟨w.heap.size, 2, none⟩ z) := fun x y z => ((HB2.out.setCell (Nat.le_refl _) _).setCell (Nat.le_refl _) _).setCell (Nat.le_refl _) _
      have HFIN := hide hfin
      have HBF := hide hbf
      have H3 : Hid ((ct1 64 s.data.toList).2.2 = true) := hide (by rw [HX.out])
      clear hfin hbf
      cases hn : nameB at2
      · have HN : Hid (fld s.data.toList = none) := hide (fld_name H3.out (by rw [HX.out]; exact hn))
        go_wp2_with (go_at_call 68; refine (i_name _ _ hat).mono ?_; rintro e w9 ⟨rfl, h9⟩; rw [h9, hn]; clear h9 w9)
        have r0 := cellsAt_cell (HFIN.out (.bool false) (.slice none 0 0) (.string ⟨#[]⟩)) 0
        have r1 := cellsAt_cell (HFIN.out (.bool false) (.slice none 0 0) (.string ⟨#[]⟩)) 1
        have r2 := cellsAt_cell (HFIN.out (.bool false) (.slice none 0 0) (.string ⟨#[]⟩)) 2
        exact bodyPost_ret (v := .tuple #[.agg #[.bool false, .slice none 0 0, .string ⟨#[]⟩], .bool false]) (by simp [results, Tryz.results36, go_sem, r0, r1, r2]) rfl ⟨HBF.out _ _ _, .inr ⟨HN.out, rfl⟩⟩
      · have HN2 : Hid (nameL (ct1 64 s.data.toList).2.1 = true) := hide (by rw [HX.out]; exact hn)
        by_cases h0 : hh.data.toList = []
        · have HN : Hid (fld s.data.toList = some ([], at2.data.toList)) := hide (by rw [fld_here H3.out HN2.out (by rw [HX.out]; exact h0), HX.out])
          have hem : hh.toList.isEmpty = true := by rw [ByteArray.toList_eq, h0]; rfl
          have hz9 : hh.toList = [] := by rw [ByteArray.toList_eq, h0]
          go_wp2_with (go_at_call 68; refine (i_name _ _ hat).mono ?_; rintro e w9 ⟨rfl, h9⟩; rw [h9, hn]; clear h9 w9)
          have t0 := cellsAt_cell (cellsAt_set (i := 0) HK.out (.bool false)) 0
          have t1 := cellsAt_cell (cellsAt_set (i := 1) (cellsAt_set (i := 0) HK.out (.bool false)) (.slice none 0 0)) 1
          have r0 := cellsAt_cell (HFIN.out (.bool false) (.slice none 0 0) (.string at2)) 0
          have r1 := cellsAt_cell (HFIN.out (.bool false) (.slice none 0 0) (.string at2)) 1
          have r2 := cellsAt_cell (HFIN.out (.bool false) (.slice none 0 0) (.string at2)) 2
          exact bodyPost_ret (v := .tuple #[.agg #[.bool false, .slice none 0 0, .string at2], .bool true]) (by simp [results, Tryz.results36, go_sem, r0, r1, r2, t0, t1]) rfl ⟨HBF.out _ _ _, .inl ⟨_, none, 0, HN.out, rfl, fd_own0 _ _⟩⟩
        · have HNE : Hid ((ct1 64 s.data.toList).1 ≠ []) := hide (by rw [HX.out]; exact h0)
          have hem : hh.toList.isEmpty = false := by
            rw [ByteArray.toList_eq]; simpa using h0
          have hz9 : hh.toList ≠ [] := by rw [ByteArray.toList_eq]; exact h0
          have hhz : hh.size ≤ 9223372036854775807 := by omega
          have C3 := hide (fun w => Tryz.strings_CutSuffix hh ⟨#[47]⟩ w hhz)
          cases hsf : Lib.hasSuffix hh.data.toList [47]
          · have HN : Hid (fld s.data.toList = none) := hide (fld_bare H3.out HN2.out HNE.out (by rw [HX.out]; exact hsf))
            clear h0
            go_wp2_with (first | (go_at_call 68; refine (i_name _ _ hat).mono ?_; rintro e w9 ⟨rfl, h9⟩; rw [h9, hn]; clear h9 w9) | (go_at_call 69; refine (C3.out _).mono ?_; rintro e w9 ⟨rfl, h9⟩; rw [h9, show Lib.hasSuffix hh.data.toList (⟨#[47]⟩ : ByteArray).data.toList = false from hsf]; clear h9 w9))
            have r0 := cellsAt_cell (HFIN.out (.bool false) (.slice none 0 0) (.string ⟨#[]⟩)) 0
            have r1 := cellsAt_cell (HFIN.out (.bool false) (.slice none 0 0) (.string ⟨#[]⟩)) 1
            have r2 := cellsAt_cell (HFIN.out (.bool false) (.slice none 0 0) (.string ⟨#[]⟩)) 2
            exact bodyPost_ret (v := .tuple #[.agg #[.bool false, .slice none 0 0, .string ⟨#[]⟩], .bool false]) (by simp [results, Tryz.results36, go_sem, r0, r1, r2]) rfl ⟨HBF.out _ _ _, .inr ⟨HN.out, rfl⟩⟩
          · obtain ⟨P, hP⟩ : ∃ P : ByteArray, (⟨(Lib.trimSuffix hh.data.toList [47]).toArray⟩ : ByteArray) = P := ⟨_, rfl⟩
            have hPd : P.data.toList = Lib.trimSuffix hh.data.toList [47] := by rw [← hP]
            have hPs : P.size ≤ 1048576 := by
              rw [← ct_len, hPd]
              unfold Lib.trimSuffix
              rw [if_pos hsf]
              simp
              omega
            have HF : Hid (fld s.data.toList = if pathF P.data.toList = true then some (sg [] P.data.toList, at2.data.toList) else none) := hide (by
              rw [fld_up H3.out HN2.out HNE.out (by rw [HX.out]; exact hsf), HX.out, hPd])
            have C2 := hide (i_fieldDown P at2 w2 hPs HM2.out)
            clear h0
            go_wp2_with (first | (go_at_call 68; refine (i_name _ _ hat).mono ?_; rintro e w9 ⟨rfl, h9⟩; rw [h9, hn]; clear h9 w9) | (go_at_call 69; refine (C3.out _).mono ?_; rintro e w9 ⟨rfl, h9⟩; rw [h9, show Lib.hasSuffix hh.data.toList (⟨#[47]⟩ : ByteArray).data.toList = true from hsf, show (⟨(Lib.trimSuffix hh.data.toList (⟨#[47]⟩ : ByteArray).data.toList).toArray⟩ : ByteArray) = P from hP]; clear h9 w9))
            refine C2.out.mono ?_
            rintro e w3 ha
            obtain ⟨b0, ad, m, c, st, ok, rfl, hk3, hfd⟩ := DN.out P at2 e w3 ha HF.out
            have HFD := hide hfd
            have s0 := cellsAt_cell hk3 0
            have s1 := cellsAt_cell hk3 1
            have s2 := cellsAt_cell hk3 2
            have sf := cellsAt_frozen hk3
            simp at s0 s1 s2
            have HK3 := hide hk3
            clear ha hfd hk3
            go_wp2
            have hk := cellsAt_set (i := 2) (cellsAt_set (i := 1) (cellsAt_set (i := 0) HK3.out (.bool b0)) (.slice ad m c)) (.string st)
            have r0 := cellsAt_cell hk 0
            have r1 := cellsAt_cell hk 1
            have r2 := cellsAt_cell hk 2
            exact bodyPost_ret (v := .tuple #[.agg #[.bool b0, .slice ad m c, .string st], .bool ok]) (by simp [results, Tryz.results36, go_sem, r0, r1, r2]) rfl HFD.out
end Go.Proofs.YtfbahffljhnjbaaGreatDoor

/-
  Plans: rows of them, and the place of the first one with a name.
-/
namespace Go.Proofs.YtfbahffljhnjbaaGreatDoor
open Go.RowKit Go.Joins
set_option linter.unusedVariables false
set_option linter.unusedSimpArgs false
/-- A plan: the key, and what was worked out of it. -/
structure Pl where
  k : Ky
  af : Option Addr
  cf : Nat
  d : Bool
  a1 : Option Addr
  n1 : Nat
  c1 : Nat
  fa : Option Addr
  fc : Nat
  r : Int
def plV (p : Pl) : List Value := [.string p.k.nm, .int .i64 p.k.kd, .string p.k.on, .string p.k.pa, .slice p.af p.k.fl.length p.cf, .string p.k.re, .bool p.d, .slice p.a1 p.n1 p.c1, .slice p.fa p.k.fl.length p.fc, .int .i64 p.r]
def pl0 : Pl := ⟨ky0, none, 0, false, none, 0, 0, none, 0, 0⟩
def plA (Ps : List Pl) (j : Nat) : Pl := Ps[j]?.getD pl0
theorem plV_len (p : Pl) : (plV p).length = 10 := rfl
theorem pl_flat : ∀ (Ps : List Pl) (j i : Nat), i < 10 → j < Ps.length → (Ps.flatMap plV)[j * 10 + i]? = (plV (plA Ps j))[i]?
  | [], j, i, _, h => by simp at h
  | p :: Ps, 0, i, hi, _ => by
    rw [List.flatMap_cons, Nat.zero_mul, Nat.zero_add, List.getElem?_append_left (by rw [plV_len]; exact hi)]
    rfl
  | p :: Ps, j + 1, i, hi, h => by
    rw [List.flatMap_cons, List.getElem?_append_right (by rw [plV_len]; omega), plV_len]
    rw [show (j + 1) * 10 + i - 10 = j * 10 + i by omega]
    rw [pl_flat Ps j i hi (by simp at h; omega)]
    rfl
/-- A row of plans of one's own. -/
def PlO (B : Nat) (w : World) (ad : Option Addr) (m c : Nat) (Ps : List Pl) : Prop := Ps.length = m ∧ w.ownsRow B 82 10 (.slice ad m c) m (Ps.flatMap plV)
theorem plO_cell {B : Nat} {w : World} {ad : Option Addr} {m c : Nat} {Ps : List Pl} (h : PlO B w ad m c Ps) (j : Nat) (hj : j < m) : ∃ g, ad = some ⟨g, 0, none⟩ ∧ B ≤ g ∧ g < w.heap.size ∧ ∀ i, i < 10 → w.cell? ⟨g, j * 10 + i, none⟩ = (plV (plA Ps j))[i]? := by
  obtain ⟨hl, h1, ⟨e, h0⟩ | ⟨g, cap, cur, e, hB, hg, hle, hm, hz, ht⟩⟩ := h
  · omega
  · cases e
    refine ⟨g, rfl, hB, (Array.getElem?_eq_some_iff.1 hg).1, fun i hi => ?_⟩
    rw [cell_of_row w g (j * 10 + i) cur _ (0, 0) hg, ← pl_flat Ps j i hi (by omega), ← ht, List.getElem?_take_of_lt (by omega)]
    simp
theorem plO_go {B : Nat} {w w' : World} {ad : Option Addr} {m c : Nat} {Ps : List Pl} (h : PlO B w ad m c Ps) (hb : Below w.heap.size w w') : PlO B w' ad m c Ps := ⟨h.1, gOwn_after h.2 hb⟩
/-- r is the first place of the name, or -1. -/
def FirstN (Ps : List Pl) (m : Nat) (t : ByteArray) (r : Int) : Prop := (r = -1 ∧ ∀ j, j < m → (plA Ps j).k.nm ≠ t) ∨ (∃ j : Nat, r = j ∧ j < m ∧ (plA Ps j).k.nm = t)
set_option maxHeartbeats 2000000 in
theorem i_keyAt1 (p : Pl) (Q : Nat) (t : ByteArray) (w : World) (hq : w.cell? ⟨Q, 0, none⟩ = some (.string t)) :
    Calls Tryz.prog 115 #[.agg (plV p).toArray, .pointer (some ⟨Q, 0, none⟩)] w fun e w' => e = .returned (.bool (p.k.nm.toList == t.toList)) ∧ Below w.heap.size w w' := by
  have hl : Q < w.heap.size := World.block_lt_of_cell? _ _ hq
  unfold plV
  obtain ⟨⟨nm, kd, on, pa, fl, re⟩, af, cf, d, a1, n1, c1, fa, fc, r⟩ := p
  simp only
  go_enter Tryz.func115, Tryz.ntmps115
  go_wp2
  go_ret
  exact ⟨rfl, (Below.refl _ _).alloc (Nat.le_refl _) _⟩
set_option maxRecDepth 100000 in
set_option maxHeartbeats 4000000 in
theorem i_indexF (B : Nat) (ad : Option Addr) (m c : Nat) (Ps : List Pl) (Q : Nat) (t : ByteArray) (w : World) (hP : PlO B w ad m c Ps) (hm : m ≤ 1048576) (hq : w.cell? ⟨Q, 0, none⟩ = some (.string t)) :
    Calls Tryz.prog 114 #[.slice ad m c, .func (.func 115) #[] #[.pointer (some ⟨Q, 0, none⟩)]] w fun e w' => (∃ r, e = .returned (.int .i64 r) ∧ FirstN Ps m t r) ∧ Below w.heap.size w w' := by
  have HP := hide hP
  have HQ := hide hq
  have hl : Q < w.heap.size := World.block_lt_of_cell? _ _ hq
  clear hP hq
  go_enter Tryz.func114, Tryz.ntmps114
  go_wp2
  go_loopw [8] (fun i wr => ∃ k : Nat, k ≤ m ∧ i = .int .i64 k ∧ Hid (Below w.heap.size w wr) ∧ Hid (∀ j, j < k → (plA Ps j).k.nm ≠ t)) (fun i _ => m - (intOf i).toNat)
  case atStart => exact ⟨0, Nat.zero_le _, rfl, Below.refl _ _, fun j h => by omega⟩
  case round =>
    obtain ⟨k, hk, rfl, HB, HA⟩ := hrel
    by_cases hlt : k < m
    · have hki : (k : Int) < m := by omega
      obtain ⟨g, rfl, hBg, hg, hc⟩ := plO_cell HP.out k hlt
      have hc2 : ∀ i, i < 10 → wr.cell? ⟨g, k * 10 + i, none⟩ = (plV (plA Ps k))[i]? := fun i hi => (HB.out.cell (p := ⟨g, k * 10 + i, none⟩) hg).trans (hc i hi)
      have CC := hide (i_keyAt1 (plA Ps k) Q t wr ((HB.out.cell (p := ⟨Q, 0, none⟩) hl).trans HQ.out))
      obtain ⟨p, hp⟩ : ∃ p, plA Ps k = p := ⟨_, rfl⟩
      have HPP := hide hp
      rw [hp] at hc2 CC
      obtain ⟨⟨nm, kd, on, pa, fl, re⟩, af, cf, d, a1, n1, c1, fa, fc, r⟩ := p
      obtain ⟨fm, hfm⟩ : ∃ fm, fl.length = fm := ⟨_, rfl⟩
      have q0 : wr.cell? ⟨g, k * 10, none⟩ = some (.string nm) := hc2 0 (by decide)
      have q1 : wr.cell? ⟨g, k * 10 + 1, none⟩ = some (.int .i64 kd) := hc2 1 (by decide)
      have q2 : wr.cell? ⟨g, k * 10 + 2, none⟩ = some (.string on) := hc2 2 (by decide)
      have q3 : wr.cell? ⟨g, k * 10 + 3, none⟩ = some (.string pa) := hc2 3 (by decide)
      have q4 : wr.cell? ⟨g, k * 10 + 4, none⟩ = some (.slice af fl.length cf) := hc2 4 (by decide)
      have q5 : wr.cell? ⟨g, k * 10 + 5, none⟩ = some (.string re) := hc2 5 (by decide)
      have q6 : wr.cell? ⟨g, k * 10 + 6, none⟩ = some (.bool d) := hc2 6 (by decide)
      have q7 : wr.cell? ⟨g, k * 10 + 7, none⟩ = some (.slice a1 n1 c1) := hc2 7 (by decide)
      have q8 : wr.cell? ⟨g, k * 10 + 8, none⟩ = some (.slice fa fl.length fc) := hc2 8 (by decide)
      have q9 : wr.cell? ⟨g, k * 10 + 9, none⟩ = some (.int .i64 r) := hc2 9 (by decide)
      unfold plV at CC
      simp only at CC
      rw [hfm] at q4 q8 CC
      clear hc2 hc hfm hp
      cases he : (nm.toList == t.toList)
      · have HA2 : Hid (∀ j, j < k + 1 → (plA Ps j).k.nm ≠ t) := hide (fun j hj => by
          by_cases e : j = k
          · subst e; rw [HPP.out]; exact ba_ne he
          · exact HA.out j (by omega))
        rw [he] at CC
        go_wp2_with (go_at_call 115; refine CC.out.mono ?_; rintro e w2 ⟨rfl, hb2⟩; have HB2 := hide (HB.out.trans (hb2.mono HB.out.size)); clear hb2)
        go_roundw
        case rel => exact ⟨k + 1, by omega, by go_num, HB2, HA2⟩
        case measure => simp [intOf]; omega
      · have HE := hide ((ba_eq _ _).1 he)
        rw [he] at CC
        go_wp2_with (go_at_call 115; refine CC.out.mono ?_; rintro e w2 ⟨rfl, hb2⟩; have HB2 := hide (HB.out.trans (hb2.mono HB.out.size)); clear hb2)
        go_ret
        exact ⟨⟨_, rfl, .inr ⟨k, rfl, hlt, by rw [HPP.out]; exact HE.out⟩⟩, HB2.out⟩
    · have hkm : k = m := by omega
      subst hkm
      go_wp2
      go_ret
      exact ⟨⟨_, rfl, .inl ⟨rfl, HA.out⟩⟩, HB.out⟩
set_option maxHeartbeats 2000000 in
theorem i_keyAt (B : Nat) (ad : Option Addr) (m c : Nat) (Ps : List Pl) (t : ByteArray) (w : World) (hP : PlO B w ad m c Ps) (hm : m ≤ 1048576) :
    Calls Tryz.prog 80 #[.slice ad m c, .string t] w fun e w' => (∃ r, e = .returned (.int .i64 r) ∧ FirstN Ps m t r) ∧ Below w.heap.size w w' := by
  have C := hide (i_indexF B ad m c Ps w.heap.size t (w.alloc (.cells #[.string t] 9)) (plO_go hP ((Below.refl _ _).alloc (Nat.le_refl _) _)) hm (by rw [cell_of_row _ w.heap.size 0 #[.string t] 9 (0, 0) (heap_alloc_new w _)]; rfl))
  clear hP
  go_enter Tryz.func80, Tryz.ntmps80
  go_wp2_with fail
  refine C.out.mono ?_
  rintro e w2 ⟨⟨r, rfl, hr⟩, hb⟩
  have HR := hide hr
  have HB := hide (gBox_below hb)
  clear hr hb
  go_wp2
  go_ret
  exact ⟨⟨r, rfl, HR.out⟩, HB.out⟩
end Go.Proofs.YtfbahffljhnjbaaGreatDoor
