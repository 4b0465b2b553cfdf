/-
  Texts put together: FdI, KyM, KyEq.
-/
import Derived.Test.YtdepgkpfibmbgaaGreatDoorE6
import Derived.Test.YtdepgkpfibmbgaaGreatDoorE5
import Derived.Test.YtdepgkpfibmbgaaGreatDoorE3
/-
  Contract: what a field tells, by the program.
-/
namespace Go.Proofs.YtdepgkpfibmbgaaGreatDoor
open Go.RowKit
set_option linter.unusedVariables false
set_option linter.unusedSimpArgs false
theorem ct_len (s : ByteArray) : s.data.toList.length = s.size := by simp
theorem dot_cmpI (s : ByteArray) : (s.toList == [46]) = decide (s.data.toList = [46]) := by
  rw [ByteArray.toList_eq]
  cases h : s.data.toList == [46]
  · rw [eq_comm, decide_eq_false_iff_not]; intro e; rw [e] at h; simp at h
  · rw [eq_comm, decide_eq_true_iff]; simpa using h
theorem c_cut (t H A : ByteArray) (fo : Bool) (w : World) (ht : t.size ≤ 1048576) (hM : MaxL w) (hx : ct1 64 t.data.toList = (H.data.toList, A.data.toList, fo)) :
    Calls Tryz.prog 60 #[.string t, .string ⟨#[64]⟩] w fun e w' => e = .returned (.tuple #[.string H, .string A, .bool fo]) ∧ Below w.heap.size w w' := by
  obtain ⟨m, hm⟩ := hM
  have h := Any.strings_Cut { Tryz.laysM145 with } t ⟨#[64]⟩ m w (by omega) hm
  have e : Lib.cut t.data.toList (⟨#[64]⟩ : ByteArray).data.toList = (H.data.toList, A.data.toList, fo) := (ct1_eq 64 t.data.toList).trans hx
  rw [e] at h
  refine h.mono ?_
  rintro e w' ⟨h1, n, rfl⟩
  exact ⟨h1, ⟨rfl, rfl, rfl, Nat.le_refl _, fun _ _ => rfl⟩⟩
/-- What a field down a path is told as. -/
def DownAns (s a : ByteArray) (w : World) (e : Ending) (w' : World) : Prop := Below w.heap.size w w' ∧
  ((pathF s.data.toList = true ∧ ∃ ad c, e = .returned (.tuple #[.agg #[.bool false, .slice ad (sg [] s.data.toList).length c, .string a], .bool true]) ∧ w'.ownsRow w.heap.size 9 1 (.slice ad (sg [] s.data.toList).length c) (sg [] s.data.toList).length (strV (sg [] s.data.toList))) ∨
   (pathF s.data.toList = false ∧ e = .returned (.tuple #[.agg #[.bool false, .slice none 0 0, .string ⟨#[]⟩], .bool false])))
set_option maxRecDepth 100000 in
set_option maxHeartbeats 4000000 in
theorem i_fieldDown (s a : ByteArray) (w : World) (hs : s.size ≤ 1048576) (hM : MaxL w) : Calls Tryz.prog 61 #[.string s, .string a] w (DownAns s a w) := by
  have hM1 : MaxL (w.alloc (.cells #[.bool false, .slice none 0 0, .string ⟨#[]⟩] 69)) := maxL_go hM ((Below.refl _ _).alloc (Nat.le_refl _) _) (Nat.le_refl _)
  have C := hide (i_route s _ hs hM1)
  have HPR := hide (pathF_route s)
  clear hM hM1
  go_enter Tryz.func61, Tryz.ntmps61
  go_wp2_with fail
  refine C.out.mono ?_
  rintro e w2 ⟨hb, h⟩
  have hK := cellsAt_go (cellsAt_new w #[.bool false, .slice none 0 0, .string ⟨#[]⟩] 69) hb (by simp)
  have HB := hide (gBox_below hb)
  have hsz2 : w.heap.size < w2.heap.size := cellsAt_lt hK
  have p0 : w2.cell? ⟨w.heap.size, 0, none⟩ = some (.bool false) := cellsAt_cell hK 0
  have p1 : w2.cell? ⟨w.heap.size, 1, none⟩ = some (.slice none 0 0) := cellsAt_cell hK 1
  have p2 : w2.cell? ⟨w.heap.size, 2, none⟩ = some (.string ⟨#[]⟩) := cellsAt_cell hK 2
  have g0 : ∀ i, w2.frozen? ⟨w.heap.size, i, none⟩ = false := fun i => cellsAt_frozen hK i
  have HF := hide hK
  clear hb hK
  rcases h with ⟨hr, ad, c, rfl, ho⟩ | ⟨hr, rfl⟩
  · rw [hr] at HPR
    obtain ⟨d, hd⟩ : ∃ d, deepL s.data.toList = d := ⟨_, rfl⟩
    rw [hd] at HPR ⊢
    have HDD := hide hd
    have HO := hide ho
    clear ho hd hr
    obtain ⟨m, hm⟩ : ∃ m, cntN (restL s.data.toList) = m := ⟨_, rfl⟩
    have HMM := hide hm
    rw [hm]
    clear hm
    cases d
    · go_wp2
      have hk := fun o : Obj => cellsAt_go (cellsAt_set (i := 2) (cellsAt_set (i := 1) (cellsAt_set (i := 0) HF.out (.bool false)) (.slice ad m c)) (.string a)) ((Below.refl _ _).alloc (Nat.le_refl _) o) (by simp; exact hsz2)
      have r0 := fun o : Obj => cellsAt_cell (hk o) 0
      have r1 := fun o : Obj => cellsAt_cell (hk o) 1
      have r2 := fun o : Obj => cellsAt_cell (hk o) 2
      have hp : pathF s.data.toList = true := HPR.out.symm
      obtain ⟨h1, h2⟩ := pathF_shallow hp
      have hl : (sg [] s.data.toList).length = m := by rw [← HMM.out, h2]; rfl
      refine bodyPost_ret (v := .tuple #[.agg #[.bool false, .slice ad m c, .string a], .bool true]) (by simp [results, Tryz.results61, go_sem, r0, r1, r2]) rfl ⟨((((HB.out.setCell (Nat.le_refl _) _).setCell (Nat.le_refl _) _).setCell (Nat.le_refl _) _).alloc (by simp; omega) _), .inl ⟨hp, ad, c, by rw [hl], ?_⟩⟩
      have ho := HO.out
      rw [HMM.out, h2] at ho
      rw [hl]
      have ho2 := gOwn_lower ho (B' := w.heap.size) (by simp)
      have hne : ∀ i, (Value.slice ad m c).ownBlock ≠ some (⟨w.heap.size, i, none⟩ : Addr).block := by
        intro i
        cases ad with
        | none => simp [Value.ownBlock]
        | some p =>
          rcases ho.2 with ⟨e, -⟩ | ⟨g, cap, cur, e, hg, -⟩
          · cases e
          · simp only [Value.slice.injEq, Option.some.injEq] at e
            obtain ⟨rfl, -⟩ := e
            simp at hg
            simp [Value.ownBlock]
            omega
      exact (gOwn_set (gOwn_set (gOwn_set ho2 _ _ (hne _)) _ _ (hne _)) _ _ (hne _)).alloc _
    · go_wp2
      have hk := fun o : Obj => cellsAt_go (cellsAt_set (i := 2) (cellsAt_set (i := 1) (cellsAt_set (i := 0) HF.out (.bool false)) (.slice none 0 0)) (.string ⟨#[]⟩)) ((Below.refl _ _).alloc (Nat.le_refl _) o) (by simp; exact hsz2)
      have r0 := fun o : Obj => cellsAt_cell (hk o) 0
      have r1 := fun o : Obj => cellsAt_cell (hk o) 1
      have r2 := fun o : Obj => cellsAt_cell (hk o) 2
      refine bodyPost_ret (v := .tuple #[.agg #[.bool false, .slice none 0 0, .string ⟨#[]⟩], .bool false]) (by simp [results, Tryz.results61, go_sem, r0, r1, r2]) rfl ⟨((((HB.out.setCell (Nat.le_refl _) _).setCell (Nat.le_refl _) _).setCell (Nat.le_refl _) _).alloc (by simp; omega) _), .inr ⟨HPR.out.symm, rfl⟩⟩
  · rw [hr] at HPR
    go_wp2
    have hk := fun o : Obj => cellsAt_go (cellsAt_set (i := 2) (cellsAt_set (i := 1) (cellsAt_set (i := 0) HF.out (.bool false)) (.slice none 0 0)) (.string ⟨#[]⟩)) ((Below.refl _ _).alloc (Nat.le_refl _) o) (by simp; exact hsz2)
    have r0 := fun o : Obj => cellsAt_cell (hk o) 0
    have r1 := fun o : Obj => cellsAt_cell (hk o) 1
    have r2 := fun o : Obj => cellsAt_cell (hk o) 2
    refine bodyPost_ret (v := .tuple #[.agg #[.bool false, .slice none 0 0, .string ⟨#[]⟩], .bool false]) (by simp [results, Tryz.results61, go_sem, r0, r1, r2]) rfl ⟨((((HB.out.setCell (Nat.le_refl _) _).setCell (Nat.le_refl _) _).setCell (Nat.le_refl _) _).alloc (by simp; omega) _), .inr ⟨HPR.out.symm, rfl⟩⟩
/-- What a field is told as by the program. -/
def FdAns (s : ByteArray) (w : World) (e : Ending) (w' : World) : Prop := Below w.heap.size w w' ∧
  ((∃ x ad c, fld s.data.toList = some x ∧ e = .returned (.tuple #[.agg #[.bool false, .slice ad x.1.length c, .string ⟨x.2.toArray⟩], .bool true]) ∧ w'.ownsRow w.heap.size 9 1 (.slice ad x.1.length c) x.1.length (strV x.1)) ∨
   (fld s.data.toList = none ∧ e = .returned (.tuple #[.agg #[.bool false, .slice none 0 0, .string ⟨#[]⟩], .bool false])))
theorem fd_own0 (w : World) (B : Nat) : w.ownsRow B 9 1 (.slice none ([] : List (List UInt8)).length 0) ([] : List (List UInt8)).length (strV []) := ⟨rfl, .inl ⟨rfl, rfl⟩⟩
set_option maxRecDepth 100000 in
set_option maxHeartbeats 4000000 in
theorem i_field (s : ByteArray) (w : World) (hs : s.size ≤ 1048576) (hM : MaxL w) : Calls Tryz.prog 31 #[.string s] w (FdAns s w) := by
  have hM1 : MaxL (w.alloc (.cells #[.bool false, .slice none 0 0, .string ⟨#[]⟩] 69)) := maxL_go hM ((Below.refl _ _).alloc (Nat.le_refl _) _) (Nat.le_refl _)
  have hdc := dot_cmpI s
  by_cases hd : s.data.toList = [46]
  · rw [decide_eq_true hd] at hdc
    have HD := hide hd
    clear hd hM hM1
    go_enter Tryz.func31, Tryz.ntmps31
    go_wp2
    refine bodyPost_ret (v := .tuple #[.agg #[.bool false, .slice none 0 0, .string ⟨#[]⟩], .bool true]) (by simp [results, Tryz.results31, go_sem]) rfl ⟨(Below.refl _ _).alloc (Nat.le_refl _) _, .inl ⟨([], []), none, 0, ?_, rfl, fd_own0 _ _⟩⟩
    rw [HD.out]; exact fld_dot
  · rw [decide_eq_false hd] at hdc
    have HD := hide hd
    clear hd
    obtain ⟨hh, at2, fo, hx⟩ : ∃ (hh at2 : ByteArray) (fo : Bool), ct1 64 s.data.toList = (hh.data.toList, at2.data.toList, fo) := ⟨⟨(ct1 64 s.data.toList).1.toArray⟩, ⟨(ct1 64 s.data.toList).2.1.toArray⟩, (ct1 64 s.data.toList).2.2, rfl⟩
    have HX := hide hx
    have hz := ct1_sz 64 s.data.toList
    rw [hx] at hz
    obtain ⟨hz1, hz2⟩ := hz
    simp only at hz1 hz2
    simp only [ct_len] at hz1 hz2
    have C1 := hide (c_cut s hh at2 fo _ hs hM1 hx)
    have HM1 := hide hM1
    clear hM hM1 hx
    go_enter Tryz.func31, Tryz.ntmps31
    go_wp2_with fail
    refine C1.out.mono ?_
    rintro e w2 ⟨rfl, hb2⟩
    have HM2 := hide (maxL_go HM1.out hb2 (Nat.le_refl _))
    have hK := cellsAt_go (cellsAt_new w #[.bool false, .slice none 0 0, .string ⟨#[]⟩] 69) hb2 (by simp)
    have HB2 := hide (gBox_below hb2)
    have hsz2 : w.heap.size < w2.heap.size := cellsAt_lt hK
    have p0 : w2.cell? ⟨w.heap.size, 0, none⟩ = some (.bool false) := cellsAt_cell hK 0
    have p1 : w2.cell? ⟨w.heap.size, 1, none⟩ = some (.slice none 0 0) := cellsAt_cell hK 1
    have p2 : w2.cell? ⟨w.heap.size, 2, none⟩ = some (.string ⟨#[]⟩) := cellsAt_cell hK 2
    have g0 : ∀ i, w2.frozen? ⟨w.heap.size, i, none⟩ = false := fun i => cellsAt_frozen hK i
    have HK := hide hK
    clear hb2 hK HM1
    have down : ∀ (p a : ByteArray) (e : Ending) (w3 : World) (hd : DownAns p a w2 e w3) (hf : fld s.data.toList = if pathF p.data.toList = true then some (sg [] p.data.toList, a.data.toList) else none),
        ∃ b0 ad m c st ok, e = .returned (.tuple #[.agg #[.bool b0, .slice ad m c, .string st], .bool ok]) ∧ CellsAt w3 w.heap.size #[.bool false, .slice none 0 0, .string ⟨#[]⟩] ∧
          FdAns s w (.returned (.tuple #[.agg #[.bool b0, .slice ad m c, .string st], .bool ok])) (((w3.setCell ⟨w.heap.size, 0, none⟩ (.bool b0)).setCell ⟨w.heap.size, 1, none⟩ (.slice ad m c)).setCell ⟨w.heap.size, 2, none⟩ (.string st)) := by
      intro p a e w3 hd hf
      have hb := hd.1
      have hk3 := cellsAt_go HK.out hb hsz2
      have hb3 : Below w.heap.size w w3 := HB2.out.trans (hb.mono HB2.out.size)
      have own : ∀ {ad : Option Addr} {c m : Nat} {xs : List Value} (x y z : Value), w3.ownsRow w2.heap.size 9 1 (.slice ad m c) m xs → (((w3.setCell ⟨w.heap.size, 0, none⟩ x).setCell ⟨w.heap.size, 1, none⟩ y).setCell ⟨w.heap.size, 2, none⟩ z).ownsRow w.heap.size 9 1 (.slice ad m c) m xs := by
        intro ad c m xs x y z ho
        have ho2 := gOwn_lower ho (B' := w.heap.size) (Nat.le_of_lt hsz2)
        have hne : ∀ i, (Value.slice ad m c).ownBlock ≠ some (⟨w.heap.size, i, none⟩ : Addr).block := by
          intro i
          cases ad with
          | none => simp [Value.ownBlock]
          | some p =>
            rcases ho.2 with ⟨e, -⟩ | ⟨g, cap, cur, e, hg, -⟩
            · cases e
            · simp only [Value.slice.injEq, Option.some.injEq] at e
              obtain ⟨rfl, -⟩ := e
              simp [Value.ownBlock]
              omega
        exact gOwn_set (gOwn_set (gOwn_set ho2 _ _ (hne _)) _ _ (hne _)) _ _ (hne _)
      have hb4 : ∀ x y z, Below w.heap.size w (((w3.setCell ⟨w.heap.size, 0, none⟩ x).setCell ⟨w.heap.size, 1, none⟩ y).setCell ⟨w.heap.size, 2, none⟩ z) := fun x y z => ((hb3.setCell (Nat.le_refl _) _).setCell (Nat.le_refl _) _).setCell (Nat.le_refl _) _
      rcases hd.2 with ⟨hp, ad, c, rfl, hown⟩ | ⟨hp, rfl⟩
      · rw [if_pos hp] at hf
        exact ⟨_, _, _, _, _, _, rfl, hk3, hb4 _ _ _, .inl ⟨_, ad, c, hf, rfl, own _ _ _ hown⟩⟩
      · rw [if_neg (by rw [hp]; decide)] at hf
        exact ⟨_, _, _, _, _, _, rfl, hk3, hb4 _ _ _, .inr ⟨hf, rfl⟩⟩
    have DN := hide down
    clear down
    cases fo
    · have HF := hide (fld_down HD.out (by rw [HX.out]))
      have C2 := hide (i_fieldDown s ⟨#[]⟩ w2 hs HM2.out)
      go_wp2_with fail
      refine C2.out.mono ?_
      rintro e w3 ha
      obtain ⟨b0, ad, m, c, st, ok, rfl, hk3, hfd⟩ := DN.out s ⟨#[]⟩ e w3 ha HF.out
      have HFD := hide hfd
      have s0 := cellsAt_cell hk3 0
      have s1 := cellsAt_cell hk3 1
      have s2 := cellsAt_cell hk3 2
      have sf := cellsAt_frozen hk3
      simp at s0 s1 s2
      have HK3 := hide hk3
      clear ha hfd hk3
      go_wp2
      have hk := cellsAt_set (i := 2) (cellsAt_set (i := 1) (cellsAt_set (i := 0) HK3.out (.bool b0)) (.slice ad m c)) (.string st)
      have r0 := cellsAt_cell hk 0
      have r1 := cellsAt_cell hk 1
      have r2 := cellsAt_cell hk 2
      exact bodyPost_ret (v := .tuple #[.agg #[.bool b0, .slice ad m c, .string st], .bool ok]) (by simp [results, Tryz.results31, go_sem, r0, r1, r2]) rfl HFD.out
    · have hat : at2.size ≤ maxLen := by unfold maxLen; omega
      have hfin : ∀ x y z, CellsAt (((w2.setCell ⟨w.heap.size, 0, none⟩ x).setCell ⟨w.heap.size, 1, none⟩ y).setCell ⟨w.heap.size, 2, none⟩ z) w.heap.size #[x, y, z] := fun x y z => cellsAt_set (i := 2) (cellsAt_set (i := 1) (cellsAt_set (i := 0) HK.out x) y) z
      have hbf : ∀ x y z, Below w.heap.size w (((w2.setCell ⟨w.heap.size, 0, none⟩ x).setCell ⟨w.heap.size, 1, none⟩ y).setCell ⟨w.heap.size, 2, none⟩ z) := fun x y z => ((HB2.out.setCell (Nat.le_refl _) _).setCell (Nat.le_refl _) _).setCell (Nat.le_refl _) _
      have HFIN := hide hfin
      have HBF := hide hbf
      have H3 : Hid ((ct1 64 s.data.toList).2.2 = true) := hide (by rw [HX.out])
      clear hfin hbf
      cases hn : nameB at2
      · have HN : Hid (fld s.data.toList = none) := hide (fld_name H3.out (by rw [HX.out]; exact hn))
        go_wp2_with (go_at_call 49; refine (i_name _ _ hat).mono ?_; rintro e w9 ⟨rfl, h9⟩; rw [h9, hn]; clear h9 w9)
        have r0 := cellsAt_cell (HFIN.out (.bool false) (.slice none 0 0) (.string ⟨#[]⟩)) 0
        have r1 := cellsAt_cell (HFIN.out (.bool false) (.slice none 0 0) (.string ⟨#[]⟩)) 1
        have r2 := cellsAt_cell (HFIN.out (.bool false) (.slice none 0 0) (.string ⟨#[]⟩)) 2
        exact bodyPost_ret (v := .tuple #[.agg #[.bool false, .slice none 0 0, .string ⟨#[]⟩], .bool false]) (by simp [results, Tryz.results31, go_sem, r0, r1, r2]) rfl ⟨HBF.out _ _ _, .inr ⟨HN.out, rfl⟩⟩
      · have HN2 : Hid (nameL (ct1 64 s.data.toList).2.1 = true) := hide (by rw [HX.out]; exact hn)
        by_cases h0 : hh.data.toList = []
        · have HN : Hid (fld s.data.toList = some ([], at2.data.toList)) := hide (by rw [fld_here H3.out HN2.out (by rw [HX.out]; exact h0), HX.out])
          have hem : hh.toList.isEmpty = true := by rw [ByteArray.toList_eq, h0]; rfl
          have hz9 : hh.toList = [] := by rw [ByteArray.toList_eq, h0]
          go_wp2_with (go_at_call 49; refine (i_name _ _ hat).mono ?_; rintro e w9 ⟨rfl, h9⟩; rw [h9, hn]; clear h9 w9)
          have t0 := cellsAt_cell (cellsAt_set (i := 0) HK.out (.bool false)) 0
          have t1 := cellsAt_cell (cellsAt_set (i := 1) (cellsAt_set (i := 0) HK.out (.bool false)) (.slice none 0 0)) 1
          have r0 := cellsAt_cell (HFIN.out (.bool false) (.slice none 0 0) (.string at2)) 0
          have r1 := cellsAt_cell (HFIN.out (.bool false) (.slice none 0 0) (.string at2)) 1
          have r2 := cellsAt_cell (HFIN.out (.bool false) (.slice none 0 0) (.string at2)) 2
          exact bodyPost_ret (v := .tuple #[.agg #[.bool false, .slice none 0 0, .string at2], .bool true]) (by simp [results, Tryz.results31, go_sem, r0, r1, r2, t0, t1]) rfl ⟨HBF.out _ _ _, .inl ⟨_, none, 0, HN.out, rfl, fd_own0 _ _⟩⟩
        · have HNE : Hid ((ct1 64 s.data.toList).1 ≠ []) := hide (by rw [HX.out]; exact h0)
          have hem : hh.toList.isEmpty = false := by
            rw [ByteArray.toList_eq]; simpa using h0
          have hz9 : hh.toList ≠ [] := by rw [ByteArray.toList_eq]; exact h0
          have hhz : hh.size ≤ 9223372036854775807 := by omega
          have C3 := hide (fun w => Tryz.strings_CutSuffix hh ⟨#[47]⟩ w hhz)
          cases hsf : Lib.hasSuffix hh.data.toList [47]
          · have HN : Hid (fld s.data.toList = none) := hide (fld_bare H3.out HN2.out HNE.out (by rw [HX.out]; exact hsf))
            clear h0
            go_wp2_with (first | (go_at_call 49; refine (i_name _ _ hat).mono ?_; rintro e w9 ⟨rfl, h9⟩; rw [h9, hn]; clear h9 w9) | (go_at_call 62; refine (C3.out _).mono ?_; rintro e w9 ⟨rfl, h9⟩; rw [h9, show Lib.hasSuffix hh.data.toList (⟨#[47]⟩ : ByteArray).data.toList = false from hsf]; clear h9 w9))
            have r0 := cellsAt_cell (HFIN.out (.bool false) (.slice none 0 0) (.string ⟨#[]⟩)) 0
            have r1 := cellsAt_cell (HFIN.out (.bool false) (.slice none 0 0) (.string ⟨#[]⟩)) 1
            have r2 := cellsAt_cell (HFIN.out (.bool false) (.slice none 0 0) (.string ⟨#[]⟩)) 2
            exact bodyPost_ret (v := .tuple #[.agg #[.bool false, .slice none 0 0, .string ⟨#[]⟩], .bool false]) (by simp [results, Tryz.results31, go_sem, r0, r1, r2]) rfl ⟨HBF.out _ _ _, .inr ⟨HN.out, rfl⟩⟩
          · obtain ⟨P, hP⟩ : ∃ P : ByteArray, (⟨(Lib.trimSuffix hh.data.toList [47]).toArray⟩ : ByteArray) = P := ⟨_, rfl⟩
            have hPd : P.data.toList = Lib.trimSuffix hh.data.toList [47] := by rw [← hP]
            have hPs : P.size ≤ 1048576 := by
              rw [← ct_len, hPd]
              unfold Lib.trimSuffix
              rw [if_pos hsf]
              simp
              omega
            have HF : Hid (fld s.data.toList = if pathF P.data.toList = true then some (sg [] P.data.toList, at2.data.toList) else none) := hide (by
              rw [fld_up H3.out HN2.out HNE.out (by rw [HX.out]; exact hsf), HX.out, hPd])
            have C2 := hide (i_fieldDown P at2 w2 hPs HM2.out)
            clear h0
            go_wp2_with (first | (go_at_call 49; refine (i_name _ _ hat).mono ?_; rintro e w9 ⟨rfl, h9⟩; rw [h9, hn]; clear h9 w9) | (go_at_call 62; refine (C3.out _).mono ?_; rintro e w9 ⟨rfl, h9⟩; rw [h9, show Lib.hasSuffix hh.data.toList (⟨#[47]⟩ : ByteArray).data.toList = true from hsf, show (⟨(Lib.trimSuffix hh.data.toList (⟨#[47]⟩ : ByteArray).data.toList).toArray⟩ : ByteArray) = P from hP]; clear h9 w9))
            refine C2.out.mono ?_
            rintro e w3 ha
            obtain ⟨b0, ad, m, c, st, ok, rfl, hk3, hfd⟩ := DN.out P at2 e w3 ha HF.out
            have HFD := hide hfd
            have s0 := cellsAt_cell hk3 0
            have s1 := cellsAt_cell hk3 1
            have s2 := cellsAt_cell hk3 2
            have sf := cellsAt_frozen hk3
            simp at s0 s1 s2
            have HK3 := hide hk3
            clear ha hfd hk3
            go_wp2
            have hk := cellsAt_set (i := 2) (cellsAt_set (i := 1) (cellsAt_set (i := 0) HK3.out (.bool b0)) (.slice ad m c)) (.string st)
            have r0 := cellsAt_cell hk 0
            have r1 := cellsAt_cell hk 1
            have r2 := cellsAt_cell hk 2
            exact bodyPost_ret (v := .tuple #[.agg #[.bool b0, .slice ad m c, .string st], .bool ok]) (by simp [results, Tryz.results31, go_sem, r0, r1, r2]) rfl HFD.out
end Go.Proofs.YtdepgkpfibmbgaaGreatDoor

/-
  Keys: which rows of keys are right. No step of the program in this text.
-/
namespace Go.Proofs.YtdepgkpfibmbgaaGreatDoor
open Go.RowKit
set_option linter.unusedVariables false
set_option linter.unusedSimpArgs false
theorem ba_eq (a b : ByteArray) : (a.toList == b.toList) = true ↔ a = b := by
  rw [ByteArray.toList_eq, ByteArray.toList_eq, beq_iff_eq]
  constructor
  · intro h
    obtain ⟨⟨a⟩⟩ := a
    obtain ⟨⟨b⟩⟩ := b
    simp at h
    rw [h]
  · intro h; rw [h]
theorem ba_ne {a b : ByteArray} (h : (a.toList == b.toList) = false) : a ≠ b := fun e => by
  rw [(ba_eq a b).2 e] at h; cases h
/-- A key, by itself, is right but for what it refers to. -/
def KeyOne (x : Ky) : Prop := nameB x.nm = true ∧ (1 ≤ x.kd ∧ x.kd ≤ 3) ∧ nameB x.on = true ∧ routeB x.pa = true ∧ (1 ≤ x.fl.length ∧ x.fl.length ≤ 4) ∧ ∀ j, j < x.fl.length → (fld (x.fl[j]?.getD ⟨#[]⟩).data.toList).isSome = true
/-- Key j is one that key i may refer to. -/
def RefAt (L : List Ky) (j i : Nat) : Prop := (kyA L j).nm = (kyA L i).re ∧ (kyA L j).kd ≠ 3 ∧ (kyA L j).fl.length = (kyA L i).fl.length ∧ (kyA L j).on = (kyA L i).on
/-- Key i is right, the ones ahead of it being so. -/
def KeyAt (L : List Ky) (i : Nat) : Prop := KeyOne (kyA L i) ∧ (∀ j, j < i → (kyA L j).nm ≠ (kyA L i).nm) ∧ ((kyA L i).kd = 3 → ∃ j, j < i ∧ RefAt L j i) ∧ ((kyA L i).kd ≠ 3 → (kyA L i).re = ⟨#[]⟩)
def KeysP (L : List Ky) : Prop := L.length ≤ 10 ∧ ∀ i, i < L.length → KeyAt L i
theorem keys_one {L : List Ky} {i : Nat} (hi : i < L.length) (h : ¬ KeyOne (kyA L i)) : ¬ KeysP L := fun H => h (H.2 i hi).1
theorem keys_twice {L : List Ky} {i j : Nat} (hi : i < L.length) (hj : j < i) (h : (kyA L j).nm = (kyA L i).nm) : ¬ KeysP L := fun H => (H.2 i hi).2.1 j hj h
theorem keys_ref {L : List Ky} {i : Nat} (hi : i < L.length) (h3 : (kyA L i).kd = 3) (h : ¬ ∃ j, j < i ∧ RefAt L j i) : ¬ KeysP L := fun H => h ((H.2 i hi).2.2.1 h3)
theorem keys_no {L : List Ky} {i : Nat} (hi : i < L.length) (h3 : (kyA L i).kd ≠ 3) (h : (kyA L i).re ≠ ⟨#[]⟩) : ¬ KeysP L := fun H => h ((H.2 i hi).2.2.2 h3)
theorem ref_step {L : List Ky} {i j : Nat} {B C D : Bool} (hB : B = true ↔ ∃ q, q < j ∧ RefAt L q i) (hC : C = true ↔ RefAt L j i) (hD : D = (B || C)) : D = true ↔ ∃ q, q < j + 1 ∧ RefAt L q i := by
  rw [hD, Bool.or_eq_true, hB, hC]
  constructor
  · rintro (⟨q, h1, h2⟩ | h)
    · exact ⟨q, by omega, h2⟩
    · exact ⟨j, by omega, h⟩
  · rintro ⟨q, h1, h2⟩
    by_cases e : q = j
    · subst e; exact .inr h2
    · exact .inl ⟨q, by omega, h2⟩
theorem ref_zero (L : List Ky) (i : Nat) : (false = true) ↔ ∃ q, q < 0 ∧ RefAt L q i := by
  constructor
  · intro h; cases h
  · rintro ⟨q, h, -⟩; omega
/-- No key that is right is called nothing. -/
theorem ref_none {L : List Ky} {i : Nat} (h : ∀ q, q < i → KeyAt L q) (hr : (kyA L i).re = ⟨#[]⟩) : ¬ ∃ q, q < i ∧ RefAt L q i := by
  rintro ⟨q, h1, h2, -⟩
  have hn := (h q h1).1.1
  rw [h2, hr] at hn
  exact absurd hn (by decide)
/-- What is said of a row of keys. -/
def KysAns (L : List Ky) (w : World) (e : Ending) (w' : World) : Prop := Below w.heap.size w w' ∧ ∃ B : Bool, e = .returned (.bool B) ∧ (B = true ↔ KeysP L)
theorem kys_no {L : List Ky} {w w' : World} (hb : Below w.heap.size w w') (h : ¬ KeysP L) : KysAns L w (.returned (.bool false)) w' := ⟨hb, false, rfl, by constructor; (intro h; cases h); (intro h2; exact absurd h2 h)⟩
theorem kys_yes {L : List Ky} {w w' : World} (hb : Below w.heap.size w w') (h : KeysP L) : KysAns L w (.returned (.bool true)) w' := ⟨hb, true, rfl, ⟨fun _ => h, fun _ => rfl⟩⟩
end Go.Proofs.YtdepgkpfibmbgaaGreatDoor

/-
  Contracts of the laws' helpers on rows of keys: a copy in new memory.
-/
namespace Go.Proofs.YtdepgkpfibmbgaaGreatDoor
open Go.RowKit Go.Joins
set_option linter.unusedVariables false
set_option linter.unusedSimpArgs false
/-- Cells lie in block G. -/
def KdAt (w : World) (G : Nat) (cs : Array Value) : Prop := ∃ T, w.heap[G]? = some (.cells cs T (0, 0))
section
variable {w w1 : World} {G : Nat} {cs : Array Value}
theorem kd_lt (h : KdAt w G cs) : G < w.heap.size := by
  obtain ⟨T, h⟩ := h
  exact (Array.getElem?_eq_some_iff.1 h).1
theorem kd_go (h : KdAt w G cs) (hb : Below w.heap.size w w1) : KdAt w1 G cs := by
  have hl := kd_lt h
  obtain ⟨T, h⟩ := h
  exact ⟨T, (hb.block G hl).trans h⟩
theorem kd_new (w : World) (cs : Array Value) (T : TypeId) : KdAt (w.alloc (.cells cs T)) w.heap.size cs := ⟨T, heap_alloc_new w _⟩
theorem kd_cell (h : KdAt w G cs) (i : Nat) : w.cell? ⟨G, i, none⟩ = cs[i]? := by
  obtain ⟨T, h⟩ := h
  exact cell_of_row w G i _ T (0, 0) h
theorem kd_frozen (h : KdAt w G cs) (i : Nat) : w.frozen? ⟨G, i, none⟩ = false := by
  obtain ⟨T, h⟩ := h
  simp [World.frozen?, h]
theorem kd_far (h : KdAt w G cs) (p : Addr) (v : Value) (hne : p.block ≠ G) : KdAt (w.setCell p v) G cs := by
  obtain ⟨T, h⟩ := h
  exact ⟨T, by rw [heap_setCell_far _ _ _ _ hne]; exact h⟩
theorem kd_set (h : KdAt w G cs) (i : Nat) (v : Value) : KdAt (w.setCell ⟨G, i, none⟩ v) G (cs.setIfInBounds i v) := by
  obtain ⟨T, h⟩ := h
  exact ⟨T, heap_setCell_same w G i _ _ v h⟩
end
theorem kd_three {w w2 : World} {c1 c2 c3 : Array Value} {T U V : TypeId} (hb : Below (((w.alloc (.cells c1 T)).alloc (.cells c2 U)).alloc (.cells c3 V)).heap.size (((w.alloc (.cells c1 T)).alloc (.cells c2 U)).alloc (.cells c3 V)) w2) :
    KdAt w2 w.heap.size c1 ∧ KdAt w2 (w.heap.size + 1) c2 ∧ KdAt w2 (w.heap.size + 1 + 1) c3 ∧ Below w.heap.size w w2 := by
  have h1 := kd_new w c1 T
  have h2 := kd_new (w.alloc (.cells c1 T)) c2 U
  have h3 := kd_new ((w.alloc (.cells c1 T)).alloc (.cells c2 U)) c3 V
  have st : ∀ (x : World) (o : Obj), Below x.heap.size x (x.alloc o) := fun x o => (Below.refl _ _).alloc (Nat.le_refl _) _
  refine ⟨kd_go (kd_go (kd_go h1 (st _ _)) (st _ _)) hb, ?_, ?_, ?_⟩
  · have := kd_go (kd_go h2 (st _ _)) hb
    simpa using this
  · have := kd_go h3 hb
    simpa using this
  · refine ((((Below.refl w.heap.size w).alloc (Nat.le_refl _) _).alloc (by simp) _).alloc (by simp; omega) _).trans (hb.mono (by simp; omega))
theorem tx_set {w : World} {g : Nat} {L : List ByteArray} {B : Nat} (h : TxAt w (some ⟨g, 0, none⟩) L B) (p : Addr) (v : Value) (hne : p.block ≠ g) : TxAt (w.setCell p v) (some ⟨g, 0, none⟩) L B := fun h0 => by
  obtain ⟨b, off, e, hb, hc⟩ := h h0
  simp only [Option.some.injEq, Addr.mk.injEq] at e
  obtain ⟨rfl, rfl, -⟩ := e
  exact ⟨g, 0, rfl, hb, fun j hj => by rw [World.cell?_setCell_far _ _ _ _ hne]; exact hc j hj⟩
end Go.Proofs.YtdepgkpfibmbgaaGreatDoor
