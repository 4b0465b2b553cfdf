/-
  Texts put together: PtI, FdI.
-/
import Derived.Test.YtdepgkpfibmbgaaGreatDoorF5
import Derived.Test.YtdepgkpfibmbgaaGreatDoorF2
import Derived.Test.YtdepgkpfibmbgaaGreatDoorF4
/-
  Contract: the names of a path, by the program.
-/
namespace Go.Proofs.YtdepgkpfibmbgaaGreatDoor
open Go.RowKit
set_option linter.unusedVariables false
set_option linter.unusedSimpArgs false
/-- What Go's own search asks: one of its variables holds a number. -/
def MaxL (w : World) : Prop := ∃ m, w.cell? ⟨0, 0, none⟩ = some (.int .i64 m)
theorem maxL_of {w : World} (h : w.ShapedOpen Tryz.prog) : MaxL w := Tryz.laysM146.s1_3 w h
theorem maxL_go {w w' : World} {B : Nat} (h : MaxL w) (hb : Below B w w') (hB : w.heap.size ≤ B) : MaxL w' := by
  obtain ⟨m, hm⟩ := h
  exact ⟨m, (hb.cell (Nat.lt_of_lt_of_le (World.block_lt_of_cell? _ _ hm) hB)).trans hm⟩
/-- What a path is told as. -/
def RouteAns (s : ByteArray) (w : World) (e : Ending) (w' : World) : Prop := Below w.heap.size w w' ∧
  ((routeB s = true ∧ ∃ ad c, e = .returned (.tuple #[.agg #[.bool (deepL s.data.toList), .slice ad (cntN (restL s.data.toList)) c], .bool true]) ∧ w'.ownsRow w.heap.size 9 1 (.slice ad (cntN (restL s.data.toList)) c) (cntN (restL s.data.toList)) (strV (sg [] (restL s.data.toList)))) ∨
   (routeB s = false ∧ e = .returned (.tuple #[.agg #[.bool false, .slice none 0 0], .bool false])))
theorem own_full {w : World} {B : Nat} {e : TypeId} (xs : List Value) (hb : B ≤ w.heap.size) (hm : xs.length ≤ maxLen) : (w.alloc (.cells xs.toArray e)).ownsRow B e 1 (.slice (some ⟨w.heap.size, 0, none⟩) xs.length xs.length) xs.length xs :=
  ⟨by simp, .inr ⟨w.heap.size, xs.length, xs.toArray, rfl, hb, heap_alloc_new w _, Nat.le_refl _, hm, by simp, by simp⟩⟩
theorem route_no1 {s : ByteArray} (h : 20000 < s.size) : routeB s = false := by unfold routeB; rw [decide_eq_false (by omega)]; rfl
theorem route_no2 {s : ByteArray} (h : 6 < cntN (restL s.data.toList)) : routeB s = false := by unfold routeB; rw [decide_eq_false (p := cntN _ ≤ 6) (by omega)]; simp
theorem route_no3 {s : ByteArray} (h : allN (restL s.data.toList) = false) : routeB s = false := by unfold routeB; rw [h]; simp
theorem route_yes {s : ByteArray} (h1 : s.size ≤ 20000) (h2 : cntN (restL s.data.toList) ≤ 6) (h3 : allN (restL s.data.toList) = true) : routeB s = true := by unfold routeB; rw [h3, decide_eq_true h1, decide_eq_true h2]; rfl
theorem rest_size (s : ByteArray) : (⟨(restL s.data.toList).toArray⟩ : ByteArray).size ≤ s.size := by
  show (restL s.data.toList).toArray.size ≤ s.size
  rw [List.size_toArray, ← len_data s]
  unfold restL Lib.trimPrefix
  split
  · rw [List.length_drop]; omega
  · exact Nat.le_refl _
theorem split_row (r : ByteArray) : (Lib.splitB ⟨#[47]⟩ 0 (Lib.countB r ⟨#[47]⟩) r).map Value.string = strV (sg [] r.data.toList) := by
  rw [← split_sg]
  unfold strV
  rw [List.map_map]
  rfl
theorem c_split (r : ByteArray) (w : World) (hr : r.size ≤ 1048576) (hM : MaxL w) (m : Nat) (hm : cntN r.data.toList = m) :
    Calls Tryz.prog 56 #[.string r, .string ⟨#[47]⟩] w fun e w' => e = .returned (.slice (some ⟨w.heap.size, 0, none⟩) m m) ∧ w'.ownsRow w.heap.size 9 1 (.slice (some ⟨w.heap.size, 0, none⟩) m m) m (strV (sg [] r.data.toList)) ∧ Below w.heap.size w w' := by
  obtain ⟨x, hx⟩ := hM
  refine (Tryz.strings_Split r ⟨#[47]⟩ x w (by omega) hx (by decide)).mono ?_
  rintro e w' ⟨rfl, rfl⟩
  have hl := split_len r
  have hl2 : (sg [] r.data.toList).length = m := hm
  rw [hl2] at hl
  rw [hl, split_row]
  have hlen : (strV (sg [] r.data.toList)).length = m := by unfold strV; rw [List.length_map]; exact hm
  have hle := sg_len r.data.toList []
  rw [len_data, hl2] at hle
  have h := own_full (w := w) (B := w.heap.size) (e := 9) (strV (sg [] r.data.toList)) (Nat.le_refl _) (by rw [hlen]; unfold maxLen; omega)
  rw [hlen] at h
  exact ⟨rfl, h, (Below.refl _ _).alloc (Nat.le_refl _) _⟩
theorem strV_get (ps : List (List UInt8)) (j : Nat) (hj : j < ps.length) : (strV ps)[j]? = some (.string ⟨(ps[j]?.getD []).toArray⟩) := by
  unfold strV
  rw [List.getElem?_map, List.getElem?_eq_getElem hj]
  rfl
theorem all_names {ps : List (List UInt8)} {m : Nat} (hl : ps.length = m) (h : ∀ j, j < m → nameB ⟨(ps[j]?.getD []).toArray⟩ = true) : ps.all nameL = true := by
  rw [List.all_eq_true]
  intro x hx
  obtain ⟨j, hj, rfl⟩ := List.mem_iff_getElem.1 hx
  have := h j (by omega)
  rw [List.getElem?_eq_getElem hj] at this
  exact this
theorem not_names {ps : List (List UInt8)} {j : Nat} (hl : j < ps.length) (h : nameB ⟨(ps[j]?.getD []).toArray⟩ = false) : ps.all nameL = false := by
  rw [List.all_eq_false]
  refine ⟨ps[j], List.getElem_mem hl, ?_⟩
  rw [List.getElem?_eq_getElem hl] at h
  intro h2
  exact absurd (h.symm.trans h2) (by decide)
theorem piece_size {l : List UInt8} : ∀ (cur : List UInt8), ∀ p ∈ sg cur l, p.length ≤ cur.length + l.length := by
  induction l with
  | nil => intro cur p hp; simp [sg] at hp; subst hp; simp
  | cons c t ih =>
    intro cur p hp
    by_cases h : c = 47
    · subst h
      rw [sg_sign] at hp
      rcases List.mem_cons.1 hp with rfl | hp
      · omega
      · have := ih [] p hp; simp at this ⊢; omega
    · rw [sg_more h] at hp
      have := ih _ p hp
      simp at this ⊢
      omega
set_option maxRecDepth 100000 in
set_option maxHeartbeats 4000000 in
theorem i_route (s : ByteArray) (w : World) (hs : s.size ≤ 1048576) (hM : MaxL w) : Calls Tryz.prog 29 #[.string s] w (RouteAns s w) := by
  by_cases h2 : 20000 < s.size
  · have h2i : (20000 : Int) < s.size := by omega
    have HN := hide (route_no1 h2)
    go_enter Tryz.func29, Tryz.ntmps29
    go_wp2
    refine bodyPost_ret (v := .tuple #[.agg #[.bool false, .slice none 0 0], .bool false]) (by simp [results, Tryz.results29, go_sem]) rfl ⟨(Below.refl _ _).alloc (Nat.le_refl _) _, .inr ⟨HN.out, rfl⟩⟩
  · have h2i : (s.size : Int) ≤ 20000 := by omega
    have hrs := rest_size s
    obtain ⟨r, hr⟩ : ∃ r, (⟨(restL s.data.toList).toArray⟩ : ByteArray) = r := ⟨_, rfl⟩
    have hrd : r.data.toList = restL s.data.toList := by rw [← hr]
    rw [hr] at hrs
    obtain ⟨d, hd⟩ : ∃ d, deepL s.data.toList = d := ⟨_, rfl⟩
    obtain ⟨m, hm⟩ : ∃ m, cntN r.data.toList = m := ⟨_, rfl⟩
    have hml : m ≤ r.size + 1 := by rw [← hm, ← len_data r]; exact sg_len _ _
    have C1 : Hid (∀ w, Calls Tryz.prog 55 #[.string s, .string ⟨#[47, 47]⟩] w fun e w' => e = .returned (.tuple #[.string r, .bool d]) ∧ w' = w) := hide fun w => by
      refine (Tryz.strings_CutPrefix s ⟨#[47, 47]⟩ w).mono ?_
      rintro e w' ⟨rfl, rfl⟩
      refine ⟨?_, rfl⟩
      rw [← hr, ← hd]
      rfl
    have hM1 : MaxL (w.alloc (.cells #[.bool false, .slice none 0 0] 56)) := maxL_go hM ((Below.refl _ _).alloc (Nat.le_refl _) _) (Nat.le_refl _)
    have C2 := hide (c_split r _ (by omega) hM1 m hm)
    have HRD := hide hrd
    have HD := hide hd
    have HMM := hide hm
    have hm6 : m ≤ maxLen := by unfold maxLen; omega
    have hps : (sg [] r.data.toList).length = m := hm
    have HPS := hide hps
    have HPZ : Hid (∀ j, j < m → ((⟨((sg [] r.data.toList)[j]?.getD []).toArray⟩ : ByteArray)).size ≤ maxLen) := hide fun j hj => by
      have hj2 : j < (sg [] r.data.toList).length := by omega
      have h := piece_size [] _ (List.getElem_mem hj2)
      rw [List.getElem?_eq_getElem hj2]
      show ((sg [] r.data.toList)[j].toArray).size ≤ maxLen
      rw [List.size_toArray]
      rw [len_data] at h
      simp at h
      unfold maxLen
      omega
    clear hM hM1 hr hrd hd hm hps hrs
    go_enter Tryz.func29, Tryz.ntmps29
    go_wp2_with (first | (go_at_call 55; refine (C1.out _).mono ?_; rintro e w9 ⟨rfl, h9⟩; rw [h9]; clear h9 w9))
    refine C2.out.mono ?_
    rintro e w2 ⟨rfl, ho2, hb2⟩
    have hsz : (w.alloc (.cells #[.bool false, .slice none 0 0] 56)).heap.size = w.heap.size + 1 := by simp
    have HK := hide (cellsAt_go (cellsAt_new w #[.bool false, .slice none 0 0] 56) hb2 (by simp))
    have HB := hide (gBox_below hb2)
    rw [hsz] at ho2 ⊢
    have HO := hide ho2
    clear ho2 hb2 hsz
    by_cases h6 : 6 < m
    · have h6i : (6 : Int) < m := by omega
      have HN : Hid (routeB s = false) := hide (route_no2 (by rw [← HRD.out, HMM.out]; exact h6))
      have a0 := cellsAt_cell HK.out 0
      have a1 := cellsAt_cell HK.out 1
      have f0 := cellsAt_frozen HK.out
      go_wp2
      have hk := cellsAt_set (i := 1) (cellsAt_set (i := 0) HK.out (.bool false)) (.slice none 0 0)
      have q0 := cellsAt_cell hk 0
      have q1 := cellsAt_cell hk 1
      refine bodyPost_ret (v := .tuple #[.agg #[.bool false, .slice none 0 0], .bool false]) (by simp [results, Tryz.results29, go_sem, q0, q1]) rfl ⟨(HB.out.setCell (Nat.le_refl _) _).setCell (Nat.le_refl _) _, .inr ⟨HN.out, rfl⟩⟩
    · have h6i : (m : Int) ≤ 6 := by omega
      go_wp2
      go_loop [26] (fun i => ∃ k : Nat, k ≤ m ∧ i = .int .i64 k ∧ Hid (∀ j, j < k → nameB ⟨((sg [] r.data.toList)[j]?.getD []).toArray⟩ = true)) (fun i => m - (intOf i).toNat)
      case atStart => exact ⟨0, Nat.zero_le _, rfl, fun j h => by omega⟩
      case round =>
        obtain ⟨k, hk, rfl, HA⟩ := hrel
        have a0 := cellsAt_cell HK.out 0
        have a1 := cellsAt_cell HK.out 1
        have f0 := cellsAt_frozen HK.out
        by_cases hlt : k < m
        · have hc : w2.cell? ⟨w.heap.size + 1, k, none⟩ = some (.string ⟨((sg [] r.data.toList)[k]?.getD []).toArray⟩) := by
            rw [HO.out.cellAt k (by omega)]
            exact strV_get _ _ (by rw [HPS.out]; exact hlt)
          have hz := HPZ.out k hlt
          cases hn : nameB ⟨((sg [] r.data.toList)[k]?.getD []).toArray⟩
          · have HN : Hid (routeB s = false) := hide (route_no3 (by rw [← HRD.out]; exact not_names (by rw [HPS.out]; exact hlt) hn))
            obtain ⟨P, hP⟩ : ∃ P : ByteArray, ⟨((sg [] r.data.toList)[k]?.getD []).toArray⟩ = P := ⟨_, rfl⟩
            rw [hP] at hc hz hn
            clear hP
            go_wp2_with (first | (go_at_call 49; refine (i_name _ _ hz).mono ?_; rintro e w9 ⟨rfl, h9⟩; rw [h9, hn]; clear h9 w9))
            have hk9 := cellsAt_set (i := 1) (cellsAt_set (i := 0) HK.out (.bool false)) (.slice none 0 0)
            have q0 := cellsAt_cell hk9 0
            have q1 := cellsAt_cell hk9 1
            refine bodyPost_ret (v := .tuple #[.agg #[.bool false, .slice none 0 0], .bool false]) (by simp [results, Tryz.results29, go_sem, q0, q1]) rfl ⟨(HB.out.setCell (Nat.le_refl _) _).setCell (Nat.le_refl _) _, .inr ⟨HN.out, rfl⟩⟩
          · have HN := hide hn
            obtain ⟨P, hP⟩ : ∃ P : ByteArray, ⟨((sg [] r.data.toList)[k]?.getD []).toArray⟩ = P := ⟨_, rfl⟩
            rw [hP] at hc hz hn
            clear hP
            go_wp2_with (first | (go_at_call 49; refine (i_name _ _ hz).mono ?_; rintro e w9 ⟨rfl, h9⟩; rw [h9, hn]; clear h9 w9))
            go_round
            case rel =>
              refine ⟨k + 1, by omega, by go_num, fun j hj => ?_⟩
              by_cases e : j = k
              · subst e; exact HN.out
              · exact HA.out j (by omega)
            case measure => simp [intOf]; omega
        · have hkm : k = m := by omega
          subst hkm
          have HY : Hid (routeB s = true) := hide (route_yes (by omega) (by rw [← HRD.out, HMM.out]; omega) (by rw [← HRD.out]; exact all_names HPS.out HA.out))
          go_wp2
          have hk9 := cellsAt_set (i := 1) (cellsAt_set (i := 0) HK.out (.bool d)) (.slice (some ⟨w.heap.size + 1, 0, none⟩) k k)
          have q0 := cellsAt_cell hk9 0
          have q1 := cellsAt_cell hk9 1
          refine bodyPost_ret (v := .tuple #[.agg #[.bool d, .slice (some ⟨w.heap.size + 1, 0, none⟩) k k], .bool true]) (by simp [results, Tryz.results29, go_sem, q0, q1]) rfl ⟨(HB.out.setCell (Nat.le_refl _) _).setCell (Nat.le_refl _) _, .inl ⟨HY.out, some ⟨w.heap.size + 1, 0, none⟩, k, ?_, ?_⟩⟩
          · rw [← HRD.out, HMM.out, HD.out]
          · rw [← HRD.out, HMM.out]
            refine gOwn_lower (B := w.heap.size + 1) ?_ (Nat.le_succ _)
            exact gOwn_set (gOwn_set HO.out _ _ (by simp [Value.ownBlock])) _ _ (by simp [Value.ownBlock])
end Go.Proofs.YtdepgkpfibmbgaaGreatDoor

/-
  Contract: what a field tells, by the program.
-/
namespace Go.Proofs.YtdepgkpfibmbgaaGreatDoor
open Go.RowKit
set_option linter.unusedVariables false
set_option linter.unusedSimpArgs false
theorem ct_len (s : ByteArray) : s.data.toList.length = s.size := by simp
theorem dot_cmpI (s : ByteArray) : (s.toList == [46]) = decide (s.data.toList = [46]) := by
  rw [ByteArray.toList_eq]
  cases h : s.data.toList == [46]
  · rw [eq_comm, decide_eq_false_iff_not]; intro e; rw [e] at h; simp at h
  · rw [eq_comm, decide_eq_true_iff]; simpa using h
theorem c_cut (t H A : ByteArray) (fo : Bool) (w : World) (ht : t.size ≤ 1048576) (hM : MaxL w) (hx : ct1 64 t.data.toList = (H.data.toList, A.data.toList, fo)) :
    Calls Tryz.prog 60 #[.string t, .string ⟨#[64]⟩] w fun e w' => e = .returned (.tuple #[.string H, .string A, .bool fo]) ∧ Below w.heap.size w w' := by
  obtain ⟨m, hm⟩ := hM
  have h := Any.strings_Cut { Tryz.laysM145 with } t ⟨#[64]⟩ m w (by omega) hm
  have e : Lib.cut t.data.toList (⟨#[64]⟩ : ByteArray).data.toList = (H.data.toList, A.data.toList, fo) := (ct1_eq 64 t.data.toList).trans hx
  rw [e] at h
  refine h.mono ?_
  rintro e w' ⟨h1, n, rfl⟩
  exact ⟨h1, ⟨rfl, rfl, rfl, Nat.le_refl _, fun _ _ => rfl⟩⟩
/-- What a field down a path is told as. -/
def DownAns (s a : ByteArray) (w : World) (e : Ending) (w' : World) : Prop := Below w.heap.size w w' ∧
  ((pathF s.data.toList = true ∧ ∃ ad c, e = .returned (.tuple #[.agg #[.bool false, .slice ad (sg [] s.data.toList).length c, .string a], .bool true]) ∧ w'.ownsRow w.heap.size 9 1 (.slice ad (sg [] s.data.toList).length c) (sg [] s.data.toList).length (strV (sg [] s.data.toList))) ∨
   (pathF s.data.toList = false ∧ e = .returned (.tuple #[.agg #[.bool false, .slice none 0 0, .string ⟨#[]⟩], .bool false])))
set_option maxRecDepth 100000 in
set_option maxHeartbeats 4000000 in
theorem i_fieldDown (s a : ByteArray) (w : World) (hs : s.size ≤ 1048576) (hM : MaxL w) : Calls Tryz.prog 61 #[.string s, .string a] w (DownAns s a w) := by
  have hM1 : MaxL (w.alloc (.cells #[.bool false, .slice none 0 0, .string ⟨#[]⟩] 69)) := maxL_go hM ((Below.refl _ _).alloc (Nat.le_refl _) _) (Nat.le_refl _)
  have C := hide (i_route s _ hs hM1)
  have HPR := hide (pathF_route s)
  clear hM hM1
  go_enter Tryz.func61, Tryz.ntmps61
  go_wp2_with fail
  refine C.out.mono ?_
  rintro e w2 ⟨hb, h⟩
  have hK := cellsAt_go (cellsAt_new w #[.bool false, .slice none 0 0, .string ⟨#[]⟩] 69) hb (by simp)
  have HB := hide (gBox_below hb)
  have hsz2 : w.heap.size < w2.heap.size := cellsAt_lt hK
  have p0 : w2.cell? ⟨w.heap.size, 0, none⟩ = some (.bool false) := cellsAt_cell hK 0
  have p1 : w2.cell? ⟨w.heap.size, 1, none⟩ = some (.slice none 0 0) := cellsAt_cell hK 1
  have p2 : w2.cell? ⟨w.heap.size, 2, none⟩ = some (.string ⟨#[]⟩) := cellsAt_cell hK 2
  have g0 : ∀ i, w2.frozen? ⟨w.heap.size, i, none⟩ = false := fun i => cellsAt_frozen hK i
  have HF := hide hK
  clear hb hK
  rcases h with ⟨hr, ad, c, rfl, ho⟩ | ⟨hr, rfl⟩
  · rw [hr] at HPR
    obtain ⟨d, hd⟩ : ∃ d, deepL s.data.toList = d := ⟨_, rfl⟩
    rw [hd] at HPR ⊢
    have HDD := hide hd
    have HO := hide ho
    clear ho hd hr
    obtain ⟨m, hm⟩ : ∃ m, cntN (restL s.data.toList) = m := ⟨_, rfl⟩
    have HMM := hide hm
    rw [hm]
    clear hm
    cases d
    · go_wp2
      have hk := fun o : Obj => cellsAt_go (cellsAt_set (i := 2) (cellsAt_set (i := 1) (cellsAt_set (i := 0) HF.out (.bool false)) (.slice ad m c)) (.string a)) ((Below.refl _ _).alloc (Nat.le_refl _) o) (by simp; exact hsz2)
      have r0 := fun o : Obj => cellsAt_cell (hk o) 0
      have r1 := fun o : Obj => cellsAt_cell (hk o) 1
      have r2 := fun o : Obj => cellsAt_cell (hk o) 2
      have hp : pathF s.data.toList = true := HPR.out.symm
      obtain ⟨h1, h2⟩ := pathF_shallow hp
      have hl : (sg [] s.data.toList).length = m := by rw [← HMM.out, h2]; rfl
      refine bodyPost_ret (v := .tuple #[.agg #[.bool false, .slice ad m c, .string a], .bool true]) (by simp [results, Tryz.results61, go_sem, r0, r1, r2]) rfl ⟨((((HB.out.setCell (Nat.le_refl _) _).setCell (Nat.le_refl _) _).setCell (Nat.le_refl _) _).alloc (by simp; omega) _), .inl ⟨hp, ad, c, by rw [hl], ?_⟩⟩
      have ho := HO.out
      rw [HMM.out, h2] at ho
      rw [hl]
      have ho2 := gOwn_lower ho (B' := w.heap.size) (by simp)
      have hne : ∀ i, (Value.slice ad m c).ownBlock ≠ some (⟨w.heap.size, i, none⟩ : Addr).block := by
        intro i
        cases ad with
        | none => simp [Value.ownBlock]
        | some p =>
          rcases ho.2 with ⟨e, -⟩ | ⟨g, cap, cur, e, hg, -⟩
          · cases e
          · simp only [Value.slice.injEq, Option.some.injEq] at e
            obtain ⟨rfl, -⟩ := e
            simp at hg
            simp [Value.ownBlock]
            omega
      exact (gOwn_set (gOwn_set (gOwn_set ho2 _ _ (hne _)) _ _ (hne _)) _ _ (hne _)).alloc _
    · go_wp2
      have hk := fun o : Obj => cellsAt_go (cellsAt_set (i := 2) (cellsAt_set (i := 1) (cellsAt_set (i := 0) HF.out (.bool false)) (.slice none 0 0)) (.string ⟨#[]⟩)) ((Below.refl _ _).alloc (Nat.le_refl _) o) (by simp; exact hsz2)
      have r0 := fun o : Obj => cellsAt_cell (hk o) 0
      have r1 := fun o : Obj => cellsAt_cell (hk o) 1
      have r2 := fun o : Obj => cellsAt_cell (hk o) 2
      refine bodyPost_ret (v := .tuple #[.agg #[.bool false, .slice none 0 0, .string ⟨#[]⟩], .bool false]) (by simp [results, Tryz.results61, go_sem, r0, r1, r2]) rfl ⟨((((HB.out.setCell (Nat.le_refl _) _).setCell (Nat.le_refl _) _).setCell (Nat.le_refl _) _).alloc (by simp; omega) _), .inr ⟨HPR.out.symm, rfl⟩⟩
  · rw [hr] at HPR
    go_wp2
    have hk := fun o : Obj => cellsAt_go (cellsAt_set (i := 2) (cellsAt_set (i := 1) (cellsAt_set (i := 0) HF.out (.bool false)) (.slice none 0 0)) (.string ⟨#[]⟩)) ((Below.refl _ _).alloc (Nat.le_refl _) o) (by simp; exact hsz2)
    have r0 := fun o : Obj => cellsAt_cell (hk o) 0
    have r1 := fun o : Obj => cellsAt_cell (hk o) 1
    have r2 := fun o : Obj => cellsAt_cell (hk o) 2
    refine bodyPost_ret (v := .tuple #[.agg #[.bool false, .slice none 0 0, .string ⟨#[]⟩], .bool false]) (by simp [results, Tryz.results61, go_sem, r0, r1, r2]) rfl ⟨((((HB.out.setCell (Nat.le_refl _) _).setCell (Nat.le_refl _) _).setCell (Nat.le_refl _) _).alloc (by simp; omega) _), .inr ⟨HPR.out.symm, rfl⟩⟩
/-- What a field is told as by the program. -/
def FdAns (s : ByteArray) (w : World) (e : Ending) (w' : World) : Prop := Below w.heap.size w w' ∧
  ((∃ x ad c, fld s.data.toList = some x ∧ e = .returned (.tuple #[.agg #[.bool false, .slice ad x.1.length c, .string ⟨x.2.toArray⟩], .bool true]) ∧ w'.ownsRow w.heap.size 9 1 (.slice ad x.1.length c) x.1.length (strV x.1)) ∨
   (fld s.data.toList = none ∧ e = .returned (.tuple #[.agg #[.bool false, .slice none 0 0, .string ⟨#[]⟩], .bool false])))
theorem fd_own0 (w : World) (B : Nat) : w.ownsRow B 9 1 (.slice none ([] : List (List UInt8)).length 0) ([] : List (List UInt8)).length (strV []) := ⟨rfl, .inl ⟨rfl, rfl⟩⟩
set_option maxRecDepth 100000 in
set_option maxHeartbeats 4000000 in
theorem i_field (s : ByteArray) (w : World) (hs : s.size ≤ 1048576) (hM : MaxL w) : Calls Tryz.prog 31 #[.string s] w (FdAns s w) := by
  have hM1 : MaxL (w.alloc (.cells #[.bool false, .slice none 0 0, .string ⟨#[]⟩] 69)) := maxL_go hM ((Below.refl _ _).alloc (Nat.le_refl _) _) (Nat.le_refl _)
  have hdc := dot_cmpI s
  by_cases hd : s.data.toList = [46]
  · rw [decide_eq_true hd] at hdc
    have HD := hide hd
    clear hd hM hM1
    go_enter Tryz.func31, Tryz.ntmps31
    go_wp2
    refine bodyPost_ret (v := .tuple #[.agg #[.bool false, .slice none 0 0, .string ⟨#[]⟩], .bool true]) (by simp [results, Tryz.results31, go_sem]) rfl ⟨(Below.refl _ _).alloc (Nat.le_refl _) _, .inl ⟨([], []), none, 0, ?_, rfl, fd_own0 _ _⟩⟩
    rw [HD.out]; exact fld_dot
  · rw [decide_eq_false hd] at hdc
    have HD := hide hd
    clear hd
    obtain ⟨hh, at2, fo, hx⟩ : ∃ (hh at2 : ByteArray) (fo : Bool), ct1 64 s.data.toList = (hh.data.toList, at2.data.toList, fo) := ⟨⟨(ct1 64 s.data.toList).1.toArray⟩, ⟨(ct1 64 s.data.toList).2.1.toArray⟩, (ct1 64 s.data.toList).2.2, rfl⟩
    have HX := hide hx
    have hz := ct1_sz 64 s.data.toList
    rw [hx] at hz
    obtain ⟨hz1, hz2⟩ := hz
    simp only at hz1 hz2
    simp only [ct_len] at hz1 hz2
    have C1 := hide (c_cut s hh at2 fo _ hs hM1 hx)
    have HM1 := hide hM1
    clear hM hM1 hx
    go_enter Tryz.func31, Tryz.ntmps31
    go_wp2_with fail
    refine C1.out.mono ?_
    rintro e w2 ⟨rfl, hb2⟩
    have HM2 := hide (maxL_go HM1.out hb2 (Nat.le_refl _))
    have hK := cellsAt_go (cellsAt_new w #[.bool false, .slice none 0 0, .string ⟨#[]⟩] 69) hb2 (by simp)
    have HB2 := hide (gBox_below hb2)
    have hsz2 : w.heap.size < w2.heap.size := cellsAt_lt hK
    have p0 : w2.cell? ⟨w.heap.size, 0, none⟩ = some (.bool false) := cellsAt_cell hK 0
    have p1 : w2.cell? ⟨w.heap.size, 1, none⟩ = some (.slice none 0 0) := cellsAt_cell hK 1
    have p2 : w2.cell? ⟨w.heap.size, 2, none⟩ = some (.string ⟨#[]⟩) := cellsAt_cell hK 2
    have g0 : ∀ i, w2.frozen? ⟨w.heap.size, i, none⟩ = false := fun i => cellsAt_frozen hK i
    have HK := hide hK
    clear hb2 hK HM1
    have down : ∀ (p a : ByteArray) (e : Ending) (w3 : World) (hd : DownAns p a w2 e w3) (hf : fld s.data.toList = if pathF p.data.toList = true then some (sg [] p.data.toList, a.data.toList) else none),
        ∃ b0 ad m c st ok, e = .returned (.tuple #[.agg #[.bool b0, .slice ad m c, .string st], .bool ok]) ∧ CellsAt w3 w.heap.size #[.bool false, .slice none 0 0, .string ⟨#[]⟩] ∧
          FdAns s w (.returned (.tuple #[.agg #[.bool b0, .slice ad m c, .string st], .bool ok])) (((w3.setCell ⟨w.heap.size, 0, none⟩ (.bool b0)).setCell ⟨w.heap.size, 1, none⟩ (.slice ad m c)).setCell ⟨w.heap.size, 2, none⟩ (.string st)) := by
      intro p a e w3 hd hf
      have hb := hd.1
      have hk3 := cellsAt_go HK.out hb hsz2
      have hb3 : Below w.heap.size w w3 := HB2.out.trans (hb.mono HB2.out.size)
      have own : ∀ {ad : Option Addr} {c m : Nat} {xs : List Value} (x y z : Value), w3.ownsRow w2.heap.size 9 1 (.slice ad m c) m xs → (((w3.setCell ⟨w.heap.size, 0, none⟩ x).setCell ⟨w.heap.size, 1, none⟩ y).setCell ⟨w.heap.size, 2, none⟩ z).ownsRow w.heap.size 9 1 (.slice ad m c) m xs := by
        intro ad c m xs x y z ho
        have ho2 := gOwn_lower ho (B' := w.heap.size) (Nat.le_of_lt hsz2)
        have hne : ∀ i, (Value.slice ad m c).ownBlock ≠ some (⟨w.heap.size, i, none⟩ : Addr).block := by
          intro i
          cases ad with
          | none => simp [Value.ownBlock]
          | some p =>
            rcases ho.2 with ⟨e, -⟩ | ⟨g, cap, cur, e, hg, -⟩
            · cases e
            · simp only [Value.slice.injEq, Option.some.injEq] at e
              obtain ⟨rfl, -⟩ := e
              simp [Value.ownBlock]
              omega
        exact gOwn_set (gOwn_set (gOwn_set ho2 _ _ (hne _)) _ _ (hne _)) _ _ (hne _)
      have hb4 : ∀ x y z, Below w.heap.size w (((w3.setCell ⟨w.heap.size, 0, none⟩ x).setCell ⟨w.heap.size, 1, none⟩ y).setCell ⟨w.heap.size, 2, none⟩ z) := fun x y z => ((hb3.setCell (Nat.le_refl _) _).setCell (Nat.le_refl _) _).setCell (Nat.le_refl _) _
      rcases hd.2 with ⟨hp, ad, c, rfl, hown⟩ | ⟨hp, rfl⟩
      · rw [if_pos hp] at hf
        exact ⟨_, _, _, _, _, _, rfl, hk3, hb4 _ _ _, .inl ⟨_, ad, c, hf, rfl, own _ _ _ hown⟩⟩
      · rw [if_neg (by rw [hp]; decide)] at hf
        exact ⟨_, _, _, _, _, _, rfl, hk3, hb4 _ _ _, .inr ⟨hf, rfl⟩⟩
    have DN := hide down
    clear down
    cases fo
    · have HF := hide (fld_down HD.out (by rw [HX.out]))
      have C2 := hide (i_fieldDown s ⟨#[]⟩ w2 hs HM2.out)
      go_wp2_with fail
      refine C2.out.mono ?_
      rintro e w3 ha
      obtain ⟨b0, ad, m, c, st, ok, rfl, hk3, hfd⟩ := DN.out s ⟨#[]⟩ e w3 ha HF.out
      have HFD := hide hfd
      have s0 := cellsAt_cell hk3 0
      have s1 := cellsAt_cell hk3 1
      have s2 := cellsAt_cell hk3 2
      have sf := cellsAt_frozen hk3
      simp at s0 s1 s2
      have HK3 := hide hk3
      clear ha hfd hk3
      go_wp2
      have hk := cellsAt_set (i := 2) (cellsAt_set (i := 1) (cellsAt_set (i := 0) HK3.out (.bool b0)) (.slice ad m c)) (.string st)
      have r0 := cellsAt_cell hk 0
      have r1 := cellsAt_cell hk 1
      have r2 := cellsAt_cell hk 2
      exact bodyPost_ret (v := .tuple #[.agg #[.bool b0, .slice ad m c, .string st], .bool ok]) (by simp [results, Tryz.results31, go_sem, r0, r1, r2]) rfl HFD.out
    · have hat : at2.size ≤ maxLen := by unfold maxLen; omega
      have hfin : ∀ x y z, CellsAt (((w2.setCell ⟨w.heap.size, 0, none⟩ x).setCell ⟨w.heap.size, 1, none⟩ y).setCell ⟨w.heap.size, 2, none⟩ z) w.heap.size #[x, y, z] := fun x y z => cellsAt_set (i := 2) (cellsAt_set (i := 1) (cellsAt_set (i := 0) HK.out x) y) z
      have hbf : ∀ x y z, Below w.heap.size w (((w2.setCell ⟨w.heap.size, 0, none⟩ x).setCell ⟨w.heap.size, 1, none⟩ y).setCell ⟨w.heap.size, 2, none⟩ z) := fun x y z => ((HB2.out.setCell (Nat.le_refl _) _).setCell (Nat.le_refl _) _).setCell (Nat.le_refl _) _
      have HFIN := hide hfin
      have HBF := hide hbf
      have H3 : Hid ((ct1 64 s.data.toList).2.2 = true) := hide (by rw [HX.out])
      clear hfin hbf
      cases hn : nameB at2
      · have HN : Hid (fld s.data.toList = none) := hide (fld_name H3.out (by rw [HX.out]; exact hn))
        go_wp2_with (go_at_call 49; refine (i_name _ _ hat).mono ?_; rintro e w9 ⟨rfl, h9⟩; rw [h9, hn]; clear h9 w9)
        have r0 := cellsAt_cell (HFIN.out (.bool false) (.slice none 0 0) (.string ⟨#[]⟩)) 0
        have r1 := cellsAt_cell (HFIN.out (.bool false) (.slice none 0 0) (.string ⟨#[]⟩)) 1
        have r2 := cellsAt_cell (HFIN.out (.bool false) (.slice none 0 0) (.string ⟨#[]⟩)) 2
        exact bodyPost_ret (v := .tuple #[.agg #[.bool false, .slice none 0 0, .string ⟨#[]⟩], .bool false]) (by simp [results, Tryz.results31, go_sem, r0, r1, r2]) rfl ⟨HBF.out _ _ _, .inr ⟨HN.out, rfl⟩⟩
      · have HN2 : Hid (nameL (ct1 64 s.data.toList).2.1 = true) := hide (by rw [HX.out]; exact hn)
        by_cases h0 : hh.data.toList = []
        · have HN : Hid (fld s.data.toList = some ([], at2.data.toList)) := hide (by rw [fld_here H3.out HN2.out (by rw [HX.out]; exact h0), HX.out])
          have hem : hh.toList.isEmpty = true := by rw [ByteArray.toList_eq, h0]; rfl
          have hz9 : hh.toList = [] := by rw [ByteArray.toList_eq, h0]
          go_wp2_with (go_at_call 49; refine (i_name _ _ hat).mono ?_; rintro e w9 ⟨rfl, h9⟩; rw [h9, hn]; clear h9 w9)
          have t0 := cellsAt_cell (cellsAt_set (i := 0) HK.out (.bool false)) 0
          have t1 := cellsAt_cell (cellsAt_set (i := 1) (cellsAt_set (i := 0) HK.out (.bool false)) (.slice none 0 0)) 1
          have r0 := cellsAt_cell (HFIN.out (.bool false) (.slice none 0 0) (.string at2)) 0
          have r1 := cellsAt_cell (HFIN.out (.bool false) (.slice none 0 0) (.string at2)) 1
          have r2 := cellsAt_cell (HFIN.out (.bool false) (.slice none 0 0) (.string at2)) 2
          exact bodyPost_ret (v := .tuple #[.agg #[.bool false, .slice none 0 0, .string at2], .bool true]) (by simp [results, Tryz.results31, go_sem, r0, r1, r2, t0, t1]) rfl ⟨HBF.out _ _ _, .inl ⟨_, none, 0, HN.out, rfl, fd_own0 _ _⟩⟩
        · have HNE : Hid ((ct1 64 s.data.toList).1 ≠ []) := hide (by rw [HX.out]; exact h0)
          have hem : hh.toList.isEmpty = false := by
            rw [ByteArray.toList_eq]; simpa using h0
          have hz9 : hh.toList ≠ [] := by rw [ByteArray.toList_eq]; exact h0
          have hhz : hh.size ≤ 9223372036854775807 := by omega
          have C3 := hide (fun w => Tryz.strings_CutSuffix hh ⟨#[47]⟩ w hhz)
          cases hsf : Lib.hasSuffix hh.data.toList [47]
          · have HN : Hid (fld s.data.toList = none) := hide (fld_bare H3.out HN2.out HNE.out (by rw [HX.out]; exact hsf))
            clear h0
            go_wp2_with (first | (go_at_call 49; refine (i_name _ _ hat).mono ?_; rintro e w9 ⟨rfl, h9⟩; rw [h9, hn]; clear h9 w9) | (go_at_call 62; refine (C3.out _).mono ?_; rintro e w9 ⟨rfl, h9⟩; rw [h9, show Lib.hasSuffix hh.data.toList (⟨#[47]⟩ : ByteArray).data.toList = false from hsf]; clear h9 w9))
            have r0 := cellsAt_cell (HFIN.out (.bool false) (.slice none 0 0) (.string ⟨#[]⟩)) 0
            have r1 := cellsAt_cell (HFIN.out (.bool false) (.slice none 0 0) (.string ⟨#[]⟩)) 1
            have r2 := cellsAt_cell (HFIN.out (.bool false) (.slice none 0 0) (.string ⟨#[]⟩)) 2
            exact bodyPost_ret (v := .tuple #[.agg #[.bool false, .slice none 0 0, .string ⟨#[]⟩], .bool false]) (by simp [results, Tryz.results31, go_sem, r0, r1, r2]) rfl ⟨HBF.out _ _ _, .inr ⟨HN.out, rfl⟩⟩
          · obtain ⟨P, hP⟩ : ∃ P : ByteArray, (⟨(Lib.trimSuffix hh.data.toList [47]).toArray⟩ : ByteArray) = P := ⟨_, rfl⟩
            have hPd : P.data.toList = Lib.trimSuffix hh.data.toList [47] := by rw [← hP]
            have hPs : P.size ≤ 1048576 := by
              rw [← ct_len, hPd]
              unfold Lib.trimSuffix
              rw [if_pos hsf]
              simp
              omega
            have HF : Hid (fld s.data.toList = if pathF P.data.toList = true then some (sg [] P.data.toList, at2.data.toList) else none) := hide (by
              rw [fld_up H3.out HN2.out HNE.out (by rw [HX.out]; exact hsf), HX.out, hPd])
            have C2 := hide (i_fieldDown P at2 w2 hPs HM2.out)
            clear h0
            go_wp2_with (first | (go_at_call 49; refine (i_name _ _ hat).mono ?_; rintro e w9 ⟨rfl, h9⟩; rw [h9, hn]; clear h9 w9) | (go_at_call 62; refine (C3.out _).mono ?_; rintro e w9 ⟨rfl, h9⟩; rw [h9, show Lib.hasSuffix hh.data.toList (⟨#[47]⟩ : ByteArray).data.toList = true from hsf, show (⟨(Lib.trimSuffix hh.data.toList (⟨#[47]⟩ : ByteArray).data.toList).toArray⟩ : ByteArray) = P from hP]; clear h9 w9))
            refine C2.out.mono ?_
            rintro e w3 ha
            obtain ⟨b0, ad, m, c, st, ok, rfl, hk3, hfd⟩ := DN.out P at2 e w3 ha HF.out
            have HFD := hide hfd
            have s0 := cellsAt_cell hk3 0
            have s1 := cellsAt_cell hk3 1
            have s2 := cellsAt_cell hk3 2
            have sf := cellsAt_frozen hk3
            simp at s0 s1 s2
            have HK3 := hide hk3
            clear ha hfd hk3
            go_wp2
            have hk := cellsAt_set (i := 2) (cellsAt_set (i := 1) (cellsAt_set (i := 0) HK3.out (.bool b0)) (.slice ad m c)) (.string st)
            have r0 := cellsAt_cell hk 0
            have r1 := cellsAt_cell hk 1
            have r2 := cellsAt_cell hk 2
            exact bodyPost_ret (v := .tuple #[.agg #[.bool b0, .slice ad m c, .string st], .bool ok]) (by simp [results, Tryz.results31, go_sem, r0, r1, r2]) rfl HFD.out
end Go.Proofs.YtdepgkpfibmbgaaGreatDoor
