/-
  Contract: the names of a path, by the program.
-/
import Derived.Test.YtfbahffljhnjbaaGreatDoorD6
import Derived.Test.YtfbahffljhnjbaaGreatDoorD7
namespace Go.Proofs.YtfbahffljhnjbaaGreatDoor
open Go.RowKit
set_option linter.unusedVariables false
set_option linter.unusedSimpArgs false
/-- What Go's own search asks: one of its variables holds a number. -/
def MaxL (w : World) : Prop := ∃ m, w.cell? ⟨0, 0, none⟩ = some (.int .i64 m)
theorem maxL_of {w : World} (h : w.ShapedOpen Tryz.prog) : MaxL w := Tryz.laysM146.s1_3 w h
theorem maxL_go {w w' : World} {B : Nat} (h : MaxL w) (hb : Below B w w') (hB : w.heap.size ≤ B) : MaxL w' := by
  obtain ⟨m, hm⟩ := h
  exact ⟨m, (hb.cell (Nat.lt_of_lt_of_le (World.block_lt_of_cell? _ _ hm) hB)).trans hm⟩
/-- What a path is told as. -/
def RouteAns (s : ByteArray) (w : World) (e : Ending) (w' : World) : Prop := Below w.heap.size w w' ∧
  ((routeB s = true ∧ ∃ ad c, e = .returned (.tuple #[.agg #[.bool (deepL s.data.toList), .slice ad (cntN (restL s.data.toList)) c], .bool true]) ∧ w'.ownsRow w.heap.size 9 1 (.slice ad (cntN (restL s.data.toList)) c) (cntN (restL s.data.toList)) (strV (sg [] (restL s.data.toList)))) ∨
   (routeB s = false ∧ e = .returned (.tuple #[.agg #[.bool false, .slice none 0 0], .bool false])))
theorem own_full {w : World} {B : Nat} {e : TypeId} (xs : List Value) (hb : B ≤ w.heap.size) (hm : xs.length ≤ maxLen) : (w.alloc (.cells xs.toArray e)).ownsRow B e 1 (.slice (some ⟨w.heap.size, 0, none⟩) xs.length xs.length) xs.length xs :=
  ⟨by simp, .inr ⟨w.heap.size, xs.length, xs.toArray, rfl, hb, heap_alloc_new w _, Nat.le_refl _, hm, by simp, by simp⟩⟩
theorem route_no1 {s : ByteArray} (h : 20000 < s.size) : routeB s = false := by unfold routeB; rw [decide_eq_false (by omega)]; rfl
theorem route_no2 {s : ByteArray} (h : 6 < cntN (restL s.data.toList)) : routeB s = false := by unfold routeB; rw [decide_eq_false (p := cntN _ ≤ 6) (by omega)]; simp
theorem route_no3 {s : ByteArray} (h : allN (restL s.data.toList) = false) : routeB s = false := by unfold routeB; rw [h]; simp
theorem route_yes {s : ByteArray} (h1 : s.size ≤ 20000) (h2 : cntN (restL s.data.toList) ≤ 6) (h3 : allN (restL s.data.toList) = true) : routeB s = true := by unfold routeB; rw [h3, decide_eq_true h1, decide_eq_true h2]; rfl
theorem rest_size (s : ByteArray) : (⟨(restL s.data.toList).toArray⟩ : ByteArray).size ≤ s.size := by
  show (restL s.data.toList).toArray.size ≤ s.size
  rw [List.size_toArray, ← len_data s]
  unfold restL Lib.trimPrefix
  split
  · rw [List.length_drop]; omega
  · exact Nat.le_refl _
theorem split_row (r : ByteArray) : (Lib.splitB ⟨#[47]⟩ 0 (Lib.countB r ⟨#[47]⟩) r).map Value.string = strV (sg [] r.data.toList) := by
  rw [← split_sg]
  unfold strV
  rw [List.map_map]
  rfl
theorem c_split (r : ByteArray) (w : World) (hr : r.size ≤ 1048576) (hM : MaxL w) (m : Nat) (hm : cntN r.data.toList = m) :
    Calls Tryz.prog 113 #[.string r, .string ⟨#[47]⟩] w fun e w' => e = .returned (.slice (some ⟨w.heap.size, 0, none⟩) m m) ∧ w'.ownsRow w.heap.size 9 1 (.slice (some ⟨w.heap.size, 0, none⟩) m m) m (strV (sg [] r.data.toList)) ∧ Below w.heap.size w w' := by
  obtain ⟨x, hx⟩ := hM
  refine (Tryz.strings_Split r ⟨#[47]⟩ x w (by omega) hx (by decide)).mono ?_
  rintro e w' ⟨rfl, rfl⟩
  have hl := split_len r
  have hl2 : (sg [] r.data.toList).length = m := hm
  rw [hl2] at hl
  rw [hl, split_row]
  have hlen : (strV (sg [] r.data.toList)).length = m := by unfold strV; rw [List.length_map]; exact hm
  have hle := sg_len r.data.toList []
  rw [len_data, hl2] at hle
  have h := own_full (w := w) (B := w.heap.size) (e := 9) (strV (sg [] r.data.toList)) (Nat.le_refl _) (by rw [hlen]; unfold maxLen; omega)
  rw [hlen] at h
  exact ⟨rfl, h, (Below.refl _ _).alloc (Nat.le_refl _) _⟩
theorem strV_get (ps : List (List UInt8)) (j : Nat) (hj : j < ps.length) : (strV ps)[j]? = some (.string ⟨(ps[j]?.getD []).toArray⟩) := by
  unfold strV
  rw [List.getElem?_map, List.getElem?_eq_getElem hj]
  rfl
theorem all_names {ps : List (List UInt8)} {m : Nat} (hl : ps.length = m) (h : ∀ j, j < m → nameB ⟨(ps[j]?.getD []).toArray⟩ = true) : ps.all nameL = true := by
  rw [List.all_eq_true]
  intro x hx
  obtain ⟨j, hj, rfl⟩ := List.mem_iff_getElem.1 hx
  have := h j (by omega)
  rw [List.getElem?_eq_getElem hj] at this
  exact this
theorem not_names {ps : List (List UInt8)} {j : Nat} (hl : j < ps.length) (h : nameB ⟨(ps[j]?.getD []).toArray⟩ = false) : ps.all nameL = false := by
  rw [List.all_eq_false]
  refine ⟨ps[j], List.getElem_mem hl, ?_⟩
  rw [List.getElem?_eq_getElem hl] at h
  intro h2
  exact absurd (h.symm.trans h2) (by decide)
theorem piece_size {l : List UInt8} : ∀ (cur : List UInt8), ∀ p ∈ sg cur l, p.length ≤ cur.length + l.length := by
  induction l with
  | nil => intro cur p hp; simp [sg] at hp; subst hp; simp
  | cons c t ih =>
    intro cur p hp
    by_cases h : c = 47
    · subst h
      rw [sg_sign] at hp
      rcases List.mem_cons.1 hp with rfl | hp
      · omega
      · have := ih [] p hp; simp at this ⊢; omega
    · rw [sg_more h] at hp
      have := ih _ p hp
      simp at this ⊢
      omega
set_option maxRecDepth 100000 in
set_option maxHeartbeats 4000000 in
theorem i_route (s : ByteArray) (w : World) (hs : s.size ≤ 1048576) (hM : MaxL w) : Calls Tryz.prog 76 #[.string s] w (RouteAns s w) := by
  by_cases h2 : 20000 < s.size
  · have h2i : (20000 : Int) < s.size := by omega
    have HN := hide (route_no1 h2)
    go_enter Tryz.func76, Tryz.ntmps76
    go_wp2
    refine bodyPost_ret (v := .tuple #[.agg #[.bool false, .slice none 0 0], .bool false]) (by simp [results, Tryz.results76, go_sem]) rfl ⟨(Below.refl _ _).alloc (Nat.le_refl _) _, .inr ⟨HN.out, rfl⟩⟩
  · have h2i : (s.size : Int) ≤ 20000 := by omega
    have hrs := rest_size s
    obtain ⟨r, hr⟩ : ∃ r, (⟨(restL s.data.toList).toArray⟩ : ByteArray) = r := ⟨_, rfl⟩
    have hrd : r.data.toList = restL s.data.toList := by rw [← hr]
    rw [hr] at hrs
    obtain ⟨d, hd⟩ : ∃ d, deepL s.data.toList = d := ⟨_, rfl⟩
    obtain ⟨m, hm⟩ : ∃ m, cntN r.data.toList = m := ⟨_, rfl⟩
    have hml : m ≤ r.size + 1 := by rw [← hm, ← len_data r]; exact sg_len _ _
    have C1 : Hid (∀ w, Calls Tryz.prog 112 #[.string s, .string ⟨#[47, 47]⟩] w fun e w' => e = .returned (.tuple #[.string r, .bool d]) ∧ w' = w) := hide fun w => by
      refine (Tryz.strings_CutPrefix s ⟨#[47, 47]⟩ w).mono ?_
      rintro e w' ⟨rfl, rfl⟩
      refine ⟨?_, rfl⟩
      rw [← hr, ← hd]
      rfl
    have hM1 : MaxL (w.alloc (.cells #[.bool false, .slice none 0 0] 69)) := maxL_go hM ((Below.refl _ _).alloc (Nat.le_refl _) _) (Nat.le_refl _)
    have C2 := hide (c_split r _ (by omega) hM1 m hm)
    have HRD := hide hrd
    have HD := hide hd
    have HMM := hide hm
    have hm6 : m ≤ maxLen := by unfold maxLen; omega
    have hps : (sg [] r.data.toList).length = m := hm
    have HPS := hide hps
    have HPZ : Hid (∀ j, j < m → ((⟨((sg [] r.data.toList)[j]?.getD []).toArray⟩ : ByteArray)).size ≤ maxLen) := hide fun j hj => by
      have hj2 : j < (sg [] r.data.toList).length := by omega
      have h := piece_size [] _ (List.getElem_mem hj2)
      rw [List.getElem?_eq_getElem hj2]
      show ((sg [] r.data.toList)[j].toArray).size ≤ maxLen
      rw [List.size_toArray]
      rw [len_data] at h
      simp at h
      unfold maxLen
      omega
    clear hM hM1 hr hrd hd hm hps hrs
    go_enter Tryz.func76, Tryz.ntmps76
    go_wp2_with (first | (go_at_call 112; refine (C1.out _).mono ?_; rintro e w9 ⟨rfl, h9⟩; rw [h9]; clear h9 w9))
    refine C2.out.mono ?_
    rintro e w2 ⟨rfl, ho2, hb2⟩
    have hsz : (w.alloc (.cells #[.bool false, .slice none 0 0] 69)).heap.size = w.heap.size + 1 := by simp
    have HK := hide (cellsAt_go (cellsAt_new w #[.bool false, .slice none 0 0] 69) hb2 (by simp))
    have HB := hide (gBox_below hb2)
    rw [hsz] at ho2 ⊢
    have HO := hide ho2
    clear ho2 hb2 hsz
    by_cases h6 : 6 < m
    · have h6i : (6 : Int) < m := by omega
      have HN : Hid (routeB s = false) := hide (route_no2 (by rw [← HRD.out, HMM.out]; exact h6))
      have a0 := cellsAt_cell HK.out 0
      have a1 := cellsAt_cell HK.out 1
      have f0 := cellsAt_frozen HK.out
      go_wp2
      have hk := cellsAt_set (i := 1) (cellsAt_set (i := 0) HK.out (.bool false)) (.slice none 0 0)
      have q0 := cellsAt_cell hk 0
      have q1 := cellsAt_cell hk 1
      refine bodyPost_ret (v := .tuple #[.agg #[.bool false, .slice none 0 0], .bool false]) (by simp [results, Tryz.results76, go_sem, q0, q1]) rfl ⟨(HB.out.setCell (Nat.le_refl _) _).setCell (Nat.le_refl _) _, .inr ⟨HN.out, rfl⟩⟩
    · have h6i : (m : Int) ≤ 6 := by omega
      go_wp2
      go_loop [26] (fun i => ∃ k : Nat, k ≤ m ∧ i = .int .i64 k ∧ Hid (∀ j, j < k → nameB ⟨((sg [] r.data.toList)[j]?.getD []).toArray⟩ = true)) (fun i => m - (intOf i).toNat)
      case atStart => exact ⟨0, Nat.zero_le _, rfl, fun j h => by omega⟩
      case round =>
        obtain ⟨k, hk, rfl, HA⟩ := hrel
        have a0 := cellsAt_cell HK.out 0
        have a1 := cellsAt_cell HK.out 1
        have f0 := cellsAt_frozen HK.out
        by_cases hlt : k < m
        · have hc : w2.cell? ⟨w.heap.size + 1, k, none⟩ = some (.string ⟨((sg [] r.data.toList)[k]?.getD []).toArray⟩) := by
            rw [HO.out.cellAt k (by omega)]
            exact strV_get _ _ (by rw [HPS.out]; exact hlt)
          have hz := HPZ.out k hlt
          cases hn : nameB ⟨((sg [] r.data.toList)[k]?.getD []).toArray⟩
          · have HN : Hid (routeB s = false) := hide (route_no3 (by rw [← HRD.out]; exact not_names (by rw [HPS.out]; exact hlt) hn))
            obtain ⟨P, hP⟩ : ∃ P : ByteArray, ⟨((sg [] r.data.toList)[k]?.getD []).toArray⟩ = P := ⟨_, rfl⟩
            rw [hP] at hc hz hn
            clear hP
            go_wp2_with (first | (go_at_call 68; refine (i_name _ _ hz).mono ?_; rintro e w9 ⟨rfl, h9⟩; rw [h9, hn]; clear h9 w9))
            have hk9 := cellsAt_set (i := 1) (cellsAt_set (i := 0) HK.out (.bool false)) (.slice none 0 0)
            have q0 := cellsAt_cell hk9 0
            have q1 := cellsAt_cell hk9 1
            refine bodyPost_ret (v := .tuple #[.agg #[.bool false, .slice none 0 0], .bool false]) (by simp [results, Tryz.results76, go_sem, q0, q1]) rfl ⟨(HB.out.setCell (Nat.le_refl _) _).setCell (Nat.le_refl _) _, .inr ⟨HN.out, rfl⟩⟩
          · have HN := hide hn
            obtain ⟨P, hP⟩ : ∃ P : ByteArray, ⟨((sg [] r.data.toList)[k]?.getD []).toArray⟩ = P := ⟨_, rfl⟩
            rw [hP] at hc hz hn
            clear hP
            go_wp2_with (first | (go_at_call 68; refine (i_name _ _ hz).mono ?_; rintro e w9 ⟨rfl, h9⟩; rw [h9, hn]; clear h9 w9))
            go_round
            case rel =>
              refine ⟨k + 1, by omega, by go_num, fun j hj => ?_⟩
              by_cases e : j = k
              · subst e; exact HN.out
              · exact HA.out j (by omega)
            case measure => simp [intOf]; omega
        · have hkm : k = m := by omega
          subst hkm
          have HY : Hid (routeB s = true) := hide (route_yes (by omega) (by rw [← HRD.out, HMM.out]; omega) (by rw [← HRD.out]; exact all_names HPS.out HA.out))
          go_wp2
          have hk9 := cellsAt_set (i := 1) (cellsAt_set (i := 0) HK.out (.bool d)) (.slice (some ⟨w.heap.size + 1, 0, none⟩) k k)
          have q0 := cellsAt_cell hk9 0
          have q1 := cellsAt_cell hk9 1
          refine bodyPost_ret (v := .tuple #[.agg #[.bool d, .slice (some ⟨w.heap.size + 1, 0, none⟩) k k], .bool true]) (by simp [results, Tryz.results76, go_sem, q0, q1]) rfl ⟨(HB.out.setCell (Nat.le_refl _) _).setCell (Nat.le_refl _) _, .inl ⟨HY.out, some ⟨w.heap.size + 1, 0, none⟩, k, ?_, ?_⟩⟩
          · rw [← HRD.out, HMM.out, HD.out]
          · rw [← HRD.out, HMM.out]
            refine gOwn_lower (B := w.heap.size + 1) ?_ (Nat.le_succ _)
            exact gOwn_set (gOwn_set HO.out _ _ (by simp [Value.ownBlock])) _ _ (by simp [Value.ownBlock])
end Go.Proofs.YtfbahffljhnjbaaGreatDoor
