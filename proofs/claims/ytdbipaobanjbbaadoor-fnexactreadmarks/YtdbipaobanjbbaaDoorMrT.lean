/-
  Contracts of the laws' helpers on rows of marks: marks on all places, and that they stand.
-/
import Derived.Test.YtdbipaobanjbbaaDoorMrR
import Derived.Test.YtdbipaobanjbbaaDoorMkD
namespace Go.Proofs.YtdbipaobanjbbaaDoor
open Go.RowKit Go.Joins
set_option linter.unusedVariables false
set_option linter.unusedSimpArgs false
def mkF : Nat → Int → ByteArray → ByteArray
  | 0, x, s => s
  | f + 1, x, s => if 0 < x then mkF f (x / 10) (strOfNums [48 + x % 10] ++ s) else s
theorem mkF_more : ∀ (f g : Nat) (x : Int) (s : ByteArray), x < f → x < g → mkF f x s = mkF g x s
  | 0, 0, x, s, h1, h2 => rfl
  | 0, g + 1, x, s, h1, h2 => by rw [mkF, mkF, if_neg (by omega)]
  | f + 1, 0, x, s, h1, h2 => by rw [mkF, mkF, if_neg (by omega)]
  | f + 1, g + 1, x, s, h1, h2 => by
    rw [mkF, mkF]
    split
    · exact mkF_more f g _ _ (by omega) (by omega)
    · rfl
def mkX (x : Int) (s : ByteArray) : ByteArray := mkF (x.toNat + 1) x s
theorem mkX_no {x : Int} {s : ByteArray} (h : ¬ 0 < x) : mkX x s = s := by unfold mkX; rw [mkF, if_neg h]
theorem mkX_yes {x : Int} {s : ByteArray} (h : 0 < x) : mkX x s = mkX (x / 10) (strOfNums [48 + x % 10] ++ s) := by
  unfold mkX
  rw [mkF, if_pos h]
  exact mkF_more _ _ _ _ (by omega) (by omega)
def mkT (k : Int) : ByteArray := ⟨#[109]⟩ ++ mkX k ⟨#[]⟩
set_option maxHeartbeats 1000000 in
theorem l_mtV (k : Int) (w : World) (h0 : 1 ≤ k) (h1 : k ≤ 1099511627776) : Calls Tryd.prog 16 #[.int .i64 k] w fun e w' => e = .returned (.string (mkT k)) ∧ Below w.heap.size w w' := by
  go_enter Tryd.func16, Tryd.ntmps16
  go_wp2
  go_loopw [0, 3] (fun kv sv wr => ∃ (x : Int) (s : ByteArray), kv = .int .i64 x ∧ sv = .string s ∧ 0 ≤ x ∧ (s.size : Int) + x ≤ k ∧ Below w.heap.size w wr ∧ Hid (mkX x s = mkX k ⟨#[]⟩)) (fun kv _ _ => (intOf kv).toNat)
  case atStart => exact ⟨k, ⟨#[]⟩, rfl, rfl, by omega, by show ((0 : Nat) : Int) + k ≤ k; omega, Below.refl _ _, hide rfl⟩
  case round =>
    obtain ⟨x, s, rfl, rfl, hx0, hx1, hb, HM⟩ := hrel
    by_cases hx : 0 < x
    · have hcv := conv_new wr [48 + x % 10]
      have hos := one_size (48 + x % 10)
      have HM2 := hide ((mkX_yes hx (s := s)).symm.trans HM.out)
      obtain ⟨o, ho⟩ : ∃ o, strOfNums [48 + x % 10] = o := ⟨_, rfl⟩
      rw [ho] at hcv hos HM2
      simp only [List.map_cons, List.map_nil, List.length_cons, List.length_nil, Nat.zero_add] at hcv
      have hS1 : ¬ 9223372036854775807 < o.size + s.size := by omega
      have HOS := hide hos
      have HB := hide hb
      clear ho hos hb
      go_wp2
      go_roundw
      case rel => exact ⟨x / 10, o ++ s, rfl, rfl, by omega, by rw [ByteArray.size_append, HOS.out]; omega, HB.out.alloc HB.out.size _, HM2⟩
      case measure => simp [intOf]; omega
    · have hS1 : ¬ 9223372036854775807 < 1 + s.size := by omega
      have HV : Hid (mkT k = ⟨#[109]⟩ ++ s) := hide (by unfold mkT; rw [← HM.out, mkX_no hx])
      go_wp2
      go_ret
      exact ⟨by rw [HV.out]; rfl, hb⟩
/-- The j-th mark that the laws write. -/
def mkM (K : Int) : Mr := ⟨(K % 3 == 0), K + 1, mkT (K + 1 + 1), ((K + 1 + 1 + 1) % 3 == 0), ((K + 1 + 1 + 1 + 1) % 3 == 0)⟩
/-- Marks on the first i places. -/
def mkN : Nat → List Mr
  | 0 => []
  | i + 1 => mkN i ++ [mkM ((1 + 5 * i : Nat) : Int)]
theorem mkN_len : ∀ i, (mkN i).length = i
  | 0 => rfl
  | i + 1 => by rw [mkN, List.length_append, mkN_len i]; rfl
theorem mkN_at : ∀ (n j : Nat), j < n → mrA (mkN n) j = mkM ((1 + 5 * j : Nat) : Int)
  | 0, j, h => absurd h (Nat.not_lt_zero j)
  | n + 1, j, h => by
    unfold mrA
    rw [mkN]
    by_cases e : j < n
    · rw [List.getElem?_append_left (by rw [mkN_len]; exact e)]
      exact mkN_at n j e
    · have e2 : j = n := by omega
      subst e2
      rw [List.getElem?_append_right (by rw [mkN_len]; exact Nat.le_refl _), mkN_len, Nat.sub_self]
      rfl
/-- One cell put anew. -/
theorem fm_set {m' : Mr} {v : Value} : ∀ (L : List Mr) (i c : Nat), c < 5 → i < L.length → mrV m' = (mrV (mrA L i)).set c v → (L.flatMap mrV).set (i * 5 + c) v = (L.set i m').flatMap mrV
  | [], i, c, _, hi, _ => by simp at hi
  | m :: L, 0, c, hc, hi, h => by
    have e : mrA (m :: L) 0 = m := rfl
    rw [e] at h
    rw [List.flatMap_cons, Nat.zero_mul, Nat.zero_add, List.set_append_left _ _ (by show c < 5; exact hc), List.set_cons_zero, List.flatMap_cons, h]
  | m :: L, i + 1, c, hc, hi, h => by
    have hl : (mrV m).length = 5 := rfl
    rw [List.flatMap_cons, List.set_append_right _ _ (by omega), hl, show (i + 1) * 5 + c - 5 = i * 5 + c by omega, fm_set L i c hc (by simpa using hi) h, List.set_cons_succ, List.flatMap_cons]
theorem mrA_set {L : List Mr} {i : Nat} {m : Mr} (h : i < L.length) : mrA (L.set i m) i = m := by
  unfold mrA
  rw [List.getElem?_set_self h]
  rfl
theorem fm_set5 (M : List Mr) (j : Nat) (x : Mr) (hj : j < M.length) : ((((((M.flatMap mrV).set (j * 5) (.bool x.g)).set (j * 5 + 1) (.int .i64 x.dc)).set (j * 5 + 2) (.string x.vl)).set (j * 5 + 3) (.bool x.nl)).set (j * 5 + 4) (.bool x.gv)) = (M.set j x).flatMap mrV := by
  obtain ⟨m, hm⟩ : ∃ m, mrA M j = m := ⟨_, rfl⟩
  have e1 := fm_set (m' := ⟨x.g, m.dc, m.vl, m.nl, m.gv⟩) (v := .bool x.g) M j 0 (by omega) hj (by rw [hm]; rfl)
  rw [Nat.add_zero] at e1
  rw [e1]
  have e2 := fm_set (m' := ⟨x.g, x.dc, m.vl, m.nl, m.gv⟩) (v := .int .i64 x.dc) (M.set j ⟨x.g, m.dc, m.vl, m.nl, m.gv⟩) j 1 (by omega) (by rw [List.length_set]; exact hj) (by rw [mrA_set hj]; rfl)
  rw [e2, List.set_set]
  have e3 := fm_set (m' := ⟨x.g, x.dc, x.vl, m.nl, m.gv⟩) (v := .string x.vl) (M.set j ⟨x.g, x.dc, m.vl, m.nl, m.gv⟩) j 2 (by omega) (by rw [List.length_set]; exact hj) (by rw [mrA_set hj]; rfl)
  rw [e3, List.set_set]
  have e4 := fm_set (m' := ⟨x.g, x.dc, x.vl, x.nl, m.gv⟩) (v := .bool x.nl) (M.set j ⟨x.g, x.dc, x.vl, m.nl, m.gv⟩) j 3 (by omega) (by rw [List.length_set]; exact hj) (by rw [mrA_set hj]; rfl)
  rw [e4, List.set_set]
  have e5 := fm_set (m' := x) (v := .bool x.gv) (M.set j ⟨x.g, x.dc, x.vl, x.nl, m.gv⟩) j 4 (by omega) (by rw [List.length_set]; exact hj) (by rw [mrA_set hj]; rfl)
  rw [e5, List.set_set]
theorem mkN_set (L : List Mr) (n j : Nat) (hn : L.length = n) (hj : j < n) : (mkN j ++ L.drop j).set j (mkM ((1 + 5 * j : Nat) : Int)) = mkN (j + 1) ++ L.drop (j + 1) := by
  rw [List.set_append_right _ _ (by rw [mkN_len]; exact Nat.le_refl _), mkN_len, Nat.sub_self]
  have hd : L.drop j = L[j]'(by omega) :: L.drop (j + 1) := List.drop_eq_getElem_cons (by omega)
  rw [hd, List.set_cons_zero, mkN, List.append_assoc]
  rfl
set_option maxRecDepth 100000 in
set_option maxHeartbeats 4000000 in
theorem markMk_some (B g n c : Nat) (L : List Mr) (w : World) (hx : L.length = n) (hn : n ≤ 1048576) (hBg : B ≤ g) (hBw : B ≤ w.heap.size) (hown : w.ownsRow B 29 5 (.slice (some ⟨g, 0, none⟩) n c) n (L.flatMap mrV)) :
    Calls Tryd.prog 7 #[.slice (some ⟨g, 0, none⟩) n c, .int .i64 1] w fun e w' => e = .returned (.int .i64 (1 + 5 * n : Nat)) ∧
      w'.ownsRow B 29 5 (.slice (some ⟨g, 0, none⟩) n c) n ((mkN n).flatMap mrV) ∧ Below B w w' := by
  have HX := hide hx
  have HO := hide hown
  clear hown hx
  go_enter Tryd.func7, Tryd.ntmps7
  go_wp2
  go_loopw [1, 5] (fun k i wr => ∃ j : Nat, j ≤ n ∧ i = .int .i64 j ∧ k = .int .i64 ((1 + 5 * j : Nat) : Int) ∧ wr.ownsRow B 29 5 (.slice (some ⟨g, 0, none⟩) n c) n ((mkN j ++ L.drop j).flatMap mrV) ∧ Below B w wr) (fun _ i _ => n - (intOf i).toNat)
  case atStart => exact ⟨0, Nat.zero_le _, rfl, rfl, HO.out, Below.refl _ _⟩
  case round =>
    obtain ⟨j, hj, rfl, rfl, hown, hb⟩ := hrel
    by_cases hlt : j < n
    · have hji : (j : Int) < (n : Int) := by omega
      have hj0 : (0 : Int) ≤ (j : Int) := by omega
      have HB := hide hb
      have hML : (mkN j ++ L.drop j).length = n := by rw [List.length_append, mkN_len, List.length_drop, HX.out]; omega
      have HSET := hide (fm_set5 (mkN j ++ L.drop j) j (mkM ((1 + 5 * j : Nat) : Int)) (by omega))
      rw [mkN_set L n j HX.out hlt] at HSET
      have hcc : ∀ i, i < 5 → ∃ v, wr.cell? ⟨g, j * 5 + i, none⟩ = some v := fun i hi5 => by
        rw [hown.cellAt (j * 5 + i) (by omega)]
        exact ⟨_, List.getElem?_eq_getElem (by rw [mr_len, hML]; omega)⟩
      obtain ⟨v0, c0⟩ := hcc 0 (by omega)
      obtain ⟨v1, c1⟩ := hcc 1 (by omega)
      rw [Nat.add_zero] at c0
      have f0 := hown.frozenAt (j * 5)
      have f1 := hown.frozenAt (j * 5 + 1)
      obtain ⟨K, hK⟩ : ∃ K : Int, ((1 + 5 * j : Nat) : Int) = K := ⟨_, rfl⟩
      have hK1 : 1 ≤ K := by omega
      have hK2 : K ≤ 5242881 := by omega
      have HKE := hide hK
      have s1 := (hown.stored (j * 5) (.bool (mkM K).g)).1
      have s2 := hide ((s1.stored (j * 5 + 1) (.int .i64 (mkM K).dc)).1)
      rw [hK] at HSET ⊢
      obtain ⟨xs, hxs⟩ : ∃ xs, (mkN j ++ L.drop j).flatMap mrV = xs := ⟨_, rfl⟩
      have hxl : xs.length = n * 5 := by rw [← hxs, mr_len, hML]
      rw [hxs] at s2 HSET
      clear hown hb hcc s1 hML hxs hK
      unfold mkM at s2 HSET
      dsimp only at s2 HSET
      go_wp2_with fail
      refine (l_mtV _ _ (by omega) (by omega)).mono ?_
      rintro e w2 ⟨rfl, hb2⟩
      have s3 := gOwn_after s2.out hb2
      have hcc : ∀ i, i < 5 → ∃ v, w2.cell? ⟨g, j * 5 + i, none⟩ = some v := fun i hi5 => by
        rw [s3.cellAt (j * 5 + i) (by omega)]
        exact ⟨_, List.getElem?_eq_getElem (by rw [List.length_set, List.length_set, hxl]; omega)⟩
      obtain ⟨v2, c2⟩ := hcc 2 (by omega)
      obtain ⟨v3, c3⟩ := hcc 3 (by omega)
      obtain ⟨v4, c4⟩ := hcc 4 (by omega)
      have f2 := s3.frozenAt (j * 5 + 2)
      have f3 := s3.frozenAt (j * 5 + 3)
      have f4 := s3.frozenAt (j * 5 + 4)
      have s5 := (((s3.stored (j * 5 + 2) (.string (mkT (K + 1 + 1)))).1.stored (j * 5 + 3) (.bool ((K + 1 + 1 + 1) % 3 == 0))).1.stored (j * 5 + 4) (.bool ((K + 1 + 1 + 1 + 1) % 3 == 0))).1
      rw [HSET.out] at s5
      have S5 := hide s5
      have HB2 := hide (((HB.out.setCell (p := ⟨g, j * 5, none⟩) hBg (.bool (K % 3 == 0))).setCell (p := ⟨g, j * 5 + 1, none⟩) hBg (.int .i64 (K + 1))).trans (hb2.mono (by simp; exact Nat.le_trans hBw HB.out.size)))
      clear s3 hcc s5 hb2 c0 c1 f0 f1 hxl
      go_wp2
      go_roundw
      case rel => exact ⟨j + 1, by omega, by go_num, congrArg (Value.int .i64) (by have := HKE.out; omega), S5.out, ((HB2.out.setCell (p := ⟨g, j * 5 + 2, none⟩) hBg _).setCell (p := ⟨g, j * 5 + 3, none⟩) hBg _).setCell (p := ⟨g, j * 5 + 4, none⟩) hBg _⟩
      case measure => simp [intOf]; omega
    · have hkn : j = n := by omega
      subst hkn
      have hfull : mkN j ++ L.drop j = mkN j := by rw [List.drop_of_length_le (by rw [HX.out]; exact Nat.le_refl _), List.append_nil]
      rw [hfull] at hown
      have HO2 := hide hown
      have HB := hide hb
      clear hown hb
      go_wp2
      go_ret
      exact ⟨rfl, HO2.out, HB.out⟩
theorem markMk_any (B : Nat) (ad : Option Addr) (n c : Nat) (L : List Mr) (w : World) (hn : n ≤ 1048576) (hBw : B ≤ w.heap.size) (h : MrO B w ad n c L) :
    Calls Tryd.prog 7 #[.slice ad n c, .int .i64 1] w fun e w' => e = .returned (.int .i64 (1 + 5 * n : Nat)) ∧ MrO B w' ad n c (mkN n) ∧ Below B w w' := by
  rcases h.1.2 with ⟨hv, h0⟩ | ⟨g, cap, cur, hv, hB, -⟩
  · subst h0
    simp only [Value.slice.injEq] at hv
    obtain ⟨rfl, -, rfl⟩ := hv
    go_enter Tryd.func7, Tryd.ntmps7
    go_wp2
    go_loop [1, 5] (fun k i => k = .int .i64 1 ∧ i = .int .i64 0) (fun _ _ => 0)
    case atStart => exact ⟨rfl, rfl⟩
    case round =>
      obtain ⟨rfl, rfl⟩ := hrel
      go_wp2
      go_ret
      exact ⟨rfl, mrO_nil _ _, Below.refl _ _⟩
  · simp only [Value.slice.injEq] at hv
    obtain ⟨rfl, -, rfl⟩ := hv
    refine (markMk_some B g n c L w h.2 hn hB hBw h.1).mono ?_
    rintro e w' ⟨h1, h2, h3⟩
    exact ⟨h1, ⟨h2, mkN_len n⟩, h3⟩
end Go.Proofs.YtdbipaobanjbbaaDoor
