/-
  Contract: the specification's right number of digits and a scale.
-/
import Derived.Test.YtdglamiifcagoacDoorDecTo
import Derived.Test.YtdglamiifcagoacDoorNormCut
import Derived.OwnWalk
import Derived.RegionTactic
import Derived.Deep.QuietTactic
import Derived.BigQuiet
import Derived.Deep.Draws
namespace Go.Proofs.YtdglamiifcagoacDoor
open Go.RowKit
set_option linter.unusedSimpArgs false
set_option linter.unusedVariables false
def strSzN : Value → Nat | .string s => s.size | _ => 0
/-- What is handed back: a number and whether there is one. -/
def resV (r : Bool × ByteArray × Int × Bool) : Value := .tuple #[.agg #[.bool r.1, .string r.2.1, .int .i64 r.2.2.1], .bool r.2.2.2]
theorem dec_zero : decB false (⟨#[]⟩ : ByteArray) 0 = true := by rw [decB_none _ _ _ rfl]; rfl
theorem res_frozen {w w1 : World} {xs ys : Array Value} {T U : TypeId} (h : Below ((w.alloc (.cells xs T)).alloc (.cells ys U)).heap.size ((w.alloc (.cells xs T)).alloc (.cells ys U)) w1) :
    w1.frozen? ⟨w.heap.size, 0, none⟩ = false ∧ w1.frozen? ⟨w.heap.size, 1, none⟩ = false ∧ w1.frozen? ⟨w.heap.size, 2, none⟩ = false := by
  have hb : ((w.alloc (.cells xs T)).alloc (.cells ys U)).heap[w.heap.size]? = some (.cells xs T (0, 0)) := by
    rw [((Below.refl (w.alloc (.cells xs T)).heap.size (w.alloc (.cells xs T))).alloc (Nat.le_refl _) (.cells ys U)).block w.heap.size (by simp)]
    exact heap_alloc_new w _
  have e : ∀ i, w1.frozen? ⟨w.heap.size, i, none⟩ = false := fun i => by
    rw [h.frozen (p := ⟨w.heap.size, i, none⟩) (by simp; omega)]
    exact frozen_of_row _ w.heap.size i _ T hb
  exact ⟨e 0, e 1, e 2⟩
theorem set_three {w1 : World} {G : Nat} {a b c : Value} {T : TypeId} (h : w1.heap[G]? = some (.cells #[a, b, c] T (0, 0))) (x y z : Value) :
    (((w1.setCell ⟨G, 0, none⟩ x).setCell ⟨G, 1, none⟩ y).setCell ⟨G, 2, none⟩ z).cell? ⟨G, 0, none⟩ = some x ∧ (((w1.setCell ⟨G, 0, none⟩ x).setCell ⟨G, 1, none⟩ y).setCell ⟨G, 2, none⟩ z).cell? ⟨G, 1, none⟩ = some y ∧ (((w1.setCell ⟨G, 0, none⟩ x).setCell ⟨G, 1, none⟩ y).setCell ⟨G, 2, none⟩ z).cell? ⟨G, 2, none⟩ = some z := by
  have h1 := heap_setCell_same w1 G 0 _ T x h
  have h2 := heap_setCell_same _ G 1 _ T y h1
  have h3 := heap_setCell_same _ G 2 _ T z h2
  refine ⟨?_, ?_, ?_⟩ <;> rw [cell_of_row _ G _ _ T (0, 0) h3] <;> rfl
theorem res_done {w w1 : World} {a b c : Value} {ys : Array Value} {T U : TypeId} (h : Below ((w.alloc (.cells #[a, b, c] T)).alloc (.cells ys U)).heap.size ((w.alloc (.cells #[a, b, c] T)).alloc (.cells ys U)) w1) (x y z : Value) :
    (((w1.setCell ⟨w.heap.size, 0, none⟩ x).setCell ⟨w.heap.size, 1, none⟩ y).setCell ⟨w.heap.size, 2, none⟩ z).cell? ⟨w.heap.size, 0, none⟩ = some x ∧ (((w1.setCell ⟨w.heap.size, 0, none⟩ x).setCell ⟨w.heap.size, 1, none⟩ y).setCell ⟨w.heap.size, 2, none⟩ z).cell? ⟨w.heap.size, 1, none⟩ = some y ∧ (((w1.setCell ⟨w.heap.size, 0, none⟩ x).setCell ⟨w.heap.size, 1, none⟩ y).setCell ⟨w.heap.size, 2, none⟩ z).cell? ⟨w.heap.size, 2, none⟩ = some z := by
  refine set_three (a := a) (b := b) (c := c) (T := T) ?_ x y z
  rw [h.block w.heap.size (by simp; omega), ((Below.refl (w.alloc (.cells #[a, b, c] T)).heap.size (w.alloc (.cells #[a, b, c] T))).alloc (Nat.le_refl _) (.cells ys U)).block w.heap.size (by simp)]
  exact heap_alloc_new w _
theorem below_three {w w1 : World} (h : Below w.heap.size w w1) (x y z : Value) : Below w.heap.size w (((w1.setCell ⟨w.heap.size, 0, none⟩ x).setCell ⟨w.heap.size, 1, none⟩ y).setCell ⟨w.heap.size, 2, none⟩ z) :=
  ((h.setCell (Nat.le_refl _) _).setCell (Nat.le_refl _) _).setCell (Nat.le_refl _) _
theorem empty_of (t : ByteArray) (h : t.size = 0) : t = ⟨#[]⟩ := ByteArray.size_eq_zero_iff.1 h
theorem ne_list (t : ByteArray) (h : 0 < t.size) : t.toList.isEmpty = false := by
  rw [ByteArray.toList_eq]
  cases hq : t.data.toList with
  | nil => have hl : t.data.toList.length = t.size := by simp
           rw [hq] at hl; simp at hl; omega
  | cons a l => rfl
theorem res_zero {n : Bool} {t : ByteArray} {k v c : Nat} (h : decRes n v c = if t.size = 0 then (false, ByteArray.empty, 0, true) else if decB n t (k : Int) = true then (n, t, (k : Int), true) else (false, ByteArray.empty, 0, false)) (h0 : t.size = 0) : decRes n v c = (false, ByteArray.empty, 0, true) := by rw [h, if_pos h0]
theorem res_yes {n : Bool} {t : ByteArray} {k v c : Nat} (h : decRes n v c = if t.size = 0 then (false, ByteArray.empty, 0, true) else if decB n t (k : Int) = true then (n, t, (k : Int), true) else (false, ByteArray.empty, 0, false)) (h0 : ¬ t.size = 0) (hb : decB n t (k : Int) = true) : decRes n v c = (n, t, (k : Int), true) := by rw [h, if_neg h0, if_pos hb]
theorem res_no {n : Bool} {t : ByteArray} {k v c : Nat} (h : decRes n v c = if t.size = 0 then (false, ByteArray.empty, 0, true) else if decB n t (k : Int) = true then (n, t, (k : Int), true) else (false, ByteArray.empty, 0, false)) (h0 : ¬ t.size = 0) (hb : decB n t (k : Int) = false) : decRes n v c = (false, ByteArray.empty, 0, false) := by rw [h, if_neg h0, if_neg (by rw [hb]; simp)]
set_option maxHeartbeats 2000000 in
theorem s_norm (n : Bool) (t : ByteArray) (c : Int) (w : World) (ht : t.size ≤ 400) (hd : dgL t.data.toList) (hc0 : 0 ≤ c) (hc1 : c ≤ 200) :
    Calls Tryd.prog 16 #[.bool n, .string t, .int .i64 c] w fun e w' => e = .returned (resV (decRes n (valL t.data.toList) c.toNat)) ∧ Below w.heap.size w w' := by
  have HD := hide hd
  clear hd
  obtain ⟨v, hv⟩ : ∃ v, valL t.data.toList = v := ⟨_, rfl⟩
  obtain ⟨q, hq⟩ : ∃ q, c.toNat = q := ⟨_, rfl⟩
  obtain ⟨R, hR⟩ : ∃ R, decRes n v q = R := ⟨_, rfl⟩
  rw [hv, hq, hR]
  have HV := hide (show canonV (valL t.data.toList) c.toNat = canonV v q by rw [hv, hq])
  have HR := hide hR
  clear hv hq hR
  go_enter Tryd.func16, Tryd.ntmps16
  go_wp2
  go_loop [1, 2] (fun vt vc => ∃ (u : ByteArray) (k : Nat), vt = .string u ∧ vc = .int .i64 k ∧ u.size ≤ 400 ∧ k ≤ 200 ∧ Hid (dgL u.data.toList) ∧ Hid (canonV (valL u.data.toList) k = canonV v q)) (fun _ vc => (intOf vc).toNat)
  case atStart => exact ⟨t, c.toNat, rfl, by rw [show ((c.toNat : Nat) : Int) = c by omega], ht, by omega, HD, HV⟩
  case round =>
    clear HD HV
    obtain ⟨u, k, rfl, rfl, hu, hk, HD, HV⟩ := hrel
    rcases (show k = 0 ∨ (0 < k ∧ u.size = 0) ∨ (0 < k ∧ 0 < u.size) by omega) with hk0 | ⟨hk0, hu0⟩ | ⟨hk0, hu0⟩
    · subst hk0
      go_wp2
      have HL : Hid (0 = 0 ∨ (u : ByteArray).size = 0 ∨ ∀ a b, (u : ByteArray).data.toList = a ++ [b] → b.toNat ≠ 48) := hide (.inl rfl)
      go_loop [1] (fun vt => ∃ x : ByteArray, vt = .string x ∧ x.size ≤ 400 ∧ Hid (dgL x.data.toList) ∧ Hid (canonV (valL x.data.toList) 0 = canonV v q) ∧ Hid (0 = 0 ∨ x.size = 0 ∨ ∀ a b, x.data.toList = a ++ [b] → b.toNat ≠ 48)) (fun vt => strSzN vt)
      case atStart => exact ⟨u, rfl, hu, HD, HV, HL⟩
      case round =>
        obtain ⟨x, rfl, hx, HDx, HVx, HLx⟩ := hrel
        clear HL HD HV
        rcases (show x.size = 0 ∨ 0 < x.size by omega) with hx0 | hx0
        · have HF := hide (res_zero (norm_exit n x 0 v q HDx.out (first_ne x (.inl hx0)) HLx.out HVx.out) hx0)
          have := empty_of x hx0
          subst this
          go_wp2_with fail
          refine (s_decok false ⟨#[]⟩ 0 _ (by simp [ByteArray.size])).mono ?_
          rintro e w1 ⟨rfl, hb1⟩
          obtain ⟨hx1, hx2, hbb⟩ := boxed_two hb1
          obtain ⟨f0, f1, f2⟩ := res_frozen hb1
          have HB := hide hbb
          obtain ⟨a0, a1, a2, a3⟩ := hx1
          obtain ⟨b0, b1, b2, b3⟩ := hx2
          have HC := hide (res_done hb1 (.bool false) (.string ⟨#[]⟩) (.int .i64 0))
          clear hb1 hbb
          have hdz := dec_zero
          have HRE : Hid (R = (false, ByteArray.empty, 0, true)) := hide (HR.out.symm.trans HF.out)
          go_wp2
          obtain ⟨c0, c1, c2⟩ := HC.out
          exact bodyPost_ret (v := .tuple #[.agg #[.bool false, .string ⟨#[]⟩, .int .i64 0], .bool true]) (by simp [results, Tryd.results16, go_sem, c0, c1, c2]) rfl ⟨by rw [HRE.out]; rfl, below_three HB.out _ _ _⟩
        · have hxe := ne_list x hx0
          by_cases hz2 : (x[0].toNat : Int) = 48
          · obtain ⟨g1, g2, g3⟩ := cut_first x hx0 HDx.out hz2
            have G1 := hide g1
            have G2 : Hid (canonV (valL (x.extract 1 x.size).data.toList) 0 = canonV v q) := hide (by rw [g2]; exact HVx.out)
            have G3 : Hid (0 = 0 ∨ (x.extract 1 x.size).size = 0 ∨ ∀ a b, (x.extract 1 x.size).data.toList = a ++ [b] → b.toNat ≠ 48) := hide (by
              rcases HLx.out with h | h | h
              · exact .inl h
              · omega
              · exact .inr (g3 h))
            clear g1 g2 g3
            go_wp2
            go_round
            case rel => exact ⟨_, rfl, by simp; omega, G1, G2, hide (by first | exact G3.out | exact .inl trivial)⟩
            case measure => simp [strSzN]; omega
          · have hzb2 : ((x[0].toNat : Int) == 48) = false := by simpa using hz2
            have HF := hide (norm_exit n x 0 v q HDx.out (first_ne x (.inr ⟨hx0, hz2⟩)) HLx.out HVx.out)
            go_wp2_with fail
            refine (s_decok n x 0 _ (by unfold maxLen; omega)).mono ?_
            rintro e w1 ⟨rfl, hb1⟩
            obtain ⟨hx1, hx2, hbb⟩ := boxed_two hb1
            obtain ⟨f0, f1, f2⟩ := res_frozen hb1
            have HB := hide hbb
            obtain ⟨a0, a1, a2, a3⟩ := hx1
            obtain ⟨b0, b1, b2, b3⟩ := hx2
            have HC := hide (res_done hb1 (.bool false) (.string ⟨#[]⟩) (.int .i64 0))
            have HC2 := hide (res_done hb1 (.bool n) (.string x) (.int .i64 (0 : Int)))
            clear hb1 hbb
            cases hdb : decB n x (0 : Int)
            · have HRE : Hid (R = (false, ByteArray.empty, 0, false)) := hide (HR.out.symm.trans (res_no HF.out (by omega) hdb))
              go_wp2
              obtain ⟨c0, c1, c2⟩ := HC.out
              exact bodyPost_ret (v := .tuple #[.agg #[.bool false, .string ⟨#[]⟩, .int .i64 0], .bool false]) (by simp [results, Tryd.results16, go_sem, c0, c1, c2]) rfl ⟨by rw [HRE.out]; rfl, below_three HB.out _ _ _⟩
            · have HRE : Hid (R = (n, x, (0 : Int), true)) := hide (HR.out.symm.trans (res_yes HF.out (by omega) hdb))
              go_wp2
              obtain ⟨c0, c1, c2⟩ := HC2.out
              exact bodyPost_ret (v := .tuple #[.agg #[.bool n, .string x, .int .i64 (0 : Int)], .bool true]) (by simp [results, Tryd.results16, go_sem, c0, c1, c2]) rfl ⟨by rw [HRE.out]; rfl, below_three HB.out _ _ _⟩
    · have := empty_of u hu0
      subst this
      go_wp2
      have HL : Hid (k = 0 ∨ (⟨#[]⟩ : ByteArray).size = 0 ∨ ∀ a b, (⟨#[]⟩ : ByteArray).data.toList = a ++ [b] → b.toNat ≠ 48) := hide (.inr (.inl rfl))
      go_loop [1] (fun vt => ∃ x : ByteArray, vt = .string x ∧ x.size ≤ 400 ∧ Hid (dgL x.data.toList) ∧ Hid (canonV (valL x.data.toList) k = canonV v q) ∧ Hid (k = 0 ∨ x.size = 0 ∨ ∀ a b, x.data.toList = a ++ [b] → b.toNat ≠ 48)) (fun vt => strSzN vt)
      case atStart => exact ⟨⟨#[]⟩, rfl, by simp [ByteArray.size], HD, HV, HL⟩
      case round =>
        obtain ⟨x, rfl, hx, HDx, HVx, HLx⟩ := hrel
        clear HL HD HV
        rcases (show x.size = 0 ∨ 0 < x.size by omega) with hx0 | hx0
        · have HF := hide (res_zero (norm_exit n x k v q HDx.out (first_ne x (.inl hx0)) HLx.out HVx.out) hx0)
          have := empty_of x hx0
          subst this
          go_wp2_with fail
          refine (s_decok false ⟨#[]⟩ 0 _ (by simp [ByteArray.size])).mono ?_
          rintro e w1 ⟨rfl, hb1⟩
          obtain ⟨hx1, hx2, hbb⟩ := boxed_two hb1
          obtain ⟨f0, f1, f2⟩ := res_frozen hb1
          have HB := hide hbb
          obtain ⟨a0, a1, a2, a3⟩ := hx1
          obtain ⟨b0, b1, b2, b3⟩ := hx2
          have HC := hide (res_done hb1 (.bool false) (.string ⟨#[]⟩) (.int .i64 0))
          clear hb1 hbb
          have hdz := dec_zero
          have HRE : Hid (R = (false, ByteArray.empty, 0, true)) := hide (HR.out.symm.trans HF.out)
          go_wp2
          obtain ⟨c0, c1, c2⟩ := HC.out
          exact bodyPost_ret (v := .tuple #[.agg #[.bool false, .string ⟨#[]⟩, .int .i64 0], .bool true]) (by simp [results, Tryd.results16, go_sem, c0, c1, c2]) rfl ⟨by rw [HRE.out]; rfl, below_three HB.out _ _ _⟩
        · have hxe := ne_list x hx0
          by_cases hz2 : (x[0].toNat : Int) = 48
          · obtain ⟨g1, g2, g3⟩ := cut_first x hx0 HDx.out hz2
            have G1 := hide g1
            have G2 : Hid (canonV (valL (x.extract 1 x.size).data.toList) k = canonV v q) := hide (by rw [g2]; exact HVx.out)
            have G3 : Hid (k = 0 ∨ (x.extract 1 x.size).size = 0 ∨ ∀ a b, (x.extract 1 x.size).data.toList = a ++ [b] → b.toNat ≠ 48) := hide (by
              rcases HLx.out with h | h | h
              · exact .inl h
              · omega
              · exact .inr (g3 h))
            clear g1 g2 g3
            go_wp2
            go_round
            case rel => exact ⟨_, rfl, by simp; omega, G1, G2, hide (by first | exact G3.out | exact .inl trivial)⟩
            case measure => simp [strSzN]; omega
          · have hzb2 : ((x[0].toNat : Int) == 48) = false := by simpa using hz2
            have HF := hide (norm_exit n x k v q HDx.out (first_ne x (.inr ⟨hx0, hz2⟩)) HLx.out HVx.out)
            go_wp2_with fail
            refine (s_decok n x k _ (by unfold maxLen; omega)).mono ?_
            rintro e w1 ⟨rfl, hb1⟩
            obtain ⟨hx1, hx2, hbb⟩ := boxed_two hb1
            obtain ⟨f0, f1, f2⟩ := res_frozen hb1
            have HB := hide hbb
            obtain ⟨a0, a1, a2, a3⟩ := hx1
            obtain ⟨b0, b1, b2, b3⟩ := hx2
            have HC := hide (res_done hb1 (.bool false) (.string ⟨#[]⟩) (.int .i64 0))
            have HC2 := hide (res_done hb1 (.bool n) (.string x) (.int .i64 (k : Int)))
            clear hb1 hbb
            cases hdb : decB n x (k : Int)
            · have HRE : Hid (R = (false, ByteArray.empty, 0, false)) := hide (HR.out.symm.trans (res_no HF.out (by omega) hdb))
              go_wp2
              obtain ⟨c0, c1, c2⟩ := HC.out
              exact bodyPost_ret (v := .tuple #[.agg #[.bool false, .string ⟨#[]⟩, .int .i64 0], .bool false]) (by simp [results, Tryd.results16, go_sem, c0, c1, c2]) rfl ⟨by rw [HRE.out]; rfl, below_three HB.out _ _ _⟩
            · have HRE : Hid (R = (n, x, (k : Int), true)) := hide (HR.out.symm.trans (res_yes HF.out (by omega) hdb))
              go_wp2
              obtain ⟨c0, c1, c2⟩ := HC2.out
              exact bodyPost_ret (v := .tuple #[.agg #[.bool n, .string x, .int .i64 (k : Int)], .bool true]) (by simp [results, Tryd.results16, go_sem, c0, c1, c2]) rfl ⟨by rw [HRE.out]; rfl, below_three HB.out _ _ _⟩
    · have hne := ne_list u hu0
      have hkk : (0 : Int) < (k : Int) := by omega
      by_cases hz : (u[u.size - 1].toNat : Int) = 48
      · obtain ⟨hd2, hv2⟩ := cut_last u k v q hu0 hk0 HD.out hz HV.out
        have HD2 := hide hd2
        have HV2 := hide hv2
        clear hd2 hv2
        go_wp2
        go_round
        case rel => exact ⟨_, k - 1, rfl, by go_num, by simp; omega, by omega, HD2, HV2⟩
        case measure => simp [intOf]; omega
      · have hzb : ((u[u.size - 1].toNat : Int) == 48) = false := by simpa using hz
        go_wp2
        have HL : Hid (k = 0 ∨ (u : ByteArray).size = 0 ∨ ∀ a b, (u : ByteArray).data.toList = a ++ [b] → b.toNat ≠ 48) := hide (.inr (.inr (last_ne u hu0 hz)))
        go_loop [1] (fun vt => ∃ x : ByteArray, vt = .string x ∧ x.size ≤ 400 ∧ Hid (dgL x.data.toList) ∧ Hid (canonV (valL x.data.toList) k = canonV v q) ∧ Hid (k = 0 ∨ x.size = 0 ∨ ∀ a b, x.data.toList = a ++ [b] → b.toNat ≠ 48)) (fun vt => strSzN vt)
        case atStart => exact ⟨u, rfl, hu, HD, HV, HL⟩
        case round =>
          obtain ⟨x, rfl, hx, HDx, HVx, HLx⟩ := hrel
          clear HL HD HV
          rcases (show x.size = 0 ∨ 0 < x.size by omega) with hx0 | hx0
          · have HF := hide (res_zero (norm_exit n x k v q HDx.out (first_ne x (.inl hx0)) HLx.out HVx.out) hx0)
            have := empty_of x hx0
            subst this
            go_wp2_with fail
            refine (s_decok false ⟨#[]⟩ 0 _ (by simp [ByteArray.size])).mono ?_
            rintro e w1 ⟨rfl, hb1⟩
            obtain ⟨hx1, hx2, hbb⟩ := boxed_two hb1
            obtain ⟨f0, f1, f2⟩ := res_frozen hb1
            have HB := hide hbb
            obtain ⟨a0, a1, a2, a3⟩ := hx1
            obtain ⟨b0, b1, b2, b3⟩ := hx2
            have HC := hide (res_done hb1 (.bool false) (.string ⟨#[]⟩) (.int .i64 0))
            clear hb1 hbb
            have hdz := dec_zero
            have HRE : Hid (R = (false, ByteArray.empty, 0, true)) := hide (HR.out.symm.trans HF.out)
            go_wp2
            obtain ⟨c0, c1, c2⟩ := HC.out
            exact bodyPost_ret (v := .tuple #[.agg #[.bool false, .string ⟨#[]⟩, .int .i64 0], .bool true]) (by simp [results, Tryd.results16, go_sem, c0, c1, c2]) rfl ⟨by rw [HRE.out]; rfl, below_three HB.out _ _ _⟩
          · have hxe := ne_list x hx0
            by_cases hz2 : (x[0].toNat : Int) = 48
            · obtain ⟨g1, g2, g3⟩ := cut_first x hx0 HDx.out hz2
              have G1 := hide g1
              have G2 : Hid (canonV (valL (x.extract 1 x.size).data.toList) k = canonV v q) := hide (by rw [g2]; exact HVx.out)
              have G3 : Hid (k = 0 ∨ (x.extract 1 x.size).size = 0 ∨ ∀ a b, (x.extract 1 x.size).data.toList = a ++ [b] → b.toNat ≠ 48) := hide (by
                rcases HLx.out with h | h | h
                · exact .inl h
                · omega
                · exact .inr (g3 h))
              clear g1 g2 g3
              go_wp2
              go_round
              case rel => exact ⟨_, rfl, by simp; omega, G1, G2, hide (by first | exact G3.out | exact .inl trivial)⟩
              case measure => simp [strSzN]; omega
            · have hzb2 : ((x[0].toNat : Int) == 48) = false := by simpa using hz2
              have HF := hide (norm_exit n x k v q HDx.out (first_ne x (.inr ⟨hx0, hz2⟩)) HLx.out HVx.out)
              go_wp2_with fail
              refine (s_decok n x k _ (by unfold maxLen; omega)).mono ?_
              rintro e w1 ⟨rfl, hb1⟩
              obtain ⟨hx1, hx2, hbb⟩ := boxed_two hb1
              obtain ⟨f0, f1, f2⟩ := res_frozen hb1
              have HB := hide hbb
              obtain ⟨a0, a1, a2, a3⟩ := hx1
              obtain ⟨b0, b1, b2, b3⟩ := hx2
              have HC := hide (res_done hb1 (.bool false) (.string ⟨#[]⟩) (.int .i64 0))
              have HC2 := hide (res_done hb1 (.bool n) (.string x) (.int .i64 (k : Int)))
              clear hb1 hbb
              cases hdb : decB n x (k : Int)
              · have HRE : Hid (R = (false, ByteArray.empty, 0, false)) := hide (HR.out.symm.trans (res_no HF.out (by omega) hdb))
                go_wp2
                obtain ⟨c0, c1, c2⟩ := HC.out
                exact bodyPost_ret (v := .tuple #[.agg #[.bool false, .string ⟨#[]⟩, .int .i64 0], .bool false]) (by simp [results, Tryd.results16, go_sem, c0, c1, c2]) rfl ⟨by rw [HRE.out]; rfl, below_three HB.out _ _ _⟩
              · have HRE : Hid (R = (n, x, (k : Int), true)) := hide (HR.out.symm.trans (res_yes HF.out (by omega) hdb))
                go_wp2
                obtain ⟨c0, c1, c2⟩ := HC2.out
                exact bodyPost_ret (v := .tuple #[.agg #[.bool n, .string x, .int .i64 (k : Int)], .bool true]) (by simp [results, Tryd.results16, go_sem, c0, c1, c2]) rfl ⟨by rw [HRE.out]; rfl, below_three HB.out _ _ _⟩
end Go.Proofs.YtdglamiifcagoacDoor
