/-
  What the law on kids wants: rows alike, the drawn document's growth at its depth, how many kids there are.
-/
import Derived.Test.YtogeicckbdfldaaDoorDrGrow
import Derived.Test.YtogeicckbdfldaaDoorDrDoc
import Derived.Test.YtogeicckbdfldaaDoorKdO
import Derived.Test.YtogeicckbdfldaaDoorTxS
import Derived.Test.YtogeicckbdfldaaDoorKdLaw0
namespace Go.Proofs.YtogeicckbdfldaaDoor
open Go.RowKit
set_option linter.unusedVariables false
set_option linter.unusedSimpArgs false
set_option maxHeartbeats 1000000 in
theorem same_ints (a1 a2 : Option Addr) (n m c1 c2 : Nat) (xs ys : List Int) (w : World) (hx : xs.length = n) (hy : ys.length = m) (hn : n ≤ 1048576) (hm : m ≤ 1048576) (h1 : RowAt .i64 w a1 xs w.heap.size) (h2 : RowAt .i64 w a2 ys w.heap.size) :
    Calls Tryd.prog 11 #[.slice a1 n c1, .slice a2 m c2] w fun e w' => e = .returned (.bool (decide (xs = ys))) ∧ ∃ q, w' = w.drewN q := by
  have HX : Hid (xs.length = n) := hx
  have HY : Hid (ys.length = m) := hy
  have H1 : Hid (RowAt .i64 w a1 xs w.heap.size) := h1
  have H2 : Hid (RowAt .i64 w a2 ys w.heap.size) := h2
  clear hx hy h1 h2
  by_cases hnm : n = m
  · subst hnm
    go_enter Tryd.func11, Tryd.ntmps11
    go_wp2
    go_loopw [5] (fun i wr => ∃ k : Nat, k ≤ n ∧ i = .int .i64 k ∧ (∃ q, wr = w.drewN q) ∧ ∀ j, j < k → xs[j]?.getD 0 = ys[j]?.getD 0) (fun i _ => n - (intOf i).toNat)
    case atStart => exact ⟨0, Nat.zero_le _, rfl, ⟨0, rfl⟩, fun j h => by omega⟩
    case round =>
      obtain ⟨k, hk, rfl, ⟨q, rfl⟩, hsame⟩ := hrel
      have HS := hide hsame
      clear hsame
      by_cases hlt : k < n
      · obtain ⟨b, off, rfl, hbs, hc⟩ := rowAt_cell H1.out k (by rw [HX.out]; exact hlt)
        obtain ⟨b', off', rfl, hbs', hc'⟩ := rowAt_cell H2.out k (by rw [HY.out]; exact hlt)
        have hc1 := hc k (by rw [HX.out]; exact hlt)
        have hc2 := hc' k (by rw [HY.out]; exact hlt)
        have hi : (k : Int) < (n : Int) := by omega
        have hi0 : (0 : Int) ≤ (k : Int) := by omega
        clear hc hc'
        cases hb : (xs[k]?.getD 0 != ys[k]?.getD 0)
        · go_wp2
          go_quiet (fail)
          go_wp2
          go_roundw
          case rel =>
            refine ⟨k + 1, by omega, by go_num, ⟨q + nq, by simp⟩, fun j hj => ?_⟩
            by_cases e : j = k
            · subst e; simpa using hb
            · exact HS.out j (by omega)
          case measure => simp [intOf]; omega
        · go_wp2
          go_quiet (fail)
          go_wp2
          go_ret
          exact ⟨ret_bool (eqB_f _ _ (fun e => by rw [e] at hb; simp at hb)), q + nq, by simp⟩
      · go_wp2
        go_ret
        exact ⟨ret_bool (eqB_t _ _ (get_ext xs ys (by rw [HX.out, HY.out]) (fun j hj => HS.out j (by have := HX.out; omega)))), _, rfl⟩
  · have hne : ((n : Int) != (m : Int)) = true := by simp; omega
    go_enter Tryd.func11, Tryd.ntmps11
    go_wp2
    go_ret
    exact ⟨ret_bool (eqB_f _ _ (fun e => by have := HX.out; have := HY.out; subst e; omega)), 0, rfl⟩

theorem same_same (a1 a2 : Option Addr) (n c1 c2 : Nat) (xs : List Int) (w : World) (hx : xs.length = n) (hn : n ≤ 1048576) (h1 : RowAt .i64 w a1 xs w.heap.size) (h2 : RowAt .i64 w a2 xs w.heap.size) :
    Calls Tryd.prog 11 #[.slice a1 n c1, .slice a2 n c2] w fun e w' => e = .returned (.bool true) ∧ ∃ q, w' = w.drewN q := by
  refine (same_ints a1 a2 n n c1 c2 xs xs w hx hx hn hn h1 h2).mono ?_
  rintro e w' ⟨rfl, h⟩
  exact ⟨by simp, h⟩

theorem grow_at (G : Nat) (a : Option Addr) (n cap : Nat) (zs : List Int) : GrowAt G a n cap zs := by
  have h0 : ∀ (w : World) (ad0 : Option Addr) (m0 c0 : Nat) (D0 : Dc) (up : Int), 1 ≤ m0 → m0 ≤ 900 → RdAt w G a n cap zs → DrIt (G + 1) w ad0 m0 c0 D0 → Calls Tryd.prog 51 #[.pointer (some ⟨G, 0, none⟩), .slice ad0 m0 c0, .int .i64 up, .int .i64 ((0 : Nat) : Int)] w (GrowAns G a n cap zs w m0 0) :=
    fun w ad0 m0 c0 D0 up h1 h2 h3 h4 => grow_step G a n cap zs 0 0 w ad0 m0 c0 D0 up (by omega) rfl 900 (by omega) h1 h2 h3 h4 (.inl rfl)
  have h1 : ∀ (w : World) (ad0 : Option Addr) (m0 c0 : Nat) (D0 : Dc) (up : Int), 1 ≤ m0 → m0 ≤ 850 → RdAt w G a n cap zs → DrIt (G + 1) w ad0 m0 c0 D0 → Calls Tryd.prog 51 #[.pointer (some ⟨G, 0, none⟩), .slice ad0 m0 c0, .int .i64 up, .int .i64 ((1 : Nat) : Int)] w (GrowAns G a n cap zs w m0 1) :=
    fun w ad0 m0 c0 D0 up h1 h2 h3 h4 => grow_step G a n cap zs 1 3 w ad0 m0 c0 D0 up (by omega) rfl 850 (by omega) h1 h2 h3 h4 (.inr (fun w ad0 m0 c0 D0 up k1 k2 k3 k4 => h0 w ad0 m0 c0 D0 up k1 (by omega) k3 k4))
  intro w ad0 m0 c0 D0 up k1 k2 k3 k4
  exact grow_step G a n cap zs 2 12 w ad0 m0 c0 D0 up (by omega) rfl 800 (by omega) k1 k2 k3 k4 (.inr (fun w ad0 m0 c0 D0 up k1 k2 k3 k4 => h1 w ad0 m0 c0 D0 up k1 (by omega) k3 k4))
/-- How many kids the first i items have among the first m. -/
def kdSum (D : Dc) (m : Nat) : Nat → Nat
  | 0 => 0
  | i + 1 => kdSum D m i + (kd D (i : Int) m).length
theorem kdSum_zero (D : Dc) : ∀ i, kdSum D 0 i = 0
  | 0 => rfl
  | i + 1 => by rw [kdSum, kdSum_zero D i]; rfl
theorem kdSum_no (D : Dc) (m : Nat) : ∀ i : Nat, (∀ j : Nat, j < i → ¬ D.U m = (j : Int)) → kdSum D (m + 1) i = kdSum D m i
  | 0, h => rfl
  | i + 1, h => by rw [kdSum, kdSum, kd_no (h i (by omega)), kdSum_no D m i (fun j hj => h j (by omega))]
theorem kdSum_yes (D : Dc) (m u : Nat) (hu : D.U m = (u : Int)) : ∀ i : Nat, u < i → kdSum D (m + 1) i = kdSum D m i + 1
  | 0, h => by omega
  | i + 1, h => by
    rw [kdSum, kdSum]
    by_cases e : u = i
    · subst e
      rw [kd_yes hu, kdSum_no D m u (fun j hj => by rw [hu]; omega), List.length_append, List.length_singleton]
      omega
    · rw [kd_no (by rw [hu]; omega), kdSum_yes D m u hu i (by omega)]
      omega
theorem kdSum_all (D : Dc) (n : Nat) (h0 : D.U 0 = -1) (hu : ∀ j, 0 < j → j < n → 0 ≤ D.U j ∧ D.U j < j) : ∀ m, 1 ≤ m → m ≤ n → kdSum D m n + 1 = m
  | 0, h, _ => by omega
  | m + 1, h, hn => by
    by_cases e : m = 0
    · subst e
      rw [kdSum_no D 0 n (fun j hj => by rw [h0]; omega), kdSum_zero]
    · have ih := kdSum_all D n h0 hu m (by omega) (by omega)
      have := hu m (by omega) (by omega)
      rw [kdSum_yes D m (D.U m).toNat (by omega) n (by omega)]
      omega
theorem kdSum_ok {D : Dc} (h : docokB D = true) : kdSum D D.n D.n + 1 = D.n := by
  obtain ⟨⟨g1, g2⟩, hi, -⟩ := docok_facts h
  have hg := itB_good hi
  have hd := docok_dec h
  refine kdSum_all D D.n (place_zero (hg 0 (by omega))).1 (fun j h1 h2 => ⟨?_, (hd j h2).2⟩) D.n g1 (Nat.le_refl _)
  have hr := place_rc (by omega) (hg j h2)
  exact (rc_mem D.U (D.U j) (fun k hk => (hd k (by have := st_le (by omega) (good_less hg (by omega) : Good D j); omega)).2) hr).1
theorem kdSum_le (D : Dc) (m : Nat) : ∀ i, kdSum D m i ≤ m * i
  | 0 => Nat.le_refl _
  | i + 1 => by
    have := kdSum_le D m i
    have := kd_len D (i : Int) m
    rw [kdSum, Nat.mul_succ]; omega
theorem kidsV_at {D : Dc} {i : Nat} (h : docokB D = true) (hi : i < D.n) : kidsV D i = kd D i D.n :=
  kidsV_yes (by unfold hasB'; rw [h, Bool.true_and]; exact decide_eq_true ⟨by omega, by omega⟩)
/-- A kid is an item below, and kids go upwards. -/
theorem kd_up {D : Dc} {x : Int} : ∀ (m k : Nat), k < (kd D x m).length → (0 ≤ (kd D x m)[k]?.getD 0 ∧ (kd D x m)[k]?.getD 0 < m) ∧ D.U ((kd D x m)[k]?.getD 0).toNat = x
  | 0, k, h => by simp [kd] at h
  | m + 1, k, h => by
    by_cases e : D.U m = x
    · rw [kd_yes e] at h ⊢
      rw [List.length_append, List.length_singleton] at h
      by_cases hk : k < (kd D x m).length
      · rw [List.getElem?_append_left hk]
        have := kd_up m k hk
        exact ⟨by omega, this.2⟩
      · have hk' : k = (kd D x m).length := by omega
        subst hk'
        rw [List.getElem?_append_right (Nat.le_refl _), Nat.sub_self]
        show (0 ≤ (m : Int) ∧ (m : Int) < ((m + 1 : Nat) : Int)) ∧ D.U ((m : Int)).toNat = x
        exact ⟨by omega, by rw [Int.toNat_natCast]; exact e⟩
    · rw [kd_no e] at h ⊢
      have := kd_up m k h
      exact ⟨by omega, this.2⟩
theorem kd_less {D : Dc} {x : Int} : ∀ (m k : Nat), k + 1 < (kd D x m).length → (kd D x m)[k]?.getD 0 < (kd D x m)[k + 1]?.getD 0
  | 0, k, h => by simp [kd] at h
  | m + 1, k, h => by
    by_cases e : D.U m = x
    · rw [kd_yes e] at h ⊢
      rw [List.length_append, List.length_singleton] at h
      rw [List.getElem?_append_left (by omega)]
      by_cases hk : k + 1 < (kd D x m).length
      · rw [List.getElem?_append_left hk]
        exact kd_less m k hk
      · have hk' : k + 1 = (kd D x m).length := by omega
        rw [hk', List.getElem?_append_right (Nat.le_refl _), Nat.sub_self]
        have := (kd_up (D := D) (x := x) m k (by omega)).1
        show _ < (m : Int)
        omega
    · rw [kd_no e] at h ⊢
      exact kd_less m k h
theorem kids_at {D : Dc} {x : Int} (k : Nat) (h : k < (kidsV D x).length) : (0 ≤ (kidsV D x)[k]?.getD 0 ∧ (kidsV D x)[k]?.getD 0 < D.n) ∧ D.U ((kidsV D x)[k]?.getD 0).toNat = x ∧ (k ≠ 0 → (kidsV D x)[k - 1]?.getD 0 < (kidsV D x)[k]?.getD 0) := by
  cases hh : hasB' D x
  · rw [kidsV_no hh] at h; simp at h
  · rw [kidsV_yes hh] at h ⊢
    have h1 := kd_up D.n k h
    refine ⟨h1.1, h1.2, fun h0 => ?_⟩
    obtain ⟨j, rfl⟩ : ∃ j, k = j + 1 := ⟨k - 1, by omega⟩
    exact kd_less D.n j h
theorem kids_text {D : Dc} {x : Int} (h : txOk D x = true) : txV D x = catT D (kidsV D x) := by
  have hh : hasB' D x = true := by
    unfold txOk at h
    unfold hasB'
    simp only [Bool.and_eq_true] at h ⊢
    exact ⟨h.1, h.2.1⟩
  rw [kidsV_yes hh, cat_kd]
  unfold txV
  rw [if_pos h]
theorem take_snocK (xs : List Int) (k : Nat) (h : k < xs.length) : xs.take (k + 1) = xs.take k ++ [xs[k]?.getD 0] := by
  rw [List.take_add_one, List.getElem?_eq_getElem h]; rfl
theorem catT_takeK (D : Dc) (xs : List Int) (k : Nat) (h : k < xs.length) : catT D (xs.take (k + 1)) = catT D (xs.take k) ++ D.TX (xs[k]?.getD 0).toNat := by
  rw [take_snocK xs k h, catT_snoc]
theorem catT_size (D : Dc) : ∀ l : List Int, (∀ j ∈ l, (D.TX j.toNat).size ≤ 1048576) → (catT D l).size ≤ 1048576 * l.length
  | [], h => Nat.le_refl _
  | j :: l, h => by
    show (D.TX j.toNat ++ catT D l).size ≤ _
    rw [ByteArray.size_append, List.length_cons, Nat.mul_succ]
    have := h j (by simp)
    have := catT_size D l (fun i hi => h i (by simp [hi]))
    omega
theorem src_belowK {w w' : World} {a : Option Addr} {zs : List Int} (h : SrcAt w a zs w.heap.size) (hb : Below w.heap.size w w') : SrcAt w' a zs w'.heap.size := by
  intro hne
  obtain ⟨b, off, rfl, hlt, hc⟩ := h hne
  exact ⟨b, off, rfl, Nat.lt_of_lt_of_le hlt hb.size, fun j hj => (hb.cell (p := ⟨b, off + j, none⟩) hlt).trans (hc j hj)⟩
end Go.Proofs.YtogeicckbdfldaaDoor
