/-
  Texts put together: FkA, FbA, SpRows.
-/
import Derived.Test.YtogeicckbdfldaaDoorN15
import Derived.Test.YtogeicckbdfldaaDoorN16
import Derived.Test.YtogeicckbdfldaaDoorN17
import Derived.Test.YtogeicckbdfldaaDoorN12
import Derived.Deep.AppendLies
import Derived.Deep.Upon
/-
  What the law on kids wants: rows alike, the drawn document's growth at its depth, how many kids there are.
-/
namespace Go.Proofs.YtogeicckbdfldaaDoor
open Go.RowKit
set_option linter.unusedVariables false
set_option linter.unusedSimpArgs false
set_option maxHeartbeats 1000000 in
theorem same_ints (a1 a2 : Option Addr) (n m c1 c2 : Nat) (xs ys : List Int) (w : World) (hx : xs.length = n) (hy : ys.length = m) (hn : n ≤ 1048576) (hm : m ≤ 1048576) (h1 : RowAt .i64 w a1 xs w.heap.size) (h2 : RowAt .i64 w a2 ys w.heap.size) :
    Calls Tryd.prog 11 #[.slice a1 n c1, .slice a2 m c2] w fun e w' => e = .returned (.bool (decide (xs = ys))) ∧ ∃ q, w' = w.drewN q := by
  have HX : Hid (xs.length = n) := hx
  have HY : Hid (ys.length = m) := hy
  have H1 : Hid (RowAt .i64 w a1 xs w.heap.size) := h1
  have H2 : Hid (RowAt .i64 w a2 ys w.heap.size) := h2
  clear hx hy h1 h2
  by_cases hnm : n = m
  · subst hnm
    go_enter Tryd.func11, Tryd.ntmps11
    go_wp2
    go_loopw [5] (fun i wr => ∃ k : Nat, k ≤ n ∧ i = .int .i64 k ∧ (∃ q, wr = w.drewN q) ∧ ∀ j, j < k → xs[j]?.getD 0 = ys[j]?.getD 0) (fun i _ => n - (intOf i).toNat)
    case atStart => exact ⟨0, Nat.zero_le _, rfl, ⟨0, rfl⟩, fun j h => by omega⟩
    case round =>
      obtain ⟨k, hk, rfl, ⟨q, rfl⟩, hsame⟩ := hrel
      have HS := hide hsame
      clear hsame
      by_cases hlt : k < n
      · obtain ⟨b, off, rfl, hbs, hc⟩ := rowAt_cell H1.out k (by rw [HX.out]; exact hlt)
        obtain ⟨b', off', rfl, hbs', hc'⟩ := rowAt_cell H2.out k (by rw [HY.out]; exact hlt)
        have hc1 := hc k (by rw [HX.out]; exact hlt)
        have hc2 := hc' k (by rw [HY.out]; exact hlt)
        have hi : (k : Int) < (n : Int) := by omega
        have hi0 : (0 : Int) ≤ (k : Int) := by omega
        clear hc hc'
        cases hb : (xs[k]?.getD 0 != ys[k]?.getD 0)
        · go_wp2
          go_quiet (fail)
          go_wp2
          go_roundw
          case rel =>
            refine ⟨k + 1, by omega, by go_num, ⟨q + nq, by simp⟩, fun j hj => ?_⟩
            by_cases e : j = k
            · subst e; simpa using hb
            · exact HS.out j (by omega)
          case measure => simp [intOf]; omega
        · go_wp2
          go_quiet (fail)
          go_wp2
          go_ret
          exact ⟨ret_bool (eqB_f _ _ (fun e => by rw [e] at hb; simp at hb)), q + nq, by simp⟩
      · go_wp2
        go_ret
        exact ⟨ret_bool (eqB_t _ _ (get_ext xs ys (by rw [HX.out, HY.out]) (fun j hj => HS.out j (by have := HX.out; omega)))), _, rfl⟩
  · have hne : ((n : Int) != (m : Int)) = true := by simp; omega
    go_enter Tryd.func11, Tryd.ntmps11
    go_wp2
    go_ret
    exact ⟨ret_bool (eqB_f _ _ (fun e => by have := HX.out; have := HY.out; subst e; omega)), 0, rfl⟩

theorem same_same (a1 a2 : Option Addr) (n c1 c2 : Nat) (xs : List Int) (w : World) (hx : xs.length = n) (hn : n ≤ 1048576) (h1 : RowAt .i64 w a1 xs w.heap.size) (h2 : RowAt .i64 w a2 xs w.heap.size) :
    Calls Tryd.prog 11 #[.slice a1 n c1, .slice a2 n c2] w fun e w' => e = .returned (.bool true) ∧ ∃ q, w' = w.drewN q := by
  refine (same_ints a1 a2 n n c1 c2 xs xs w hx hx hn hn h1 h2).mono ?_
  rintro e w' ⟨rfl, h⟩
  exact ⟨by simp, h⟩

theorem grow_at (G : Nat) (a : Option Addr) (n cap : Nat) (zs : List Int) : GrowAt G a n cap zs := by
  have h0 : ∀ (w : World) (ad0 : Option Addr) (m0 c0 : Nat) (D0 : Dc) (up : Int), 1 ≤ m0 → m0 ≤ 900 → RdAt w G a n cap zs → DrIt (G + 1) w ad0 m0 c0 D0 → Calls Tryd.prog 51 #[.pointer (some ⟨G, 0, none⟩), .slice ad0 m0 c0, .int .i64 up, .int .i64 ((0 : Nat) : Int)] w (GrowAns G a n cap zs w m0 0) :=
    fun w ad0 m0 c0 D0 up h1 h2 h3 h4 => grow_step G a n cap zs 0 0 w ad0 m0 c0 D0 up (by omega) rfl 900 (by omega) h1 h2 h3 h4 (.inl rfl)
  have h1 : ∀ (w : World) (ad0 : Option Addr) (m0 c0 : Nat) (D0 : Dc) (up : Int), 1 ≤ m0 → m0 ≤ 850 → RdAt w G a n cap zs → DrIt (G + 1) w ad0 m0 c0 D0 → Calls Tryd.prog 51 #[.pointer (some ⟨G, 0, none⟩), .slice ad0 m0 c0, .int .i64 up, .int .i64 ((1 : Nat) : Int)] w (GrowAns G a n cap zs w m0 1) :=
    fun w ad0 m0 c0 D0 up h1 h2 h3 h4 => grow_step G a n cap zs 1 3 w ad0 m0 c0 D0 up (by omega) rfl 850 (by omega) h1 h2 h3 h4 (.inr (fun w ad0 m0 c0 D0 up k1 k2 k3 k4 => h0 w ad0 m0 c0 D0 up k1 (by omega) k3 k4))
  intro w ad0 m0 c0 D0 up k1 k2 k3 k4
  exact grow_step G a n cap zs 2 12 w ad0 m0 c0 D0 up (by omega) rfl 800 (by omega) k1 k2 k3 k4 (.inr (fun w ad0 m0 c0 D0 up k1 k2 k3 k4 => h1 w ad0 m0 c0 D0 up k1 (by omega) k3 k4))
/-- How many kids the first i items have among the first m. -/
def kdSum (D : Dc) (m : Nat) : Nat → Nat
  | 0 => 0
  | i + 1 => kdSum D m i + (kd D (i : Int) m).length
theorem kdSum_zero (D : Dc) : ∀ i, kdSum D 0 i = 0
  | 0 => rfl
  | i + 1 => by rw [kdSum, kdSum_zero D i]; rfl
theorem kdSum_no (D : Dc) (m : Nat) : ∀ i : Nat, (∀ j : Nat, j < i → ¬ D.U m = (j : Int)) → kdSum D (m + 1) i = kdSum D m i
  | 0, h => rfl
  | i + 1, h => by rw [kdSum, kdSum, kd_no (h i (by omega)), kdSum_no D m i (fun j hj => h j (by omega))]
theorem kdSum_yes (D : Dc) (m u : Nat) (hu : D.U m = (u : Int)) : ∀ i : Nat, u < i → kdSum D (m + 1) i = kdSum D m i + 1
  | 0, h => by omega
  | i + 1, h => by
    rw [kdSum, kdSum]
    by_cases e : u = i
    · subst e
      rw [kd_yes hu, kdSum_no D m u (fun j hj => by rw [hu]; omega), List.length_append, List.length_singleton]
      omega
    · rw [kd_no (by rw [hu]; omega), kdSum_yes D m u hu i (by omega)]
      omega
theorem kdSum_all (D : Dc) (n : Nat) (h0 : D.U 0 = -1) (hu : ∀ j, 0 < j → j < n → 0 ≤ D.U j ∧ D.U j < j) : ∀ m, 1 ≤ m → m ≤ n → kdSum D m n + 1 = m
  | 0, h, _ => by omega
  | m + 1, h, hn => by
    by_cases e : m = 0
    · subst e
      rw [kdSum_no D 0 n (fun j hj => by rw [h0]; omega), kdSum_zero]
    · have ih := kdSum_all D n h0 hu m (by omega) (by omega)
      have := hu m (by omega) (by omega)
      rw [kdSum_yes D m (D.U m).toNat (by omega) n (by omega)]
      omega
theorem kdSum_ok {D : Dc} (h : docokB D = true) : kdSum D D.n D.n + 1 = D.n := by
  obtain ⟨⟨g1, g2⟩, hi, -⟩ := docok_facts h
  have hg := itB_good hi
  have hd := docok_dec h
  refine kdSum_all D D.n (place_zero (hg 0 (by omega))).1 (fun j h1 h2 => ⟨?_, (hd j h2).2⟩) D.n g1 (Nat.le_refl _)
  have hr := place_rc (by omega) (hg j h2)
  exact (rc_mem D.U (D.U j) (fun k hk => (hd k (by have := st_le (by omega) (good_less hg (by omega) : Good D j); omega)).2) hr).1
theorem kdSum_le (D : Dc) (m : Nat) : ∀ i, kdSum D m i ≤ m * i
  | 0 => Nat.le_refl _
  | i + 1 => by
    have := kdSum_le D m i
    have := kd_len D (i : Int) m
    rw [kdSum, Nat.mul_succ]; omega
theorem kidsV_at {D : Dc} {i : Nat} (h : docokB D = true) (hi : i < D.n) : kidsV D i = kd D i D.n :=
  kidsV_yes (by unfold hasB'; rw [h, Bool.true_and]; exact decide_eq_true ⟨by omega, by omega⟩)
/-- A kid is an item below, and kids go upwards. -/
theorem kd_up {D : Dc} {x : Int} : ∀ (m k : Nat), k < (kd D x m).length → (0 ≤ (kd D x m)[k]?.getD 0 ∧ (kd D x m)[k]?.getD 0 < m) ∧ D.U ((kd D x m)[k]?.getD 0).toNat = x
  | 0, k, h => by simp [kd] at h
  | m + 1, k, h => by
    by_cases e : D.U m = x
    · rw [kd_yes e] at h ⊢
      rw [List.length_append, List.length_singleton] at h
      by_cases hk : k < (kd D x m).length
      · rw [List.getElem?_append_left hk]
        have := kd_up m k hk
        exact ⟨by omega, this.2⟩
      · have hk' : k = (kd D x m).length := by omega
        subst hk'
        rw [List.getElem?_append_right (Nat.le_refl _), Nat.sub_self]
        show (0 ≤ (m : Int) ∧ (m : Int) < ((m + 1 : Nat) : Int)) ∧ D.U ((m : Int)).toNat = x
        exact ⟨by omega, by rw [Int.toNat_natCast]; exact e⟩
    · rw [kd_no e] at h ⊢
      have := kd_up m k h
      exact ⟨by omega, this.2⟩
theorem kd_less {D : Dc} {x : Int} : ∀ (m k : Nat), k + 1 < (kd D x m).length → (kd D x m)[k]?.getD 0 < (kd D x m)[k + 1]?.getD 0
  | 0, k, h => by simp [kd] at h
  | m + 1, k, h => by
    by_cases e : D.U m = x
    · rw [kd_yes e] at h ⊢
      rw [List.length_append, List.length_singleton] at h
      rw [List.getElem?_append_left (by omega)]
      by_cases hk : k + 1 < (kd D x m).length
      · rw [List.getElem?_append_left hk]
        exact kd_less m k hk
      · have hk' : k + 1 = (kd D x m).length := by omega
        rw [hk', List.getElem?_append_right (Nat.le_refl _), Nat.sub_self]
        have := (kd_up (D := D) (x := x) m k (by omega)).1
        show _ < (m : Int)
        omega
    · rw [kd_no e] at h ⊢
      exact kd_less m k h
theorem kids_at {D : Dc} {x : Int} (k : Nat) (h : k < (kidsV D x).length) : (0 ≤ (kidsV D x)[k]?.getD 0 ∧ (kidsV D x)[k]?.getD 0 < D.n) ∧ D.U ((kidsV D x)[k]?.getD 0).toNat = x ∧ (k ≠ 0 → (kidsV D x)[k - 1]?.getD 0 < (kidsV D x)[k]?.getD 0) := by
  cases hh : hasB' D x
  · rw [kidsV_no hh] at h; simp at h
  · rw [kidsV_yes hh] at h ⊢
    have h1 := kd_up D.n k h
    refine ⟨h1.1, h1.2, fun h0 => ?_⟩
    obtain ⟨j, rfl⟩ : ∃ j, k = j + 1 := ⟨k - 1, by omega⟩
    exact kd_less D.n j h
theorem kids_text {D : Dc} {x : Int} (h : txOk D x = true) : txV D x = catT D (kidsV D x) := by
  have hh : hasB' D x = true := by
    unfold txOk at h
    unfold hasB'
    simp only [Bool.and_eq_true] at h ⊢
    exact ⟨h.1, h.2.1⟩
  rw [kidsV_yes hh, cat_kd]
  unfold txV
  rw [if_pos h]
theorem take_snocK (xs : List Int) (k : Nat) (h : k < xs.length) : xs.take (k + 1) = xs.take k ++ [xs[k]?.getD 0] := by
  rw [List.take_add_one, List.getElem?_eq_getElem h]; rfl
theorem catT_takeK (D : Dc) (xs : List Int) (k : Nat) (h : k < xs.length) : catT D (xs.take (k + 1)) = catT D (xs.take k) ++ D.TX (xs[k]?.getD 0).toNat := by
  rw [take_snocK xs k h, catT_snoc]
theorem catT_size (D : Dc) : ∀ l : List Int, (∀ j ∈ l, (D.TX j.toNat).size ≤ 1048576) → (catT D l).size ≤ 1048576 * l.length
  | [], h => Nat.le_refl _
  | j :: l, h => by
    show (D.TX j.toNat ++ catT D l).size ≤ _
    rw [ByteArray.size_append, List.length_cons, Nat.mul_succ]
    have := h j (by simp)
    have := catT_size D l (fun i hi => h i (by simp [hi]))
    omega
theorem src_belowK {w w' : World} {a : Option Addr} {zs : List Int} (h : SrcAt w a zs w.heap.size) (hb : Below w.heap.size w w') : SrcAt w' a zs w'.heap.size := by
  intro hne
  obtain ⟨b, off, rfl, hlt, hc⟩ := h hne
  exact ⟨b, off, rfl, Nat.lt_of_lt_of_le hlt hb.size, fun j hj => (hb.cell (p := ⟨b, off + j, none⟩) hlt).trans (hc j hj)⟩
end Go.Proofs.YtogeicckbdfldaaDoor

/-
  Plain facts for the law on bindings: which attribute binds a prefix, and that the item above is one.
-/
namespace Go.Proofs.YtogeicckbdfldaaDoor
open Go.RowKit Go.Joins
set_option linter.unusedVariables false
set_option linter.unusedSimpArgs false
theorem qual_xmlns : qualB ⟨#[120, 109, 108, 110, 115, 58]⟩ = false := by
  have hc : colon ⟨#[120, 109, 108, 110, 115, 58]⟩ = 5 := by decide
  unfold qualB
  rw [spl, if_neg (by rw [hc]; decide), if_neg (fun h => ?_)]
  rw [post, hc] at h
  exact absurd h.2 (by decide)
theorem at_qual {D : Dc} (h : docokB D = true) {x k : Nat} (hx : x < D.n) (hk : k < D.AC x) : qualB (D.AN x k) = true := by
  have hi := (docok_facts h).2.1 x hx
  unfold itB at hi
  rw [Bool.and_eq_true] at hi
  have hp := hi.2
  unfold pB partB at hp
  by_cases he : (D.NM x).toList.isEmpty = true
  · rw [if_pos he] at hp
    simp only [Bool.and_eq_true, beq_iff_eq] at hp
    omega
  · rw [if_neg he] at hp
    simp only [Bool.and_eq_true] at hp
    have ha := hp.2.2
    unfold attrsB at ha
    rw [Bool.and_eq_true, List.all_eq_true] at ha
    have := ha.2 k (List.mem_range.2 hk)
    unfold atB at this
    rw [Bool.and_eq_true] at this
    exact this.1
theorem at_notx {D : Dc} (h : docokB D = true) {x k : Nat} (hx : x < D.n) (hk : k < D.AC x) : D.AN x k ≠ ⟨#[120, 109, 108, 110, 115, 58]⟩ := fun e => by
  have := at_qual h hx hk
  rw [e, qual_xmlns] at this
  cases this
theorem up_has {D : Dc} (h : docokB D = true) {x : Nat} (h1 : 1 ≤ x) (hx : x < D.n) : 0 ≤ D.U x ∧ D.U x < x ∧ hasB' D (D.U x) = true := by
  have hg := itB_good (docok_facts h).2.1
  have hd := docok_dec h
  have hr := place_rc (by omega) (hg x hx)
  have h0 := (rc_mem D.U (D.U x) (fun k hk => (hd k (by have := st_le (by omega) (good_less hg (by omega) : Good D x); omega)).2) hr).1
  have h2 := (hd x hx).2
  refine ⟨h0, h2, ?_⟩
  unfold hasB'
  rw [h, Bool.true_and]
  exact decide_eq_true ⟨h0, by omega⟩
theorem x_has {D : Dc} (h : docokB D = true) {x : Nat} (hx : x < D.n) : hasB' D (x : Int) = true := by
  unfold hasB'
  rw [h, Bool.true_and]
  exact decide_eq_true ⟨by omega, by omega⟩
/-- The first attribute that binds the prefix says what it is bound to. -/
theorem bn_first {D : Dc} (h : docokB D = true) {x i : Nat} {p : ByteArray} (hx : x < D.n) (hi : i < D.AC x) (hN : D.AN x i = bnN p) (hb : atF (D.AN x) (bnN p) (D.AC x - i) i = atF (D.AN x) (bnN p) (D.AC x) 0) (hp : (p.toList == [120, 109, 108]) = false) : baV D x p = D.AV x i ∧ baK D x p = (p.toList.isEmpty || !(D.AV x i).toList.isEmpty) := by
  have hr : bnR D (bnN p) x = some (D.AV x i) := bnR_hit (by rw [← hb]; exact atF_yes hi hN)
  obtain ⟨e1, e2⟩ := ba_yes (p := p) (x_has h hx)
  rw [e1, e2]
  unfold bnV bnK
  rw [hp, hr]
  exact ⟨rfl, rfl⟩
theorem bn_above {D : Dc} (h : docokB D = true) {x : Nat} {p : ByteArray} (h1 : 1 ≤ x) (hx : x < D.n) (hb : atF (D.AN x) (bnN p) (D.AC x) 0 = none) : baV D (D.U x) p = baV D x p ∧ baK D (D.U x) p = baK D x p := by
  obtain ⟨-, -, hh⟩ := up_has h h1 hx
  obtain ⟨e1, e2⟩ := ba_yes (p := p) hh
  obtain ⟨e3, e4⟩ := ba_yes (p := p) (x_has h hx)
  have hr : bnR D (bnN p) x = bnR D (bnN p) (D.U x) := bnR_up (n := D.n) (fun j hj => (docok_dec h j hj).2) hx hb
  rw [e1, e2, e3, e4]
  unfold bnV bnK
  rw [hr]
  exact ⟨rfl, rfl⟩
end Go.Proofs.YtogeicckbdfldaaDoor

/-
  Plain facts: the items of a drawn document with more attributes; an append of anything that lies in memory.
-/
namespace Go.Proofs.YtogeicckbdfldaaDoor
open Go.RowKit Go.Joins
set_option linter.unusedVariables false
set_option linter.unusedSimpArgs false
def SmallB (D : Dc) (j : Nat) : Prop := (D.NM j).size ≤ 8 ∧ (D.TX j).size ≤ 8 ∧ D.AC j ≤ 16 ∧ ∀ k, k < D.AC j → (D.AN j k).size ≤ 8 ∧ (D.AV j k).size ≤ 8
/-- The cells of a row are those of the items of D. -/
def ItsB (w : World) (xs : List Value) (m : Nat) (D : Dc) : Prop := D.n = m ∧ ∀ j, j < m → ∃ ad cp, (xs[j * 4]? = some (.int .i64 (D.U j)) ∧ xs[j * 4 + 1]? = some (.string (D.NM j)) ∧ xs[j * 4 + 2]? = some (.string (D.TX j)) ∧ xs[j * 4 + 3]? = some (.slice ad (D.AC j) cp)) ∧ AtD w ad (D.AC j) (D.AN j) (D.AV j) ∧ D.AC j ≤ cp ∧ SmallB D j
theorem its_keepB {w w' : World} {xs : List Value} {m : Nat} {D : Dc} (h : ItsB w xs m D) (k : KeepA w w') : ItsB w' xs m D := ⟨h.1, fun j hj => by
  obtain ⟨ad, cp, h1, h2, h3⟩ := h.2 j hj
  exact ⟨ad, cp, h1, atD_keep h2 k, h3⟩⟩
def DrItB (B : Nat) (w : World) (ad : Option Addr) (m c : Nat) (D : Dc) : Prop := ∃ xs, w.ownsRow B IT 4 (.slice ad m c) m xs ∧ ItsB w xs m D
theorem drIt_keptB {B m c : Nat} {w w' : World} {ad : Option Addr} {D : Dc} {row : Option Nat} (h : DrItB B w ad m c D) (hg : w.grownBy w' row) (hne : ∀ k, row = some k → (Value.slice ad m c).ownBlock ≠ some k) (hk : KeepA w w') : DrItB B w' ad m c D := by
  obtain ⟨xs, h1, h2⟩ := h
  refine ⟨xs, h1.kept hg ?_, its_keepB h2 hk⟩
  cases hv : (Value.slice ad m c).ownBlock with
  | none => exact .inl rfl
  | some k => exact .inr fun e => hne k e.symm (by rw [hv])
theorem drIt_belowB {B m c : Nat} {w w' : World} {ad : Option Addr} {D : Dc} (h : DrItB B w ad m c D) (hb : Below w.heap.size w w') : DrItB B w' ad m c D := by
  obtain ⟨xs, h1, h2⟩ := h
  exact ⟨xs, gOwn_after h1 hb, its_keepB h2 (keepA_below (keepA_refl w) hb)⟩
theorem drIt_ltB {B m c : Nat} {w : World} {ad : Option Addr} {D : Dc} (h : DrItB B w ad m c D) : ∀ k, (Value.slice ad m c).ownBlock = some k → B ≤ k ∧ k < w.heap.size := by
  obtain ⟨xs, h1, h2⟩ := h
  exact h1.lt
theorem drIt_cellsB {B m c : Nat} {w : World} {ad : Option Addr} {D : Dc} (h : DrItB B w ad m c D) (h0 : 0 < m) : ∃ g, ad = some ⟨g, 0, none⟩ ∧ B ≤ g ∧ g < w.heap.size ∧ DcRow w g 0 D w.heap.size := by
  obtain ⟨xs, h1, hn, hi⟩ := h
  rcases h1.2 with ⟨hv, h9⟩ | ⟨g, cp, cur, hv, hB, hh, rest⟩
  · omega
  · simp only [Value.slice.injEq] at hv
    obtain ⟨rfl, _, rfl⟩ := hv
    refine ⟨g, rfl, hB, (h1.lt g rfl).2, fun j hj => ?_⟩
    obtain ⟨ad', cp', ⟨c0, c1, c2, c3⟩, ha, hc, -⟩ := hi j (by omega)
    refine ⟨ad', cp', ⟨?_, ?_, ?_, ?_⟩, atD_at ha, hc⟩
    · rw [Nat.zero_add, h1.cellAt (j * 4) (by omega)]; exact c0
    · rw [Nat.zero_add, h1.cellAt (j * 4 + 1) (by omega)]; exact c1
    · rw [Nat.zero_add, h1.cellAt (j * 4 + 2) (by omega)]; exact c2
    · rw [Nat.zero_add, h1.cellAt (j * 4 + 3) (by omega)]; exact c3
theorem drIt_dcB {B m c : Nat} {w : World} {ad : Option Addr} {D : Dc} (h : DrItB B w ad m c D) : D.n = m ∧ DcAt w ad D w.heap.size := by
  have hn : D.n = m := by obtain ⟨xs, h1, hn, hi⟩ := h; exact hn
  refine ⟨hn, fun h0 => ?_⟩
  obtain ⟨g, e, -, hg, hr⟩ := drIt_cellsB h (by omega)
  exact ⟨g, 0, e, hg, hr⟩
theorem drIt_totB {B m c : Nat} {w : World} {ad : Option Addr} {D : Dc} (h : DrItB B w ad m c D) (hm : m ≤ 1000) : dcTot D ≤ 1048576 := by
  obtain ⟨xs, h1, hn, hi⟩ := h
  have h2 : ∀ j, j < D.n → itSz D j ≤ 1000 := fun j hj => by
    obtain ⟨ad', cp', -, -, -, s1, s2, s3, s4⟩ := hi j (by omega)
    have h3 := sumN_small (atSz (D.AN j) (D.AV j)) 16 (D.AC j) (fun k hk => by have := s4 k hk; unfold atSz; omega)
    unfold itSz atTot
    have : D.AC j * 16 ≤ 16 * 16 := Nat.mul_le_mul_right _ s3
    omega
  have h4 := sumN_small (itSz D) 1000 D.n h2
  have : D.n * 1000 ≤ 1000 * 1000 := Nat.mul_le_mul_right _ (by omega)
  unfold dcTot
  omega
/-- While the document grows. -/
def GSB (G : Nat) (a : Option Addr) (n cap : Nat) (zs : List Int) (w0 w : World) (ad : Option Addr) (m c : Nat) (D : Dc) : Prop := RdAt w G a n cap zs ∧ DrItB (G + 1) w ad m c D ∧ Below G w0 w ∧ KeepA w0 w
section
variable {G : Nat} {a : Option Addr} {n cap : Nat} {zs : List Int} {w0 w w1 w2 : World} {ad ad2 : Option Addr} {m c c2 : Nat} {D : Dc}
theorem gs_sizeB (h : GSB G a n cap zs w0 w ad m c D) : G < w.heap.size := rd_lt h.1
theorem gs_neB (h : GSB G a n cap zs w0 w ad m c D) : (Value.slice ad m c).ownBlock ≠ some G := fun e => by have := drIt_ltB h.2.1 G e; omega
theorem gs_drewB (h : GSB G a n cap zs w0 w ad m c D) (hd : Drew G a n cap zs w w1) : GSB G a n cap zs w0 w1 ad m c D :=
  ⟨hd.1, drIt_keptB h.2.1 hd.2 (fun k hk => by cases hk; exact gs_neB h) (keepA_drew (keepA_refl w) h.1 hd), below_drew h.2.2.1 hd (Nat.le_of_lt (gs_sizeB h)), keepA_drew h.2.2.2 h.1 hd⟩
theorem gs_belowB (h : GSB G a n cap zs w0 w ad m c D) (hb : Below w.heap.size w w1) : GSB G a n cap zs w0 w1 ad m c D :=
  ⟨rd_grown h.1 (grown_below hb) (fun k hk => by cases hk), drIt_belowB h.2.1 hb, h.2.2.1.trans (hb.mono (Nat.le_of_lt (gs_sizeB h))), keepA_below h.2.2.2 hb⟩
theorem gs_allocB (h : GSB G a n cap zs w0 w ad m c D) (o : Obj) : GSB G a n cap zs w0 (w.alloc o) ad m c D := gs_belowB h ((Below.refl _ _).alloc (Nat.le_refl _) o)
end
section
variable {G : Nat} {a : Option Addr} {n cap : Nat} {zs : List Int} {w0 w : World} {g m c k : Nat} {D D' : Dc} {xs : List Value}
theorem gs_cellB (h : GSB G a n cap zs w0 w (some ⟨g, 0, none⟩) m c D) (i : Nat) (hi : i < m * 4) : (∃ v, w.cell? ⟨g, i, none⟩ = some v) ∧ w.frozen? ⟨g, i, none⟩ = false := by
  obtain ⟨xs, h1, h2⟩ := h.2.1
  refine ⟨?_, h1.frozenAt i⟩
  rw [h1.cellAt i (by omega)]
  exact ⟨_, List.getElem?_eq_getElem (by rw [h1.1]; omega)⟩
theorem gs_storeB (h : GSB G a n cap zs w0 w (some ⟨g, 0, none⟩) m c D) (i : Nat) (v : Value) (hI : ∀ (W : World) (xs : List Value), xs.length = m * 4 → ItsB W xs m D → ItsB W (xs.set i v) m D') : GSB G a n cap zs w0 (w.setCell ⟨g, i, none⟩ v) (some ⟨g, 0, none⟩) m c D' := by
  obtain ⟨h1, ⟨xs, h2, h3⟩, h4, h5⟩ := h
  have hg := grown_set w ⟨g, i, none⟩ v
  have hlt := h2.lt g rfl
  have hrow : ∀ k, some g = some k → k = g := fun k hk => by cases hk; rfl
  have hk : KeepA w (w.setCell ⟨g, i, none⟩ v) := keepA_own (keepA_refl w) h2 hg
  refine ⟨rd_grown h1 hg (fun k hk => by have := hrow k hk; omega), ⟨_, (h2.stored i v).1, hI _ _ h2.1 (its_keepB h3 hk)⟩, ?_, keepA_trans h5 hk⟩
  exact h4.grown hg (Nat.le_of_lt (rd_lt h1)) (fun k hk => by have := hrow k hk; omega)
theorem its_NB (y : ByteArray) (hy : y.size ≤ 8) (hk : k < m) (W : World) (xs : List Value) (hl : xs.length = m * 4) (h : ItsB W xs m D) : ItsB W (xs.set (k * 4 + 1) (.string y)) m (updN D k y) := by
  refine ⟨h.1, fun j hj => ?_⟩
  obtain ⟨ad, cp, ⟨c0, c1, c2, c3⟩, h2, h3, s1, s2, s3⟩ := h.2 j hj
  refine ⟨ad, cp, ⟨?_, ?_, ?_, ?_⟩, h2, h3, ?_, s2, s3⟩
  · rw [List.getElem?_set_ne (by omega)]; exact c0
  · by_cases e : j = k
    · subst e; rw [List.getElem?_set_self (by omega)]; show _ = some (Value.string (if j = j then y else D.NM j)); rw [if_pos rfl]
    · rw [List.getElem?_set_ne (by omega)]; show _ = some (Value.string (if j = k then y else D.NM j)); rw [if_neg e]; exact c1
  · rw [List.getElem?_set_ne (by omega)]; exact c2
  · rw [List.getElem?_set_ne (by omega)]; exact c3
  · show (if j = k then y else D.NM j).size ≤ 8
    split
    · exact hy
    · exact s1
end

/-- Where no item has many attributes. -/
theorem gs_toB {G : Nat} {a : Option Addr} {n cap : Nat} {zs : List Int} {w0 w : World} {ad : Option Addr} {m c : Nat} {D : Dc} (h : GS G a n cap zs w0 w ad m c D) : GSB G a n cap zs w0 w ad m c D ∧ ∀ j, j < m → D.AC j ≤ 8 := by
  obtain ⟨h1, ⟨xs, h2, hn, hi⟩, h3, h4⟩ := h
  refine ⟨⟨h1, ⟨xs, h2, hn, fun j hj => ?_⟩, h3, h4⟩, fun j hj => ?_⟩
  · obtain ⟨ad', cp', k1, k2, k3, s1, s2, s3, s4⟩ := hi j hj
    exact ⟨ad', cp', k1, k2, k3, s1, s2, by omega, s4⟩
  · obtain ⟨ad', cp', k1, k2, k3, s1, s2, s3, s4⟩ := hi j hj
    exact s3
def updA (D : Dc) (k ac : Nat) (an av : Nat → ByteArray) : Dc := ⟨D.n, D.U, D.NM, D.TX, fun j => if j = k then ac else D.AC j, fun j => if j = k then an else D.AN j, fun j => if j = k then av else D.AV j⟩
theorem its_AB {m k : Nat} {D : Dc} (ad : Option Addr) (ac cp : Nat) (an av : Nat → ByteArray) (hac : ac ≤ 16) (hcp : ac ≤ cp) (hsm : ∀ j, j < ac → (an j).size ≤ 8 ∧ (av j).size ≤ 8) (hk : k < m) (W : World) (xs : List Value) (hl : xs.length = m * 4) (h : ItsB W xs m D) (ha : AtD W ad ac an av) : ItsB W (xs.set (k * 4 + 3) (.slice ad ac cp)) m (updA D k ac an av) := by
  refine ⟨h.1, fun j hj => ?_⟩
  obtain ⟨ad9, cp9, ⟨c0, c1, c2, c3⟩, h2, h3, s1, s2, s3, s4⟩ := h.2 j hj
  by_cases e : j = k
  · subst e
    refine ⟨ad, cp, ⟨?_, ?_, ?_, ?_⟩, ?_, ?_, s1, s2, ?_, ?_⟩
    · rw [List.getElem?_set_ne (by omega)]; exact c0
    · rw [List.getElem?_set_ne (by omega)]; exact c1
    · rw [List.getElem?_set_ne (by omega)]; exact c2
    · rw [List.getElem?_set_self (by omega)]; show _ = some (Value.slice ad (if j = j then ac else D.AC j) cp); rw [if_pos rfl]
    · show AtD W ad (if j = j then ac else D.AC j) (if j = j then an else D.AN j) (if j = j then av else D.AV j); simp only [if_pos]; exact ha
    · show (if j = j then ac else D.AC j) ≤ cp; rw [if_pos rfl]; exact hcp
    · show (if j = j then ac else D.AC j) ≤ 16; rw [if_pos rfl]; exact hac
    · show ∀ k, k < (if j = j then ac else D.AC j) → ((if j = j then an else D.AN j) k).size ≤ 8 ∧ ((if j = j then av else D.AV j) k).size ≤ 8; simp only [if_pos]; exact hsm
  · refine ⟨ad9, cp9, ⟨?_, ?_, ?_, ?_⟩, ?_, ?_, s1, s2, ?_, ?_⟩
    · rw [List.getElem?_set_ne (by omega)]; exact c0
    · rw [List.getElem?_set_ne (by omega)]; exact c1
    · rw [List.getElem?_set_ne (by omega)]; exact c2
    · rw [List.getElem?_set_ne (by omega)]; show _ = some (Value.slice ad9 (if j = k then ac else D.AC j) cp9); rw [if_neg e]; exact c3
    · show AtD W ad9 (if j = k then ac else D.AC j) (if j = k then an else D.AN j) (if j = k then av else D.AV j); simp only [if_neg e]; exact h2
    · show (if j = k then ac else D.AC j) ≤ cp9; rw [if_neg e]; exact h3
    · show (if j = k then ac else D.AC j) ≤ 16; rw [if_neg e]; exact s3
    · show ∀ k', k' < (if j = k then ac else D.AC j) → ((if j = k then an else D.AN j) k').size ≤ 8 ∧ ((if j = k then av else D.AV j) k').size ≤ 8; simp only [if_neg e]; exact s4
/-- An append, be there something to append or nothing. -/
theorem wp_append_any {P : Program} {w : World} {o : Oper} {a : Act} {K : Act → World → Prop} {Q : Exit → Act → World → Prop} (s x : Operand) (t : TypeId)
    (ho : o.op = .call { callee := .builtin .append, args := #[s, x], argTypes := #[t, t] })
    (base : Nat) (e : TypeId) (i : TypeInfo) (z : Value) (size bytes : Nat) (ht : P.underlying t = some (.slice e)) (hi : P.info? e = some i) (hz : i.zero = some z)
    (hsize : i.size = size) (hby : i.bytes = bytes) (hzs : z.cells.size = size) (hsz : 0 < size)
    (v : Value) (n : Nat) (xs : List Value) (hs : a.eval s = v) (hown : w.ownsRow base e size v n xs)
    (xa : Option Addr) (m c : Nat) (news : List Value) (hx : a.eval x = .slice xa m c) (hl : news.length = m * size) (hnews : 0 < m → ∃ ad, xa = some ad ∧ ∀ j u, news[j]? = some u → w.cell? (ad.add j) = some u) (h1 : ∀ u ∈ news, u.oneCell' = true)
    (h63 : n + m ≤ maxLen) (hbytes : (n + m) * bytes ≤ 140737488355328) (hbase : base ≤ w.heap.size)
    (h : ∀ a' c' w', w'.ownsRow base e size (.slice a' (n + m) c') (n + m) (xs ++ news) → w.grownBy w' v.ownBlock → K (a.put o.dst (.slice a' (n + m) c')) w') : o.wp P a w K Q := by
  by_cases hm : 0 < m
  · obtain ⟨ad, rfl, hnw⟩ := hnews hm
    exact wp_append_lies w s x t ho base e i z size bytes ht hi hz hsize hby hzs hsz v n xs hs hown ad m c news hx hl hnw h1 hm h63 hbytes hbase _ rfl (fun g cap w' k1 k2 _ _ => h _ _ w' k1 k2)
  · obtain rfl : m = 0 := by omega
    rw [Nat.zero_mul] at hl
    obtain rfl : news = [] := List.length_eq_zero_iff.1 hl
    have hv : ∃ a' c', v = .slice a' n c' ∧ n ≤ c' := by
      rcases hown.2 with ⟨rfl, rfl⟩ | ⟨g, cap, cur, rfl, _, _, hc, _⟩
      · exact ⟨none, 0, rfl, Nat.le_refl _⟩
      · exact ⟨_, cap, rfl, hc⟩
    obtain ⟨a', c', rfl, hc⟩ := hv
    have hsrc : Src P i.size t (.slice xa 0 c) 0 [] w := by
      cases xa with
      | none => exact Src.ofNil w ht c
      | some ad => exact Src.ofSlice w ht ad 0 c [] (by simp) (fun j u hj => by simp at hj) (fun u hu => by cases hu)
    have hr := run_append_nothing (P := P) w t t o.type e i ht hi a' n c' hc (.slice xa 0 c) hsrc
    unfold Oper.wp execOp
    simp only [ho, resolve, invoke, builtin, Sem.run_bind, Sem.run_pure, Result.andThen_ok, List.map_toArray, List.map_cons, List.map_nil, hs, hx, hr]
    exact h a' c' w (by rw [List.append_nil]; exact hown) ⟨rfl, rfl, rfl, Nat.le_refl _, fun _ _ _ => rfl⟩
theorem step_append_any {P : Program} {w : World} {ops : Array Oper} {o : Oper} {a : Act} {K : Act → World → Prop} {Q : Exit → Act → World → Prop} {E : Prop} (hgd : o.guard = none) (s x : Operand) (t : TypeId)
    (ho : o.op = .call { callee := .builtin .append, args := #[s, x], argTypes := #[t, t] })
    (base : Nat) (e : TypeId) (i : TypeInfo) (z : Value) (size bytes : Nat) (ht : P.underlying t = some (.slice e)) (hi : P.info? e = some i) (hz : i.zero = some z)
    (hsize : i.size = size) (hby : i.bytes = bytes) (hzs : z.cells.size = size) (hsz : 0 < size)
    (v : Value) (n : Nat) (xs : List Value) (hs : a.eval s = v) (hown : w.ownsRow base e size v n xs)
    (xa : Option Addr) (m c : Nat) (news : List Value) (hx : a.eval x = .slice xa m c) (hl : news.length = m * size) (hnews : 0 < m → ∃ ad, xa = some ad ∧ ∀ j u, news[j]? = some u → w.cell? (ad.add j) = some u) (h1 : ∀ u ∈ news, u.oneCell' = true)
    (h63 : n + m ≤ maxLen) (hbytes : (n + m) * bytes ≤ 140737488355328) (hbase : base ≤ w.heap.size)
    (h : ∀ a' c' w', w'.ownsRow base e size (.slice a' (n + m) c') (n + m) (xs ++ news) → w.grownBy w' v.ownBlock → K (a.put o.dst (.slice a' (n + m) c')) w') :
    if Region.wanted o (yielded ops a.tmps) = true then Oper.wp P o a w K Q else E := by
  have hw : Region.wanted o (yielded ops a.tmps) = true := by simp [Region.wanted, hgd]
  rw [if_pos hw]
  exact wp_append_any s x t ho base e i z size bytes ht hi hz hsize hby hzs hsz v n xs hs hown xa m c news hx hl hnews h1 h63 hbytes hbase h
end Go.Proofs.YtogeicckbdfldaaDoor
