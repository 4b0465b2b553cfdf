/-
  Texts put together: StV, TnK.
-/
import Derived.Test.YtfohfljdgmlibaaW46
import Derived.Test.YtfohfljdgmlibaaW4
import Derived.Deep.RegionHeld3
/-
  Contract: the marks that the laws write into texts.
-/
namespace Go.Proofs.Ytfohfljdgmlibaa
open Go.RowKit Go.Joins
set_option linter.unusedVariables false
set_option linter.unusedSimpArgs false
def mkF : Nat → Int → ByteArray → ByteArray
  | 0, x, s => s
  | f + 1, x, s => if 0 < x then mkF f (x / 10) (strOfNums [48 + x % 10] ++ s) else s
theorem mkF_more : ∀ (f g : Nat) (x : Int) (s : ByteArray), x < f → x < g → mkF f x s = mkF g x s
  | 0, 0, x, s, h1, h2 => rfl
  | 0, g + 1, x, s, h1, h2 => by rw [mkF, mkF, if_neg (by omega)]
  | f + 1, 0, x, s, h1, h2 => by rw [mkF, mkF, if_neg (by omega)]
  | f + 1, g + 1, x, s, h1, h2 => by
    rw [mkF, mkF]
    split
    · exact mkF_more f g _ _ (by omega) (by omega)
    · rfl
def mkX (x : Int) (s : ByteArray) : ByteArray := mkF (x.toNat + 1) x s
theorem mkX_no {x : Int} {s : ByteArray} (h : ¬ 0 < x) : mkX x s = s := by unfold mkX; rw [mkF, if_neg h]
theorem mkX_yes {x : Int} {s : ByteArray} (h : 0 < x) : mkX x s = mkX (x / 10) (strOfNums [48 + x % 10] ++ s) := by
  unfold mkX
  rw [mkF, if_pos h]
  exact mkF_more _ _ _ _ (by omega) (by omega)
def mkT (k : Int) : ByteArray := ⟨#[109]⟩ ++ mkX k ⟨#[]⟩
set_option maxHeartbeats 1000000 in
theorem l_mtV (k : Int) (w : World) (h0 : 1 ≤ k) (h1 : k ≤ 1099511627776) : Calls Try.prog 35 #[.int .i64 k] w fun e w' => e = .returned (.string (mkT k)) ∧ Below w.heap.size w w' := by
  go_enter Try.func35, Try.ntmps35
  go_wp2
  go_loopw [0, 3] (fun kv sv wr => ∃ (x : Int) (s : ByteArray), kv = .int .i64 x ∧ sv = .string s ∧ 0 ≤ x ∧ (s.size : Int) + x ≤ k ∧ Below w.heap.size w wr ∧ Hid (mkX x s = mkX k ⟨#[]⟩)) (fun kv _ _ => (intOf kv).toNat)
  case atStart => exact ⟨k, ⟨#[]⟩, rfl, rfl, by omega, by show ((0 : Nat) : Int) + k ≤ k; omega, Below.refl _ _, hide rfl⟩
  case round =>
    obtain ⟨x, s, rfl, rfl, hx0, hx1, hb, HM⟩ := hrel
    by_cases hx : 0 < x
    · have hcv := conv_new wr [48 + x % 10]
      have hos := one_size (48 + x % 10)
      have HM2 := hide ((mkX_yes hx (s := s)).symm.trans HM.out)
      obtain ⟨o, ho⟩ : ∃ o, strOfNums [48 + x % 10] = o := ⟨_, rfl⟩
      rw [ho] at hcv hos HM2
      simp only [List.map_cons, List.map_nil, List.length_cons, List.length_nil, Nat.zero_add] at hcv
      have hS1 : ¬ 9223372036854775807 < o.size + s.size := by omega
      have HOS := hide hos
      have HB := hide hb
      clear ho hos hb
      go_wp2
      go_roundw
      case rel => exact ⟨x / 10, o ++ s, rfl, rfl, by omega, by rw [ByteArray.size_append, HOS.out]; omega, HB.out.alloc HB.out.size _, HM2⟩
      case measure => simp [intOf]; omega
    · have hS1 : ¬ 9223372036854775807 < 1 + s.size := by omega
      have HV : Hid (mkT k = ⟨#[109]⟩ ++ s) := hide (by unfold mkT; rw [← HM.out, mkX_no hx])
      go_wp2
      go_ret
      exact ⟨by rw [HV.out]; rfl, hb⟩
end Go.Proofs.Ytfohfljdgmlibaa

/-
  Contracts: the laws' marks on a row of nodes of the call's own, and that they stand.
-/
namespace Go.Proofs.Ytfohfljdgmlibaa
open Go.RowKit Go.Joins
set_option linter.unusedVariables false
set_option linter.unusedSimpArgs false
set_option maxHeartbeats 1000000 in
theorem mark_intsK (B g n c : Nat) (xs : List Int) (k0 : Int) (w : World) (hk0 : 1 ≤ k0) (hk1 : k0 ≤ 1000000) (hx : xs.length = n) (hn : n ≤ 1048576) (hBg : B ≤ g) (hown : w.ownsRow B 2 1 (.slice (some ⟨g, 0, none⟩) n c) n (xs.map (Value.int .i64))) :
    Calls Try.prog 36 #[.slice (some ⟨g, 0, none⟩) n c, .int .i64 k0] w fun e w' => e = .returned (.int .i64 (k0 + n)) ∧
      w'.ownsRow B 2 1 (.slice (some ⟨g, 0, none⟩) n c) n ((upFrom k0 n).map (Value.int .i64)) ∧ Below B w w' ∧ ∀ k, k ≠ g → w'.heap[k]? = w.heap[k]? := by
  have HX := hide hx
  have H0 : w.ownsRow B 2 1 (.slice (some ⟨g, 0, none⟩) n c) n ((upFrom k0 0 ++ xs.drop 0).map (Value.int .i64)) := by simpa [upFrom] using hown
  have HO := hide H0
  clear hown H0 hx
  go_enter Try.func36, Try.ntmps36
  go_wp2
  go_loopw [1, 5] (fun k i wr => ∃ j : Nat, j ≤ n ∧ i = .int .i64 j ∧ k = .int .i64 (k0 + j) ∧ wr.ownsRow B 2 1 (.slice (some ⟨g, 0, none⟩) n c) n ((upFrom k0 j ++ xs.drop j).map (Value.int .i64)) ∧ Below B w wr ∧ ∀ k, k ≠ g → wr.heap[k]? = w.heap[k]?) (fun _ i _ => n - (intOf i).toNat)
  case atStart => exact ⟨0, Nat.zero_le _, rfl, by simp, HO.out, Below.refl _ _, fun _ _ => rfl⟩
  case round =>
    obtain ⟨j, hj, rfl, rfl, hown, hb, hoth⟩ := hrel
    by_cases hlt : j < n
    · have hst := hide (hown.stored j (.int .i64 (k0 + j)))
      have hfr := hown.frozenAt j
      have hcc : ∃ v, wr.cell? ⟨g, j, none⟩ = some v := by
        rw [hown.cellAt j (by omega)]
        have hl : j < ((upFrom k0 j ++ xs.drop j).map (Value.int .i64)).length := by have := HX.out; simp [upFrom]; omega
        exact ⟨_, List.getElem?_eq_getElem hl⟩
      obtain ⟨v0, hcv⟩ := hcc
      have HB := hide hb
      have HT := hide hoth
      clear hown hb hoth
      go_wp2
      go_roundw
      case rel =>
        refine ⟨j + 1, by omega, by go_num, by go_num, ?_, HB.out.setCell hBg _, fun k hk => (Below.heap_setCell _ _ _ k hk).trans (HT.out k hk)⟩
        rw [← mark_step xs k0 n j HX.out hlt]
        exact hst.out.1
      case measure => simp [intOf]; omega
    · have hkn : j = n := by omega
      subst hkn
      have hfull : upFrom k0 j ++ xs.drop j = upFrom k0 j := by have := HX.out; subst this; simp
      rw [hfull] at hown
      have HO2 := hide hown
      have HB := hide hb
      have HT := hide hoth
      clear hown hb hoth
      go_wp2
      go_ret
      exact ⟨rfl, HO2.out, HB.out, HT.out⟩

set_option maxHeartbeats 1000000 in
theorem held_intsK (a : Option Addr) (n c : Nat) (k0 : Int) (w : World) (hk0 : 1 ≤ k0) (hk1 : k0 ≤ 1000000) (hn : n ≤ 1048576) (hr : RowAt .i64 w a (upFrom k0 n) w.heap.size) :
    Calls Try.prog 37 #[.slice a n c, .int .i64 k0] w fun e w' => e = .returned (.int .i64 (k0 + n)) ∧ ∃ q, w' = w.drewN q := by
  have HR := hide hr
  clear hr
  go_enter Try.func37, Try.ntmps37
  go_wp2
  go_loopw [1, 5] (fun k i wr => ∃ j : Nat, j ≤ n ∧ i = .int .i64 j ∧ k = .int .i64 (k0 + j) ∧ ∃ q, wr = w.drewN q) (fun _ i _ => n - (intOf i).toNat)
  case atStart => exact ⟨0, Nat.zero_le _, rfl, by simp, 0, rfl⟩
  case round =>
    obtain ⟨j, hj, rfl, rfl, q, rfl⟩ := hrel
    by_cases hlt : j < n
    · obtain ⟨b, off, rfl, hbs, hc⟩ := rowAt_cell HR.out j (by rw [upFrom_len]; exact hlt)
      have hc1 := hc j (by rw [upFrom_len]; exact hlt)
      rw [upFrom_at k0 n j hlt] at hc1
      have hi : (j : Int) < (n : Int) := by omega
      clear hc
      go_wp2
      go_roundw
      case rel => exact ⟨j + 1, by omega, by go_num, by go_num, q, rfl⟩
      case measure => simp [intOf]; omega
    · have hkn : j = n := by omega
      subst hkn
      go_wp2
      go_ret
      exact ⟨rfl, q, rfl⟩

theorem mark_none (a : Option Addr) (c : Nat) (k0 : Int) (w : World) : Calls Try.prog 36 #[.slice a 0 c, .int .i64 k0] w fun e w' => e = .returned (.int .i64 k0) ∧ w' = w := by
  go_enter Try.func36, Try.ntmps36
  go_wp2
  go_loop [1, 5] (fun k i => k = .int .i64 k0 ∧ i = .int .i64 0) (fun _ _ => 0)
  case atStart => exact ⟨rfl, rfl⟩
  case round =>
    obtain ⟨rfl, rfl⟩ := hrel
    go_wp2
    go_ret
    exact ⟨rfl, rfl⟩
theorem mkF_size : ∀ (f : Nat) (x : Int) (s : ByteArray), (mkF f x s).size ≤ s.size + x.toNat
  | 0, x, s => by rw [mkF]; omega
  | f + 1, x, s => by
    rw [mkF]
    split
    · have := mkF_size f (x / 10) (strOfNums [48 + x % 10] ++ s)
      rw [ByteArray.size_append, one_size] at this
      omega
    · omega
theorem mkT_size (k : Nat) : (mkT (k : Int)).size ≤ k + 1 := by
  unfold mkT mkX
  rw [ByteArray.size_append]
  have := mkF_size ((k : Int).toNat + 1) (k : Int) ⟨#[]⟩
  have e : (⟨#[]⟩ : ByteArray).size = 0 := rfl
  have e2 : (⟨#[109]⟩ : ByteArray).size = 1 := rfl
  omega
/-- The mark that a node's first place has. -/
def ksN (D : Pn) : Nat → Nat
  | 0 => 1
  | j + 1 => ksN D j + 3 + (D.KL j).length
theorem ks_pos (D : Pn) : ∀ j, 1 ≤ ksN D j
  | 0 => Nat.le_refl _
  | j + 1 => by have := ks_pos D j; show 1 ≤ ksN D j + 3 + _; omega
theorem ks_le {D : Pn} {m : Nat} (h : ∀ j, j < m → (D.KL j).length ≤ 100) : ∀ j, j ≤ m → ksN D j ≤ 1 + 103 * j
  | 0, _ => Nat.le_refl _
  | j + 1, hj => by have h1 := ks_le h j (by omega); have h2 := h j (by omega); show ksN D j + 3 + _ ≤ _; omega
/-- The first i nodes have their marks. -/
def mkI (D : Pn) (i : Nat) : Pn := ⟨D.n, fun j => if j < i then (ksN D j : Int) else D.K j, fun j => if j < i then mkT ((ksN D j + 1 : Nat) : Int) else D.NM j, fun j => if j < i then upFrom ((ksN D j + 2 : Nat) : Int) (D.KL j).length else D.KL j, fun j => if j < i then ((ksN D j + 2 + (D.KL j).length : Nat) : Int) else D.OC j⟩
theorem mkI_len (D : Pn) (i j : Nat) : ((mkI D i).KL j).length = (D.KL j).length := by
  show (if j < i then _ else _ : List Int).length = _
  split
  · exact upFrom_len _ _
  · rfl
section
variable {B : Nat} {S : Nat → Prop} {w w' : World} {g m c : Nat} {D D' : Pn}
theorem po_congr {ad : Option Addr} (h : PO B S w ad m c D) (hn : D'.n = D.n) (hK : ∀ j, j < m → D'.K j = D.K j) (hN : ∀ j, j < m → D'.NM j = D.NM j) (hL : ∀ j, j < m → D'.KL j = D.KL j) (hO : ∀ j, j < m → D'.OC j = D.OC j) : PO B S w ad m c D' := by
  obtain ⟨xs, h1, ⟨h2, h3⟩, h4⟩ := h
  refine ⟨xs, h1, ⟨hn.trans h2, fun j hj => ?_⟩, h4⟩
  rw [hK j hj, hN j hj, hL j hj, hO j hj]
  exact h3 j hj
theorem dj_set9 {xs : List Value} {i : Nat} (h : Dj xs m) (hi : ∀ j, j * 4 + 2 ≠ i) (v : Value) : Dj (xs.set i v) m := by
  have e : ∀ j, kbk (xs.set i v) j = kbk xs j := fun j => by unfold kbk; rw [List.getElem?_set_ne (fun e => hi j e.symm)]
  intro a b k ha hb hne hk
  rw [e] at hk ⊢
  exact h a b k ha hb hne hk
theorem po_cell (h : PO B S w (some ⟨g, 0, none⟩) m c D) (o : Nat) (ho : o < m * 4) : (∃ v, w.cell? ⟨g, o, none⟩ = some v) ∧ w.frozen? ⟨g, o, none⟩ = false := by
  obtain ⟨xs, h1, h2⟩ := h
  refine ⟨?_, h1.frozenAt o⟩
  rw [h1.cellAt o (by omega)]
  exact ⟨_, List.getElem?_eq_getElem (by rw [h1.1]; omega)⟩
theorem po_set (h : PO B S w (some ⟨g, 0, none⟩) m c D) (o : Nat) (v : Value) (ho : ∀ j, j * 4 + 2 ≠ o) (hI : ∀ xs, xs.length = m * 4 → PIts S w xs m D → PIts S w (xs.set o v) m D') : PO B S (w.setCell ⟨g, o, none⟩ v) (some ⟨g, 0, none⟩) m c D' := by
  obtain ⟨xs, h1, h2, h3⟩ := h
  exact ⟨_, (h1.stored o v).1, pits_kp (hI xs h1.1 h2) (kp_set (S := fun k => k = g) _ _ _ rfl) (fun B' z n v ys j hv hj _ => own_ne hv hj h1 rfl (by decide)), dj_set9 h3 ho v⟩
theorem po_K (h : PO B S w (some ⟨g, 0, none⟩) m c D) (i : Nat) (hi : i < m) (y : Int) : PO B S (w.setCell ⟨g, i * 4, none⟩ (.int .i64 y)) (some ⟨g, 0, none⟩) m c ⟨D.n, fun j => if j = i then y else D.K j, D.NM, D.KL, D.OC⟩ := by
  refine po_set h (i * 4) _ (fun j => by omega) (fun xs hl hp => ⟨hp.1, fun j hj => ?_⟩)
  obtain ⟨ad, cp, ⟨c0, c1, c2, c3⟩, h2⟩ := hp.2 j hj
  refine ⟨ad, cp, ⟨?_, ?_, ?_, ?_⟩, h2⟩
  · by_cases e : j = i
    · subst e; rw [List.getElem?_set_self (by omega)]; show _ = some (Value.int .i64 (if j = j then y else D.K j)); rw [if_pos rfl]
    · rw [List.getElem?_set_ne (by omega)]; show _ = some (Value.int .i64 (if j = i then y else D.K j)); rw [if_neg e]; exact c0
  · rw [List.getElem?_set_ne (by omega)]; exact c1
  · rw [List.getElem?_set_ne (by omega)]; exact c2
  · rw [List.getElem?_set_ne (by omega)]; exact c3
theorem po_O (h : PO B S w (some ⟨g, 0, none⟩) m c D) (i : Nat) (hi : i < m) (y : Int) : PO B S (w.setCell ⟨g, i * 4 + 3, none⟩ (.int .i64 y)) (some ⟨g, 0, none⟩) m c ⟨D.n, D.K, D.NM, D.KL, fun j => if j = i then y else D.OC j⟩ := by
  refine po_set h (i * 4 + 3) _ (fun j => by omega) (fun xs hl hp => ⟨hp.1, fun j hj => ?_⟩)
  obtain ⟨ad, cp, ⟨c0, c1, c2, c3⟩, h2⟩ := hp.2 j hj
  refine ⟨ad, cp, ⟨?_, ?_, ?_, ?_⟩, h2⟩
  · rw [List.getElem?_set_ne (by omega)]; exact c0
  · rw [List.getElem?_set_ne (by omega)]; exact c1
  · rw [List.getElem?_set_ne (by omega)]; exact c2
  · by_cases e : j = i
    · subst e; rw [List.getElem?_set_self (by omega)]; show _ = some (Value.int .i64 (if j = j then y else D.OC j)); rw [if_pos rfl]
    · rw [List.getElem?_set_ne (by omega)]; show _ = some (Value.int .i64 (if j = i then y else D.OC j)); rw [if_neg e]; exact c3
theorem po_N (h : PO B S w (some ⟨g, 0, none⟩) m c D) (i : Nat) (hi : i < m) (y : ByteArray) (hy : y.size ≤ 20000) : PO B S (w.setCell ⟨g, i * 4 + 1, none⟩ (.string y)) (some ⟨g, 0, none⟩) m c ⟨D.n, D.K, fun j => if j = i then y else D.NM j, D.KL, D.OC⟩ := by
  refine po_set h (i * 4 + 1) _ (fun j => by omega) (fun xs hl hp => ⟨hp.1, fun j hj => ?_⟩)
  obtain ⟨ad, cp, ⟨c0, c1, c2, c3⟩, h2, h3, h4, h5⟩ := hp.2 j hj
  refine ⟨ad, cp, ⟨?_, ?_, ?_, ?_⟩, h2, h3, ?_, h5⟩
  · rw [List.getElem?_set_ne (by omega)]; exact c0
  · by_cases e : j = i
    · subst e; rw [List.getElem?_set_self (by omega)]; show _ = some (Value.string (if j = j then y else D.NM j)); rw [if_pos rfl]
    · rw [List.getElem?_set_ne (by omega)]; show _ = some (Value.string (if j = i then y else D.NM j)); rw [if_neg e]; exact c1
  · rw [List.getElem?_set_ne (by omega)]; exact c2
  · rw [List.getElem?_set_ne (by omega)]; exact c3
  · show (if j = i then y else D.NM j).size ≤ 20000
    split
    · exact hy
    · exact h4
/-- The kids of a node: where they lie. -/
theorem po_kids (h : PO B S w (some ⟨g, 0, none⟩) m c D) (i : Nat) (hi : i < m) : ∃ ad cp, w.cell? ⟨g, i * 4 + 2, none⟩ = some (.slice ad (D.KL i).length cp) ∧ w.ownsRow 0 2 1 (.slice ad (D.KL i).length cp) (D.KL i).length ((D.KL i).map (Value.int .i64)) ∧ (∀ k, (Value.slice ad (D.KL i).length cp).ownBlock = some k → S k) ∧ (D.KL i).length ≤ 100 := by
  obtain ⟨xs, h1, h2, h3⟩ := h
  obtain ⟨ad, cp, ⟨c0, c1, c2, c3⟩, b2, b3, b4, b5⟩ := h2.2 i hi
  exact ⟨ad, cp, (h1.cellAt _ (by omega)).trans c2, b2, b3, b5⟩
/-- The kids of a node are written anew where they lie. -/
theorem po_L {kad : Option Addr} {kc : Nat} (h : PO B S w (some ⟨g, 0, none⟩) m c D) (i : Nat) (hi : i < m) (L : List Int) (hl : L.length = (D.KL i).length) (hc : w.cell? ⟨g, i * 4 + 2, none⟩ = some (.slice kad (D.KL i).length kc)) (hk : Kp (fun j => (Value.slice kad (D.KL i).length kc).ownBlock = some j) w w') (ho : w'.ownsRow 0 2 1 (.slice kad (D.KL i).length kc) (D.KL i).length (L.map (Value.int .i64))) : PO B S w' (some ⟨g, 0, none⟩) m c ⟨D.n, D.K, D.NM, fun j => if j = i then L else D.KL j, D.OC⟩ := by
  obtain ⟨xs, h1, h2, h3⟩ := h
  obtain ⟨adi, cpi, ⟨d0, d1, d2, d3⟩, e2, e3, e4, e5⟩ := h2.2 i hi
  have hsl : Value.slice adi (D.KL i).length cpi = Value.slice kad (D.KL i).length kc := by
    have := (h1.cellAt (i * 4 + 2) (by omega)).symm.trans hc
    rw [d2] at this
    simpa using this
  rw [hsl] at d2 e2 e3
  refine ⟨xs, own_kp h1 hk (fun j hj e => own_ne e2 e h1 hj (by decide) rfl), ⟨h2.1, fun j hj => ?_⟩, h3⟩
  by_cases e : j = i
  · subst e
    refine ⟨kad, kc, ⟨d0, d1, ?_, d3⟩, ?_, ?_, e4, ?_⟩
    · show _ = some (Value.slice kad (if j = j then L else D.KL j).length kc); rw [if_pos rfl, hl]; exact d2
    · show w'.ownsRow 0 _ 1 (.slice kad (if j = j then L else D.KL j).length kc) (if j = j then L else D.KL j).length ((if j = j then L else D.KL j).map _); rw [if_pos rfl, hl]; exact ho
    · show ∀ k, (Value.slice kad (if j = j then L else D.KL j).length kc).ownBlock = some k → S k; rw [if_pos rfl, hl]; exact e3
    · show (if j = j then L else D.KL j).length ≤ 100; rw [if_pos rfl, hl]; exact e5
  · obtain ⟨ad, cp, c1, b2, b3, b4, b5⟩ := h2.2 j hj
    have hkl : (if j = i then L else D.KL j) = D.KL j := if_neg e
    show ∃ ad cp, (xs[j * 4]? = some (.int .i64 (D.K j)) ∧ xs[j * 4 + 1]? = some (.string (D.NM j)) ∧ xs[j * 4 + 2]? = some (.slice ad (if j = i then L else D.KL j).length cp) ∧ xs[j * 4 + 3]? = some (.int .i64 (D.OC j))) ∧ w'.ownsRow 0 _ 1 (.slice ad (if j = i then L else D.KL j).length cp) (if j = i then L else D.KL j).length ((if j = i then L else D.KL j).map _) ∧ (∀ k, (Value.slice ad (if j = i then L else D.KL j).length cp).ownBlock = some k → S k) ∧ (D.NM j).size ≤ 20000 ∧ (if j = i then L else D.KL j).length ≤ 100
    rw [hkl]
    refine ⟨ad, cp, c1, own_kp b2 hk (fun k hk' e9 => ?_), b3, b4, b5⟩
    have h9 := h3 j i k hj hi e (by rw [kbk_of c1.2.2.1]; exact hk')
    rw [kbk_of d2] at h9
    exact h9 e9
end
end Go.Proofs.Ytfohfljdgmlibaa
