/-
  Contracts of the laws' helpers on rows of items: how much they hold, a copy in new memory.
-/
import Derived.Test.YtfbahffljhnjbaaGreatDoorD1
namespace Go.Proofs.YtfbahffljhnjbaaGreatDoor
open Go.RowKit Go.Joins
set_option linter.unusedVariables false
set_option linter.unusedSimpArgs false
/-- A row of items. -/
structure Dc where
  n : Nat
  U : Nat → Int
  NM : Nat → ByteArray
  TX : Nat → ByteArray
  AC : Nat → Nat
  AN : Nat → Nat → ByteArray
  AV : Nat → Nat → ByteArray
def DcCells (w : World) (b o : Nat) (D : Dc) (j : Nat) (ad : Option Addr) (cp : Nat) : Prop := w.cell? ⟨b, o, none⟩ = some (.int .i64 (D.U j)) ∧ w.cell? ⟨b, o + 1, none⟩ = some (.string (D.NM j)) ∧ w.cell? ⟨b, o + 2, none⟩ = some (.string (D.TX j)) ∧ w.cell? ⟨b, o + 3, none⟩ = some (.slice ad (D.AC j) cp)
def DcRow (w : World) (b off : Nat) (D : Dc) (B : Nat) : Prop := ∀ j, j < D.n → ∃ ad cp, DcCells w b (off + j * 4) D j ad cp ∧ AtAt w ad (D.AC j) (D.AN j) (D.AV j) B ∧ D.AC j ≤ cp
def DcAt (w : World) (a : Option Addr) (D : Dc) (B : Nat) : Prop := 0 < D.n → ∃ b off, a = some ⟨b, off, none⟩ ∧ b < B ∧ DcRow w b off D B
theorem dcCells_go {w w' : World} {b o : Nat} {D : Dc} {j : Nat} {ad : Option Addr} {cp B : Nat} (h : DcCells w b o D j ad cp) (hb : b < B) (k : Below B w w') : DcCells w' b o D j ad cp := by
  obtain ⟨h0, h1, h2, h3⟩ := h
  exact ⟨(k.cell (p := ⟨b, o, none⟩) hb).trans h0, (k.cell (p := ⟨b, o + 1, none⟩) hb).trans h1, (k.cell (p := ⟨b, o + 2, none⟩) hb).trans h2, (k.cell (p := ⟨b, o + 3, none⟩) hb).trans h3⟩
theorem dcRow_go {w w' : World} {b off : Nat} {D : Dc} {B : Nat} (h : DcRow w b off D B) (hb : b < B) (k : Below B w w') : DcRow w' b off D B := fun j hj => by
  obtain ⟨ad, cp, hc, hr, hl⟩ := h j hj
  exact ⟨ad, cp, dcCells_go hc hb k, atAt_go hr k, hl⟩
theorem dcRow_up {w : World} {b off : Nat} {D : Dc} {B B' : Nat} (h : DcRow w b off D B) (k : B ≤ B') : DcRow w b off D B' := fun j hj => by
  obtain ⟨ad, cp, hc, hr, hl⟩ := h j hj
  exact ⟨ad, cp, hc, atAt_up hr k, hl⟩
theorem dcAt_go {w w' : World} {a : Option Addr} {D : Dc} {B : Nat} (h : DcAt w a D B) (k : Below B w w') : DcAt w' a D B := fun h0 => by
  obtain ⟨b, off, e, hb, hr⟩ := h h0
  exact ⟨b, off, e, hb, dcRow_go hr hb k⟩
theorem dcAt_up {w : World} {a : Option Addr} {D : Dc} {B B' : Nat} (h : DcAt w a D B) (k : B ≤ B') : DcAt w a D B' := fun h0 => by
  obtain ⟨b, off, e, hb, hr⟩ := h h0
  exact ⟨b, off, e, Nat.lt_of_lt_of_le hb k, dcRow_up hr k⟩
/-- The sizes that a row in memory can have. -/
def DcSz (D : Dc) : Prop := D.n ≤ maxLen ∧ ∀ j, j < D.n → (D.NM j).size ≤ maxLen ∧ (D.TX j).size ≤ maxLen ∧ D.AC j ≤ maxLen ∧ ∀ k, k < D.AC j → (D.AN j k).size ≤ maxLen ∧ (D.AV j k).size ≤ maxLen
def itSz (D : Dc) (j : Nat) : Nat := (D.NM j).size + (D.TX j).size + atTot (D.AC j) (D.AN j) (D.AV j)
def dcTot (D : Dc) : Nat := D.n + sumN (itSz D) D.n
theorem box_belowI {w w1 : World} {c : Array Value} {t : TypeId} (h : Below (w.alloc (.cells c t)).heap.size (w.alloc (.cells c t)) w1) : Below w.heap.size w w1 :=
  ((Below.refl w.heap.size w).alloc (Nat.le_refl _) _).trans (h.mono (by simp))
set_option maxHeartbeats 1000000 in
theorem l_szI (up : Int) (nm tx : ByteArray) (a : Option Addr) (n c : Nat) (N V : Nat → ByteArray) (left : Int) (w : World) (h2 : nm.size ≤ maxLen) (h3 : tx.size ≤ maxLen) (hn : n ≤ maxLen) (hs : ∀ j, j < n → (N j).size ≤ maxLen ∧ (V j).size ≤ maxLen) (h0 : 0 ≤ left) (h1 : left ≤ 1048576) (hr : AtAt w a n N V w.heap.size) :
    Calls Tryz.prog 30 #[.agg #[.int .i64 up, .string nm, .string tx, .slice a n c], .int .i64 left] w fun e w' => e = .returned (.int .i64 (dn left (nm.size + tx.size + atTot n N V))) ∧ Below w.heap.size w w' := by
  have HN := hide hn
  have HS := hide hs
  have HR := hide hr
  unfold maxLen at h2 h3
  clear hr hs hn
  obtain ⟨T, hT⟩ : ∃ T, atTot n N V = T := ⟨_, rfl⟩
  rw [hT]
  have HT := hide hT
  clear hT
  by_cases p : (nm.size : Int) ≤ left
  · by_cases q : (tx.size : Int) ≤ left - nm.size
    · by_cases r : (T : Int) ≤ left - nm.size - tx.size
      · have hd := hide (dn_yes (left := left) (x := nm.size + tx.size + T) (by omega))
        have r2 : (0 : Int) ≤ left - nm.size - tx.size - T := by omega
        go_enter Tryz.func30, Tryz.ntmps30
        go_wp2_with (go_at_call 55; refine (l_szAs _ _ _ N V _ _ HN.out HS.out (by omega) (by omega) (atAt_up (atAt_go HR.out ((Below.refl _ _).alloc (Nat.le_refl _) _)) (by simp))).mono ?_; rintro e w2 ⟨rfl, hb2⟩; rw [HT.out, dn_yes r]; have HB2 := hide (box_belowI hb2); clear hb2)
        go_ret
        exact ⟨ret_iI (by rw [hd.out]; omega), HB2.out⟩
      · have hd := hide (dn_no (left := left) (x := nm.size + tx.size + T) (by omega))
        go_enter Tryz.func30, Tryz.ntmps30
        go_wp2_with (go_at_call 55; refine (l_szAs _ _ _ N V _ _ HN.out HS.out (by omega) (by omega) (atAt_up (atAt_go HR.out ((Below.refl _ _).alloc (Nat.le_refl _) _)) (by simp))).mono ?_; rintro e w2 ⟨rfl, hb2⟩; rw [HT.out, dn_no r]; have HB2 := hide (box_belowI hb2); clear hb2)
        go_ret
        exact ⟨ret_iI (by rw [hd.out]), HB2.out⟩
    · have hd := hide (dn_no (left := left) (x := nm.size + tx.size + T) (by omega))
      go_enter Tryz.func30, Tryz.ntmps30
      go_wp2
      go_ret
      exact ⟨ret_iI (by rw [hd.out]), (Below.refl _ _).alloc (Nat.le_refl _) _⟩
  · have hd := hide (dn_no (left := left) (x := nm.size + tx.size + T) (by omega))
    go_enter Tryz.func30, Tryz.ntmps30
    go_wp2
    go_ret
    exact ⟨ret_iI (by rw [hd.out]), (Below.refl _ _).alloc (Nat.le_refl _) _⟩
set_option maxHeartbeats 1000000 in
theorem l_szIs (D : Dc) (n : Nat) (a : Option Addr) (c : Nat) (w : World) (hD : D.n = n) (hz : DcSz D) (hr : DcAt w a D w.heap.size) :
    Calls Tryz.prog 6 #[.slice a n c, .int .i64 1048576] w fun e w' => e = .returned (.int .i64 (dn 1048576 (dcTot D))) ∧ Below w.heap.size w w' := by
  have HD := hide hD
  have HZ := hide hz
  have HR := hide hr
  have hn : n ≤ maxLen := by rw [← hD]; exact hz.1
  unfold maxLen at hn
  clear hr hz hD
  by_cases hb0 : (1048576 : Int) < (n : Int)
  · have hd := hide (dn_no (left := 1048576) (x := dcTot D) (by unfold dcTot; rw [HD.out]; omega))
    go_enter Tryz.func6, Tryz.ntmps6
    go_wp2
    go_ret
    exact ⟨ret_iI (by rw [hd.out]), Below.refl _ _⟩
  · go_enter Tryz.func6, Tryz.ntmps6
    go_wp2
    go_loopw [1, 5] (fun l i wr => ∃ k : Nat, k ≤ n ∧ i = .int .i64 k ∧ l = .int .i64 (1048576 - (n : Int) - (sumN (itSz D) k : Int)) ∧ (n : Int) + (sumN (itSz D) k : Int) ≤ 1048576 ∧ Below w.heap.size w wr) (fun _ i _ => n - (intOf i).toNat)
    case atStart => exact ⟨0, Nat.zero_le _, rfl, by simp [sumN], by show (n : Int) + ((0 : Nat) : Int) ≤ _; omega, Below.refl _ _⟩
    case round =>
      obtain ⟨k, hk, rfl, rfl, hle, hb⟩ := hrel
      by_cases hlt : k < n
      · obtain ⟨b, off, rfl, hbs, hrow⟩ := HR.out (by rw [HD.out]; omega)
        obtain ⟨ad, cp, hc, hat, -⟩ := hrow k (by rw [HD.out]; omega)
        obtain ⟨c0, c1, c2, c3⟩ := dcCells_go hc hbs hb
        obtain ⟨s0, s1, s2, s3⟩ := HZ.out.2 k (by rw [HD.out]; omega)
        have HS0 := hide s0
        have HS1 := hide s1
        have HS2 := hide s2
        have HS3 := hide s3
        have HB := hide hb
        have HA := hide (atAt_up (atAt_go hat hb) hb.size)
        obtain ⟨q, hq⟩ : ∃ q, sumN (itSz D) k = q := ⟨_, rfl⟩
        obtain ⟨T, hT⟩ : ∃ T, (D.NM k).size + (D.TX k).size + atTot (D.AC k) (D.AN k) (D.AV k) = T := ⟨_, rfl⟩
        have hq1 : sumN (itSz D) (k + 1) = q + T := by rw [← hq, ← hT]; rfl
        have HQ1 := hide hq1
        have HT := hide hT
        rw [hq] at hle ⊢
        have HLE := hide (sumN_le (itSz D) (a := k + 1) (b := n) (by omega))
        clear hq hq1 hb hc hrow hat s0 s1 s2 s3 hT
        by_cases hbig : (T : Int) ≤ 1048576 - (n : Int) - (q : Int)
        · have hbig2 : (0 : Int) ≤ 1048576 - (n : Int) - (q : Int) - (T : Int) := by omega
          go_wp2_with (go_at_call 30; refine (l_szI _ _ _ _ _ _ (D.AN k) (D.AV k) _ _ HS0.out HS1.out HS2.out HS3.out (by omega) (by omega) HA.out).mono ?_; rintro e w2 ⟨rfl, hb2⟩; rw [HT.out, dn_yes hbig]; have HB2 := hide (HB.out.trans (hb2.mono HB.out.size)); clear hb2)
          go_roundw
          case rel => exact ⟨k + 1, by omega, by go_num, by rw [HQ1.out]; go_num, by rw [HQ1.out]; omega, HB2.out⟩
          case measure => simp [intOf]; omega
        · have hd := hide (dn_no (left := 1048576) (x := dcTot D) (by have := HLE.out; rw [HQ1.out] at this; unfold dcTot; rw [HD.out]; omega))
          go_wp2_with (go_at_call 30; refine (l_szI _ _ _ _ _ _ (D.AN k) (D.AV k) _ _ HS0.out HS1.out HS2.out HS3.out (by omega) (by omega) HA.out).mono ?_; rintro e w2 ⟨rfl, hb2⟩; rw [HT.out, dn_no hbig]; have HB2 := hide (HB.out.trans (hb2.mono HB.out.size)); clear hb2)
          go_ret
          exact ⟨ret_iI (by rw [hd.out]), HB2.out⟩
      · have hkn : k = n := by omega
        subst hkn
        have hd := hide (dn_yes (left := 1048576) (x := dcTot D) (by unfold dcTot; rw [HD.out]; omega))
        go_wp2
        go_ret
        exact ⟨ret_iI (by rw [hd.out]; unfold dcTot; rw [HD.out]; omega), hb⟩
/-- An item lies in block G. -/
def ItAt (w : World) (G : Nat) (up : Int) (nm tx : ByteArray) (a : Option Addr) (n c : Nat) : Prop :=
  ∃ T, w.heap[G]? = some (.cells #[.int .i64 up, .string nm, .string tx, .slice a n c] T (0, 0))
section
variable {w w1 : World} {G : Nat} {up : Int} {nm tx : ByteArray} {a : Option Addr} {n c : Nat}
theorem itAt_lt (h : ItAt w G up nm tx a n c) : G < w.heap.size := by
  obtain ⟨T, h⟩ := h
  exact (Array.getElem?_eq_some_iff.1 h).1
theorem itAt_go (h : ItAt w G up nm tx a n c) (k : Below w.heap.size w w1) : ItAt w1 G up nm tx a n c := by
  have hl := itAt_lt h
  obtain ⟨T, h⟩ := h
  exact ⟨T, (k.block G hl).trans h⟩
theorem itAt_new (w : World) (up : Int) (nm tx : ByteArray) (a : Option Addr) (n c : Nat) (T : TypeId) : ItAt (w.alloc (.cells #[.int .i64 up, .string nm, .string tx, .slice a n c] T)) w.heap.size up nm tx a n c := ⟨T, heap_alloc_new w _⟩
theorem itAt_cells (h : ItAt w G up nm tx a n c) : w.cell? ⟨G, 0, none⟩ = some (.int .i64 up) ∧ w.cell? ⟨G, 1, none⟩ = some (.string nm) ∧ w.cell? ⟨G, 2, none⟩ = some (.string tx) ∧ w.cell? ⟨G, 3, none⟩ = some (.slice a n c) := by
  obtain ⟨T, h⟩ := h
  have e : ∀ i, w.cell? ⟨G, i, none⟩ = #[Value.int .i64 up, .string nm, .string tx, .slice a n c][i]? := fun i => by rw [cell_of_row w G i _ T (0, 0) h]
  exact ⟨e 0, e 1, e 2, e 3⟩
theorem itAt_frozen (h : ItAt w G up nm tx a n c) (i : Nat) : w.frozen? ⟨G, i, none⟩ = false := by
  obtain ⟨T, h⟩ := h
  simp [World.frozen?, h]
theorem itAt_far (h : ItAt w G up nm tx a n c) (p : Addr) (v : Value) (hne : p.block ≠ G) : ItAt (w.setCell p v) G up nm tx a n c := by
  obtain ⟨T, h⟩ := h
  exact ⟨T, by rw [heap_setCell_far _ _ _ _ hne]; exact h⟩
theorem itAt_sets {up' : Int} {nm' tx' : ByteArray} {a' : Option Addr} {n' c' : Nat} (h : ItAt w G up nm tx a n c) :
    ItAt ((((w.setCell ⟨G, 0, none⟩ (.int .i64 up')).setCell ⟨G, 1, none⟩ (.string nm')).setCell ⟨G, 2, none⟩ (.string tx')).setCell ⟨G, 3, none⟩ (.slice a' n' c')) G up' nm' tx' a' n' c' := by
  obtain ⟨T, h0⟩ := h
  have h1 := block_setCell (i := 0) h0 (.int .i64 up')
  have h2 := block_setCell (i := 1) h1 (.string nm')
  have h3 := block_setCell (i := 2) h2 (.string tx')
  have h4 := block_setCell (i := 3) h3 (.slice a' n' c')
  exact ⟨T, by simpa using h4⟩
end
theorem box_item {w w2 : World} {up : Int} {nm tx : ByteArray} {a : Option Addr} {n c : Nat} {T : TypeId} (k : Below (w.alloc (.cells #[.int .i64 up, .string nm, .string tx, .slice a n c] T)).heap.size (w.alloc (.cells #[.int .i64 up, .string nm, .string tx, .slice a n c] T)) w2) :
    ItAt w2 w.heap.size up nm tx a n c ∧ Below w.heap.size w w2 := ⟨itAt_go (itAt_new w up nm tx a n c T) k, ((Below.refl w.heap.size w).alloc (Nat.le_refl _) _).trans (k.mono (by simp))⟩
theorem three_items {w w2 : World} {up : Int} {nm tx : ByteArray} {a : Option Addr} {n c : Nat} {T U V : TypeId}
    (k : Below (((w.alloc (.cells #[.int .i64 up, .string nm, .string tx, .slice a n c] T)).alloc (.cells #[.int .i64 0, .string ⟨#[]⟩, .string ⟨#[]⟩, .slice none 0 0] U)).alloc (.cells #[.int .i64 up, .string nm, .string tx, .slice none 0 0] V)).heap.size
      (((w.alloc (.cells #[.int .i64 up, .string nm, .string tx, .slice a n c] T)).alloc (.cells #[.int .i64 0, .string ⟨#[]⟩, .string ⟨#[]⟩, .slice none 0 0] U)).alloc (.cells #[.int .i64 up, .string nm, .string tx, .slice none 0 0] V)) w2) :
    ItAt w2 w.heap.size up nm tx a n c ∧ ItAt w2 (w.heap.size + 1) 0 ⟨#[]⟩ ⟨#[]⟩ none 0 0 ∧ ItAt w2 (w.heap.size + 1 + 1) up nm tx none 0 0 ∧ Below w.heap.size w w2 := by
  have h1 := itAt_new w up nm tx a n c T
  have h2 := itAt_new (w.alloc (.cells #[.int .i64 up, .string nm, .string tx, .slice a n c] T)) 0 ⟨#[]⟩ ⟨#[]⟩ none 0 0 U
  have h3 := itAt_new ((w.alloc (.cells #[.int .i64 up, .string nm, .string tx, .slice a n c] T)).alloc (.cells #[.int .i64 0, .string ⟨#[]⟩, .string ⟨#[]⟩, .slice none 0 0] U)) up nm tx none 0 0 V
  have st : ∀ (x : World) (o : Obj), Below x.heap.size x (x.alloc o) := fun x o => (Below.refl _ _).alloc (Nat.le_refl _) _
  refine ⟨itAt_go (itAt_go (itAt_go h1 (st _ _)) (st _ _)) k, ?_, ?_, ?_⟩
  · have := itAt_go (itAt_go h2 (st _ _)) k
    simpa using this
  · have := itAt_go h3 k
    simpa using this
  · refine ((((Below.refl w.heap.size w).alloc (Nat.le_refl _) _).alloc (by simp) _).alloc (by simp; omega) _).trans (k.mono (by simp; omega))
set_option maxHeartbeats 2000000 in
theorem l_toI (up : Int) (nm tx : ByteArray) (a : Option Addr) (n c : Nat) (N V : Nat → ByteArray) (w : World) (hn : n ≤ 1048576) (hr : AtAt w a n N V w.heap.size) :
    Calls Tryz.prog 35 #[.agg #[.int .i64 up, .string nm, .string tx, .slice a n c]] w fun e w' => ∃ G, e = .returned (.agg #[.int .i64 up, .string nm, .string tx, .slice (some ⟨G, 0, none⟩) n n]) ∧ w.heap.size ≤ G ∧
      AtAt w' (some ⟨G, 0, none⟩) n N V w'.heap.size ∧ Below w.heap.size w w' := by
  have HR := hide hr
  clear hr
  go_enter Tryz.func35, Tryz.ntmps35
  go_wp2_with (go_at_call 65; refine (l_toAs _ _ _ N V _ hn (atAt_up (atAt_go HR.out ((((Below.refl _ _).alloc (Nat.le_refl _) _).alloc (by simp) _).alloc (by simp; omega) _)) (by simp; omega))).mono ?_; rintro e w2 ⟨rfl, hr2, hb2⟩; obtain ⟨hN1, hN2, hN3, hB⟩ := three_items hb2; have HN2 := hide hN2; have HR2 := hide hr2; have HB := hide hB; obtain ⟨a0, a1, a2, a3⟩ := itAt_cells hN1; obtain ⟨b0, b1, b2, b3⟩ := itAt_cells hN2; obtain ⟨c0, c1, c2, c3⟩ := itAt_cells hN3; have f0 := itAt_frozen hN2; have g0 := itAt_frozen hN3; clear hb2 hr2 hN1 hN2 hN3 hB)
  refine bodyPost_ret (v := .agg #[.int .i64 up, .string nm, .string tx, .slice (some ⟨w.heap.size + 1 + 1 + 1, 0, none⟩) n n]) ?_ rfl ⟨_, rfl, by omega, ?_, ?_⟩
  · obtain ⟨T, hT⟩ := itAt_sets (up' := up) (nm' := nm) (tx' := tx) (a' := some ⟨w.heap.size + 1 + 1 + 1, 0, none⟩) (n' := n) (c' := n) (itAt_far HN2.out ⟨w.heap.size + 1 + 1, 3, none⟩ (.slice (some ⟨w.heap.size + 1 + 1 + 1, 0, none⟩) n n) (by simp))
    exact results_cell_row Tryz.results35 _ _ (w.heap.size + 1) T _ _ _ rfl hT Tryz.underlying66 rfl (by kernel_rfl)
  · have h := HR2.out
    simp only [heap_setCell_size]
    iterate 5 (refine atAt_set ?_ _ _ (by simp))
    simpa using h
  · iterate 5 (refine Below.setCell ?_ (by simp; try omega) _)
    exact HB.out
/-- Of a row of cells the first k items are those of D, each with its attributes in a block of its own above g. -/
def Quad (w : World) (g : Nat) (xs : List Value) (k : Nat) (D : Dc) : Prop := ∀ j, j < k → ∃ G, g < G ∧ (xs[j * 4]? = some (.int .i64 (D.U j)) ∧ xs[j * 4 + 1]? = some (.string (D.NM j)) ∧ xs[j * 4 + 2]? = some (.string (D.TX j)) ∧ xs[j * 4 + 3]? = some (.slice (some ⟨G, 0, none⟩) (D.AC j) (D.AC j))) ∧ AtAt w (some ⟨G, 0, none⟩) (D.AC j) (D.AN j) (D.AV j) w.heap.size
theorem quad_go {w w' : World} {g k : Nat} {xs : List Value} {D : Dc} (h : Quad w g xs k D) (hb : Below w.heap.size w w') : Quad w' g xs k D := fun j hj => by
  obtain ⟨G, hG, hc, hr⟩ := h j hj
  exact ⟨G, hG, hc, atAt_up (atAt_go hr hb) hb.size⟩
theorem quad_set {w : World} {g k o : Nat} {xs : List Value} {D : Dc} (h : Quad w g xs k D) (v : Value) : Quad (w.setCell ⟨g, o, none⟩ v) g xs k D := fun j hj => by
  obtain ⟨G, hG, hc, hr⟩ := h j hj
  refine ⟨G, hG, hc, ?_⟩
  rw [heap_setCell_size]
  exact atAt_set hr _ _ (by show g ≠ G; omega)
theorem quad_step {w : World} {g k n G : Nat} {xs : List Value} {D : Dc} (h : Quad w g xs k D) (hk : k < n) (hl : xs.length = n * 4) (hG : g < G) (hr : AtAt w (some ⟨G, 0, none⟩) (D.AC k) (D.AN k) (D.AV k) w.heap.size) :
    Quad w g ((((xs.set (k * 4) (.int .i64 (D.U k))).set (k * 4 + 1) (.string (D.NM k))).set (k * 4 + 2) (.string (D.TX k))).set (k * 4 + 3) (.slice (some ⟨G, 0, none⟩) (D.AC k) (D.AC k))) (k + 1) D := by
  intro j hj
  simp only [List.getElem?_set, List.length_set]
  by_cases e : j = k
  · subst e
    refine ⟨G, hG, ⟨?_, ?_, ?_, ?_⟩, hr⟩
    all_goals
      repeat (first | rw [if_pos rfl, if_pos (by omega)] | rw [if_neg (by omega)])
  · obtain ⟨G', hG', ⟨h0, h1, h2, h3⟩, hr'⟩ := h j (by omega)
    refine ⟨G', hG', ⟨?_, ?_, ?_, ?_⟩, hr'⟩
    all_goals
      repeat rw [if_neg (by omega)]
      assumption
theorem own_dc {w : World} {B g n t : Nat} {xs : List Value} {D : Dc} (hn : D.n = n) (h : w.ownsRow B t 4 (.slice (some ⟨g, 0, none⟩) n n) n xs) (hp : Quad w g xs n D) : DcAt w (some ⟨g, 0, none⟩) D w.heap.size := fun h0 => by
  have hg : g < w.heap.size := (h.lt g rfl).2
  refine ⟨g, 0, rfl, hg, fun j hj => ?_⟩
  obtain ⟨G, hG, ⟨h0, h1, h2, h3⟩, hr⟩ := hp j (by omega)
  refine ⟨some ⟨G, 0, none⟩, D.AC j, ⟨?_, ?_, ?_, ?_⟩, hr, Nat.le_refl _⟩
  · rw [Nat.zero_add, h.cellAt (j * 4) (by omega)]; exact h0
  · rw [Nat.zero_add, h.cellAt (j * 4 + 1) (by omega)]; exact h1
  · rw [Nat.zero_add, h.cellAt (j * 4 + 2) (by omega)]; exact h2
  · rw [Nat.zero_add, h.cellAt (j * 4 + 3) (by omega)]; exact h3
theorem infoI : (Tryz.prog.info? 66).map (fun i => (i.zero, i.size, i.bytes)) = some (some (.agg #[.int .i64 0, .string ⟨#[]⟩, .string ⟨#[]⟩, .slice none 0 0]), 4, 64) := by kernel_rfl
set_option maxRecDepth 100000 in
set_option maxHeartbeats 4000000 in
theorem l_toIs (D : Dc) (n : Nat) (a : Option Addr) (cap : Nat) (w : World) (hX : D.n = n) (hn : n ≤ 1048576) (hnr : ∀ j, j < n → D.AC j ≤ 1048576) (hr : DcAt w a D w.heap.size) :
    Calls Tryz.prog 8 #[.slice a n cap] w fun e w' => ∃ g, e = .returned (.slice (some ⟨g, 0, none⟩) n n) ∧ w.heap.size ≤ g ∧ DcAt w' (some ⟨g, 0, none⟩) D w'.heap.size ∧ Below w.heap.size w w' := by
  obtain ⟨i0, hi, hz0, hz1, hz2⟩ := info_parts infoI
  have HX := hide hX
  have HNR := hide hnr
  have HR := hide hr
  clear hr hnr hX
  go_enter Tryz.func8, Tryz.ntmps8
  go_wp2_with (at_make; refine wpList_make_full _ rfl _ _ 26 rfl w.heap.size 66 i0 (.agg #[.int .i64 0, .string ⟨#[]⟩, .string ⟨#[]⟩, .slice none 0 0]) 4 Tryz.underlying26 hi hz0 hz1 .i64 .i64 _ _ n rfl rfl rfl rfl (by rw [hz2]; omega) (by unfold maxLen; omega) (Nat.le_refl _) ?_; intro w1 hown hgrow)
  have hb1 : Below w.heap.size w w1 := (Below.refl _ _).grown hgrow (Nat.le_refl _) (fun k h => by cases h)
  clear hgrow
  go_loopw [4] (fun i wr => ∃ k : Nat, k ≤ n ∧ i = .int .i64 k ∧ (∃ xs, wr.ownsRow w.heap.size 66 4 (.slice (some ⟨w.heap.size, 0, none⟩) n n) n xs ∧ Quad wr w.heap.size xs k D) ∧ Below w.heap.size w wr) (fun i _ => n - (intOf i).toNat)
  case atStart => exact ⟨0, Nat.zero_le _, rfl, ⟨_, hown, fun j h => by omega⟩, hb1⟩
  case round =>
    clear hown hb1
    obtain ⟨k, hk, rfl, ⟨xs, hown, hp⟩, hb⟩ := hrel
    by_cases hlt : k < n
    · obtain ⟨b, off, rfl, hbs, hrow⟩ := HR.out (by rw [HX.out]; omega)
      obtain ⟨ad, cp, hc, hrg, -⟩ := hrow k (by rw [HX.out]; omega)
      obtain ⟨c0, c1, c2, c3⟩ := dcCells_go hc hbs hb
      have hnk := HNR.out k hlt
      have hlt2 : w.heap.size < wr.heap.size := (hown.lt w.heap.size rfl).2
      have HP := hide hp
      have HB := hide hb
      have HO := hide hown
      have HG := hide (atAt_up (atAt_go hrg hb) hb.size)
      clear hp hb hc hown hrg hrow
      go_wp2_with (go_at_call 35; refine (l_toI _ _ _ _ _ _ (D.AN k) (D.AV k) _ hnk HG.out).mono ?_; rintro e w2 ⟨G, rfl, hG, hr2, hb2⟩; have hown2 := own_after HO.out hb2; have hf0 := hown2.frozenAt (k * 4); obtain ⟨x0, hx0⟩ := own_someN hown2 (k * 4) (by omega); have hf1 := hown2.frozenAt (k * 4 + 1); obtain ⟨x1, hx1⟩ := own_someN hown2 (k * 4 + 1) (by omega); have hf2 := hown2.frozenAt (k * 4 + 2); obtain ⟨x2, hx2⟩ := own_someN hown2 (k * 4 + 2) (by omega); have hf3 := hown2.frozenAt (k * 4 + 3); obtain ⟨x3, hx3⟩ := own_someN hown2 (k * 4 + 3) (by omega); replace HB := hide (HB.out.trans (hb2.mono HB.out.size)); replace HO := hide hown2; replace HP := hide (quad_go HP.out hb2); have HG2 := hide hr2; have HGl := hide hG; clear hown2 hb2 hr2 hG)
      go_roundw
      case rel =>
        refine ⟨k + 1, by omega, by go_num, ⟨_, ((((HO.out.stored (k * 4) (.int .i64 (D.U k))).1.stored (k * 4 + 1) (.string (D.NM k))).1.stored (k * 4 + 2) (.string (D.TX k))).1.stored (k * 4 + 3) (.slice (some ⟨G, 0, none⟩) (D.AC k) (D.AC k))).1, ?_⟩, ?_⟩
        · have h := quad_step HP.out hlt HO.out.1 (Nat.lt_of_lt_of_le hlt2 HGl.out) HG2.out
          replace h := quad_set (o := k * 4) h (.int .i64 (D.U k))
          replace h := quad_set (o := k * 4 + 1) h (.string (D.NM k))
          replace h := quad_set (o := k * 4 + 2) h (.string (D.TX k))
          replace h := quad_set (o := k * 4 + 3) h (.slice (some ⟨G, 0, none⟩) (D.AC k) (D.AC k))
          exact h
        · iterate 4 (refine Below.setCell ?_ (Nat.le_refl w.heap.size) _)
          exact HB.out
      case measure => simp [intOf]; omega
    · have hkn : k = n := by omega
      subst hkn
      go_wp2
      go_ret
      exact ⟨_, rfl, Nat.le_refl _, own_dc HX.out hown hp, hb⟩
end Go.Proofs.YtfbahffljhnjbaaGreatDoor
