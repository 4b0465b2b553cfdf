/-
  Texts put together: KyTo, KyLk, TbC, ItEq.
-/
import Derived.Test.YtfbahffljhnjbaaGreatDoorC5
import Derived.Test.YtfbahffljhnjbaaGreatDoorC39
import Derived.Test.YtfbahffljhnjbaaGreatDoorC2
/-
  Contracts of the laws' helpers on rows of keys: the copy of a row.
-/
namespace Go.Proofs.YtfbahffljhnjbaaGreatDoor
open Go.RowKit Go.Joins
set_option linter.unusedVariables false
set_option linter.unusedSimpArgs false
/-- Of a row of cells the first k keys are those of L, each with its texts in a block of its own above g. -/
def SixN (w : World) (g : Nat) (xs : List Value) (k : Nat) (L : List Ky) : Prop := ∀ j, j < k → ∃ G, g < G ∧ (xs[j * 6]? = some (.string (kyA L j).nm) ∧ xs[j * 6 + 1]? = some (.int .i64 (kyA L j).kd) ∧ xs[j * 6 + 2]? = some (.string (kyA L j).on) ∧ xs[j * 6 + 3]? = some (.string (kyA L j).pa) ∧ xs[j * 6 + 4]? = some (.slice (some ⟨G, 0, none⟩) (kyA L j).fl.length (kyA L j).fl.length) ∧ xs[j * 6 + 5]? = some (.string (kyA L j).re)) ∧ TxAt w (some ⟨G, 0, none⟩) (kyA L j).fl w.heap.size
theorem sixN_go {w w' : World} {g k : Nat} {xs : List Value} {L : List Ky} (h : SixN w g xs k L) (hb : Below w.heap.size w w') : SixN w' g xs k L := fun j hj => by
  obtain ⟨G, hG, hc, hr⟩ := h j hj
  exact ⟨G, hG, hc, tx_up (tx_go hr hb) hb.size⟩
theorem sixN_set {w : World} {g k o : Nat} {xs : List Value} {L : List Ky} (h : SixN w g xs k L) (v : Value) : SixN (w.setCell ⟨g, o, none⟩ v) g xs k L := fun j hj => by
  obtain ⟨G, hG, hc, hr⟩ := h j hj
  refine ⟨G, hG, hc, ?_⟩
  rw [heap_setCell_size]
  exact tx_set hr _ _ (by show g ≠ G; omega)
theorem sixN_step {w : World} {g k n G : Nat} {xs : List Value} {L : List Ky} (h : SixN w g xs k L) (hk : k < n) (hl : xs.length = n * 6) (hG : g < G) (hr : TxAt w (some ⟨G, 0, none⟩) (kyA L k).fl w.heap.size) :
    SixN w g ((((((xs.set (k * 6) (.string (kyA L k).nm)).set (k * 6 + 1) (.int .i64 (kyA L k).kd)).set (k * 6 + 2) (.string (kyA L k).on)).set (k * 6 + 3) (.string (kyA L k).pa)).set (k * 6 + 4) (.slice (some ⟨G, 0, none⟩) (kyA L k).fl.length (kyA L k).fl.length)).set (k * 6 + 5) (.string (kyA L k).re)) (k + 1) L := by
  intro j hj
  simp only [List.getElem?_set, List.length_set]
  by_cases e : j = k
  · subst e
    refine ⟨G, hG, ⟨?_, ?_, ?_, ?_, ?_, ?_⟩, hr⟩
    all_goals
      repeat (first | rw [if_pos rfl, if_pos (by omega)] | rw [if_neg (by omega)])
  · obtain ⟨G', hG', ⟨h0, h1, h2, h3, h4, h5⟩, hr'⟩ := h j (by omega)
    refine ⟨G', hG', ⟨?_, ?_, ?_, ?_, ?_, ?_⟩, hr'⟩
    all_goals
      repeat rw [if_neg (by omega)]
      assumption
theorem own_ky {w : World} {B g n t : Nat} {xs : List Value} {L : List Ky} (hn : L.length = n) (h : w.ownsRow B t 6 (.slice (some ⟨g, 0, none⟩) n n) n xs) (hp : SixN w g xs n L) : KyAt w (some ⟨g, 0, none⟩) L w.heap.size := fun h0 => by
  have hg : g < w.heap.size := (h.lt g rfl).2
  refine ⟨g, 0, rfl, hg, fun j hj => ?_⟩
  obtain ⟨G, hG, ⟨h0, h1, h2, h3, h4, h5⟩, hr⟩ := hp j (by omega)
  refine ⟨some ⟨G, 0, none⟩, (kyA L j).fl.length, ⟨?_, ?_, ?_, ?_, ?_, ?_⟩, hr, Nat.le_refl _⟩
  · rw [Nat.zero_add, h.cellAt (j * 6) (by omega)]; exact h0
  · rw [Nat.zero_add, h.cellAt (j * 6 + 1) (by omega)]; exact h1
  · rw [Nat.zero_add, h.cellAt (j * 6 + 2) (by omega)]; exact h2
  · rw [Nat.zero_add, h.cellAt (j * 6 + 3) (by omega)]; exact h3
  · rw [Nat.zero_add, h.cellAt (j * 6 + 4) (by omega)]; exact h4
  · rw [Nat.zero_add, h.cellAt (j * 6 + 5) (by omega)]; exact h5
theorem infoK : (Tryz.prog.info? 37).map (fun i => (i.zero, i.size, i.bytes)) = some (some (.agg #[.string ⟨#[]⟩, .int .i64 0, .string ⟨#[]⟩, .string ⟨#[]⟩, .slice none 0 0, .string ⟨#[]⟩]), 6, 96) := by kernel_rfl
set_option maxRecDepth 100000 in
set_option maxHeartbeats 8000000 in
theorem l_toKs (L : List Ky) (n : Nat) (a : Option Addr) (cap : Nat) (w : World) (hX : L.length = n) (hn : n ≤ 1048576) (hnr : ∀ j, j < n → (kyA L j).fl.length ≤ 1048576) (hr : KyAt w a L w.heap.size) :
    Calls Tryz.prog 23 #[.slice a n cap] w fun e w' => ∃ g, e = .returned (.slice (some ⟨g, 0, none⟩) n n) ∧ w.heap.size ≤ g ∧ KyAt w' (some ⟨g, 0, none⟩) L w'.heap.size ∧ Below w.heap.size w w' := by
  obtain ⟨i0, hi, hz0, hz1, hz2⟩ := info_parts infoK
  have HX := hide hX
  have HNR := hide hnr
  have HR := hide hr
  clear hr hnr hX
  go_enter Tryz.func23, Tryz.ntmps23
  go_wp2_with (at_make; refine wpList_make_full _ rfl _ _ 49 rfl w.heap.size 37 i0 (.agg #[.string ⟨#[]⟩, .int .i64 0, .string ⟨#[]⟩, .string ⟨#[]⟩, .slice none 0 0, .string ⟨#[]⟩]) 6 Tryz.underlying49 hi hz0 hz1 .i64 .i64 _ _ n rfl rfl rfl rfl (by rw [hz2]; omega) (by unfold maxLen; omega) (Nat.le_refl _) ?_; intro w1 hown hgrow)
  have hb1 : Below w.heap.size w w1 := (Below.refl _ _).grown hgrow (Nat.le_refl _) (fun k h => by cases h)
  clear hgrow
  go_loopw [4] (fun i wr => ∃ k : Nat, k ≤ n ∧ i = .int .i64 k ∧ (∃ xs, wr.ownsRow w.heap.size 37 6 (.slice (some ⟨w.heap.size, 0, none⟩) n n) n xs ∧ SixN wr w.heap.size xs k L) ∧ Below w.heap.size w wr) (fun i _ => n - (intOf i).toNat)
  case atStart => exact ⟨0, Nat.zero_le _, rfl, ⟨_, hown, fun j h => by omega⟩, hb1⟩
  case round =>
    clear hown hb1
    obtain ⟨k, hk, rfl, ⟨xs, hown, hp⟩, hb⟩ := hrel
    by_cases hlt : k < n
    · obtain ⟨b, off, rfl, hbs, hrow⟩ := HR.out (fun e => by have := HX.out; rw [e] at this; simp at this; omega)
      obtain ⟨ad, cp, hc, hrg, -⟩ := hrow k (by rw [HX.out]; omega)
      obtain ⟨c0, c1, c2, c3, c4, c5⟩ := kyC_go hc hbs hb
      have hnk := HNR.out k hlt
      have hlt2 : w.heap.size < wr.heap.size := (hown.lt w.heap.size rfl).2
      have HP := hide hp
      have HB := hide hb
      have HO := hide hown
      have HG := hide (tx_up (tx_go hrg hb) hb.size)
      clear hp hb hc hown hrg hrow
      go_wp2_with (go_at_call 13; refine (l_toK _ _ _ _ _ (kyA L k).fl _ _ _ _ rfl hnk HG.out).mono ?_; rintro e w2 ⟨G, rfl, hG, hr2, hb2⟩; have hown2 := own_after HO.out hb2; have hf0 := hown2.frozenAt (k * 6); obtain ⟨x0, hx0⟩ := own_someN hown2 (k * 6) (by omega); have hf1 := hown2.frozenAt (k * 6 + 1); obtain ⟨x1, hx1⟩ := own_someN hown2 (k * 6 + 1) (by omega); have hf2 := hown2.frozenAt (k * 6 + 2); obtain ⟨x2, hx2⟩ := own_someN hown2 (k * 6 + 2) (by omega); have hf3 := hown2.frozenAt (k * 6 + 3); obtain ⟨x3, hx3⟩ := own_someN hown2 (k * 6 + 3) (by omega); have hf4 := hown2.frozenAt (k * 6 + 4); obtain ⟨x4, hx4⟩ := own_someN hown2 (k * 6 + 4) (by omega); have hf5 := hown2.frozenAt (k * 6 + 5); obtain ⟨x5, hx5⟩ := own_someN hown2 (k * 6 + 5) (by omega); replace HB := hide (HB.out.trans (hb2.mono HB.out.size)); replace HO := hide hown2; replace HP := hide (sixN_go HP.out hb2); have HG2 := hide hr2; have HGl := hide hG; clear hown2 hb2 hr2 hG)
      go_roundw
      case rel =>
        refine ⟨k + 1, by omega, by go_num, ⟨_, ((((((HO.out.stored (k * 6) (.string (kyA L k).nm)).1.stored (k * 6 + 1) (.int .i64 (kyA L k).kd)).1.stored (k * 6 + 2) (.string (kyA L k).on)).1.stored (k * 6 + 3) (.string (kyA L k).pa)).1.stored (k * 6 + 4) (.slice (some ⟨G, 0, none⟩) (kyA L k).fl.length (kyA L k).fl.length)).1.stored (k * 6 + 5) (.string (kyA L k).re)).1, ?_⟩, ?_⟩
        · have h := sixN_step HP.out hlt HO.out.1 (Nat.lt_of_lt_of_le hlt2 HGl.out) HG2.out
          replace h := sixN_set (o := k * 6) h (.string (kyA L k).nm)
          replace h := sixN_set (o := k * 6 + 1) h (.int .i64 (kyA L k).kd)
          replace h := sixN_set (o := k * 6 + 2) h (.string (kyA L k).on)
          replace h := sixN_set (o := k * 6 + 3) h (.string (kyA L k).pa)
          replace h := sixN_set (o := k * 6 + 4) h (.slice (some ⟨G, 0, none⟩) (kyA L k).fl.length (kyA L k).fl.length)
          replace h := sixN_set (o := k * 6 + 5) h (.string (kyA L k).re)
          exact h
        · iterate 6 (refine Below.setCell ?_ (Nat.le_refl w.heap.size) _)
          exact HB.out
      case measure => simp [intOf]; omega
    · have hkn : k = n := by omega
      subst hkn
      go_wp2
      go_ret
      exact ⟨_, rfl, Nat.le_refl _, own_ky HX.out hown hp, hb⟩
end Go.Proofs.YtfbahffljhnjbaaGreatDoor

/-
  Contracts of the laws' helpers on rows of keys: that two rows that are alike are told so.
-/
namespace Go.Proofs.YtfbahffljhnjbaaGreatDoor
open Go.RowKit Go.Joins
set_option linter.unusedVariables false
set_option linter.unusedSimpArgs false
theorem kd_two {w w2 : World} {c1 c2 : Array Value} {T U : TypeId} (hb : Below ((w.alloc (.cells c1 T)).alloc (.cells c2 U)).heap.size ((w.alloc (.cells c1 T)).alloc (.cells c2 U)) w2) :
    KdAt w2 w.heap.size c1 ∧ KdAt w2 (w.heap.size + 1) c2 ∧ Below w.heap.size w w2 := by
  have h1 := kd_new w c1 T
  have h2 := kd_new (w.alloc (.cells c1 T)) c2 U
  have st : ∀ (x : World) (o : Obj), Below x.heap.size x (x.alloc o) := fun x o => (Below.refl _ _).alloc (Nat.le_refl _) _
  refine ⟨kd_go (kd_go h1 (st _ _)) hb, ?_, ?_⟩
  · have := kd_go h2 hb
    simpa using this
  · exact (((Below.refl w.heap.size w).alloc (Nat.le_refl _) _).alloc (by simp) _).trans (hb.mono (by simp; omega))
set_option maxRecDepth 100000 in
set_option maxHeartbeats 4000000 in
theorem l_eqK (nm : ByteArray) (kd : Int) (on pa : ByteArray) (a a' : Option Addr) (fl : List ByteArray) (n c c' : Nat) (re : ByteArray) (w : World) (hL : fl.length = n) (hn : n ≤ 1048576) (hr : TxAt w a fl w.heap.size) (hr' : TxAt w a' fl w.heap.size) :
    Calls Tryz.prog 16 #[.agg #[.string nm, .int .i64 kd, .string on, .string pa, .slice a n c, .string re], .agg #[.string nm, .int .i64 kd, .string on, .string pa, .slice a' n c', .string re]] w fun e w' => e = .returned (.bool true) ∧ Below w.heap.size w w' := by
  have HR := hide hr
  have HR' := hide hr'
  have HL := hide hL
  clear hr hr' hL
  go_enter Tryz.func16, Tryz.ntmps16
  go_wp2_with (go_at_call 46; refine (eq_strs _ _ _ _ _ fl _ HL.out hn (tx_up (tx_go HR.out (((Below.refl _ _).alloc (Nat.le_refl _) _).alloc (by simp) _)) (by simp; omega)) (tx_up (tx_go HR'.out (((Below.refl _ _).alloc (Nat.le_refl _) _).alloc (by simp) _)) (by simp; omega))).mono ?_; rintro e w2 ⟨rfl, hb2⟩; have HX2 := hide (kd_two hb2); have a5 := kd_cell HX2.out.1 5; have b5 := kd_cell HX2.out.2.1 5; simp at a5 b5; clear hb2)
  go_ret
  exact ⟨rfl, HX2.out.2.2⟩
def EQK (w w' : World) (b o b' o' : Nat) (x : Ky) (ad : Option Addr) (cp : Nat) (ad' : Option Addr) (cp' : Nat) : Prop := Below w.heap.size w w' ∧ (b < w.heap.size ∧ b' < w.heap.size) ∧
  KyC w' b o x ad cp ∧ KyC w' b' o' x ad' cp' ∧ TxAt w' ad x.fl w.heap.size ∧ TxAt w' ad' x.fl w.heap.size
section
variable {w w1 w2 : World} {b o b' o' : Nat} {x : Ky} {ad : Option Addr} {cp : Nat} {ad' : Option Addr} {cp' : Nat}
theorem eqk_go (h0 : EQK w w1 b o b' o' x ad cp ad' cp') (h : Below w1.heap.size w1 w2) : EQK w w2 b o b' o' x ad cp ad' cp' := by
  obtain ⟨hb, ⟨h1, h2⟩, c1, c2, r1, r2⟩ := h0
  have hh := h.mono hb.size
  exact ⟨hb.trans hh, ⟨h1, h2⟩, kyC_go c1 h1 hh, kyC_go c2 h2 hh, tx_go r1 hh, tx_go r2 hh⟩
theorem eqk_drew (h : EQK w w1 b o b' o' x ad cp ad' cp') : EQK w w1.drew b o b' o' x ad cp ad' cp' := eqk_go h ⟨rfl, rfl, rfl, Nat.le_refl _, fun _ _ => rfl⟩
theorem eqk_all (h : EQK w w1 b o b' o' x ad cp ad' cp') : EQK w w1 b o b' o' x ad cp ad' cp' ∧ (w1.cell? ⟨b, o, none⟩ = some (.string x.nm) ∧ w1.cell? ⟨b, o + 1, none⟩ = some (.int .i64 x.kd) ∧ w1.cell? ⟨b, o + 2, none⟩ = some (.string x.on) ∧ w1.cell? ⟨b, o + 3, none⟩ = some (.string x.pa) ∧ w1.cell? ⟨b, o + 4, none⟩ = some (.slice ad x.fl.length cp) ∧ w1.cell? ⟨b, o + 5, none⟩ = some (.string x.re)) ∧ w1.cell? ⟨b', o', none⟩ = some (.string x.nm) ∧ w1.cell? ⟨b', o' + 1, none⟩ = some (.int .i64 x.kd) ∧ w1.cell? ⟨b', o' + 2, none⟩ = some (.string x.on) ∧ w1.cell? ⟨b', o' + 3, none⟩ = some (.string x.pa) ∧ w1.cell? ⟨b', o' + 4, none⟩ = some (.slice ad' x.fl.length cp') ∧ w1.cell? ⟨b', o' + 5, none⟩ = some (.string x.re) := ⟨h, h.2.2.1, h.2.2.2.1⟩
theorem eqk_r1 (h : EQK w w1 b o b' o' x ad cp ad' cp') : TxAt w1 ad x.fl w1.heap.size := tx_up h.2.2.2.2.1 h.1.size
theorem eqk_r2 (h : EQK w w1 b o b' o' x ad cp ad' cp') : TxAt w1 ad' x.fl w1.heap.size := tx_up h.2.2.2.2.2 h.1.size
end
set_option maxRecDepth 100000 in
set_option maxHeartbeats 8000000 in
theorem l_eqKs (L : List Ky) (n : Nat) (a1 a2 : Option Addr) (c1 c2 : Nat) (w : World) (hX : L.length = n) (hn : n ≤ 1048576) (hnr : ∀ j, j < n → (kyA L j).fl.length ≤ 1048576) (h1 : KyAt w a1 L w.heap.size) (h2 : KyAt w a2 L w.heap.size) :
    Calls Tryz.prog 26 #[.slice a1 n c1, .slice a2 n c2] w fun e w' => e = .returned (.bool true) ∧ Below w.heap.size w w' := by
  have HX := hide hX
  have HNR := hide hnr
  have H1 := hide h1
  have H2 := hide h2
  clear h1 h2 hnr hX
  go_enter Tryz.func26, Tryz.ntmps26
  go_wp2
  go_loopw [5] (fun i wr => ∃ k : Nat, k ≤ n ∧ i = .int .i64 k ∧ Below w.heap.size w wr) (fun i _ => n - (intOf i).toNat)
  case atStart => exact ⟨0, Nat.zero_le _, rfl, Below.refl _ _⟩
  case round =>
    obtain ⟨k, hk, rfl, hb⟩ := hrel
    by_cases hlt : k < n
    · obtain ⟨b, off, rfl, hbs, hc⟩ := H1.out (fun e => by have := HX.out; rw [e] at this; simp at this; omega)
      obtain ⟨b', off', rfl, hbs', hc'⟩ := H2.out (fun e => by have := HX.out; rw [e] at this; simp at this; omega)
      obtain ⟨ad, cp, hk1, hr1, -⟩ := hc k (by rw [HX.out]; omega)
      obtain ⟨ad', cp', hk2, hr2, -⟩ := hc' k (by rw [HX.out]; omega)
      have hnk := HNR.out k hlt
      obtain ⟨x, hx⟩ : ∃ x, kyA L k = x := ⟨_, rfl⟩
      rw [hx] at hk1 hk2 hr1 hr2 hnk
      have XX : Hid (EQK w wr b (off + k * 6) b' (off' + k * 6) x ad cp ad' cp') := ⟨hb, ⟨hbs, hbs'⟩, kyC_go hk1 hbs hb, kyC_go hk2 hbs' hb, tx_go hr1 hb, tx_go hr2 hb⟩
      have hi : (k : Int) < (n : Int) := by omega
      have hi0 : (0 : Int) ≤ (k : Int) := by omega
      clear hc hc' hb hk1 hk2 hr1 hr2 hx
      go_wp2
      go_region_held3 (fun w' => EQK w w' b (off + k * 6) b' (off' + k * 6) x ad cp ad' cp' ∧ (w'.cell? ⟨b, off + k * 6, none⟩ = some (.string x.nm) ∧ w'.cell? ⟨b, off + k * 6 + 1, none⟩ = some (.int .i64 x.kd) ∧ w'.cell? ⟨b, off + k * 6 + 2, none⟩ = some (.string x.on) ∧ w'.cell? ⟨b, off + k * 6 + 3, none⟩ = some (.string x.pa) ∧ w'.cell? ⟨b, off + k * 6 + 4, none⟩ = some (.slice ad x.fl.length cp) ∧ w'.cell? ⟨b, off + k * 6 + 5, none⟩ = some (.string x.re)) ∧ w'.cell? ⟨b', off' + k * 6, none⟩ = some (.string x.nm) ∧ w'.cell? ⟨b', off' + k * 6 + 1, none⟩ = some (.int .i64 x.kd) ∧ w'.cell? ⟨b', off' + k * 6 + 2, none⟩ = some (.string x.on) ∧ w'.cell? ⟨b', off' + k * 6 + 3, none⟩ = some (.string x.pa) ∧ w'.cell? ⟨b', off' + k * 6 + 4, none⟩ = some (.slice ad' x.fl.length cp') ∧ w'.cell? ⟨b', off' + k * 6 + 5, none⟩ = some (.string x.re)) (first | assumption | exact eqk_all (eqk_drew XX.out) | exact eqk_all XX.out) (first | (go_at_call 16; refine (l_eqK _ _ _ _ _ _ x.fl _ _ _ _ _ rfl hnk (eqk_r1 (And.left (by assumption))) (eqk_r2 (And.left (by assumption)))).mono ?_; rintro e w2 ⟨rfl, hb2⟩; have X2 := hide (eqk_go (eqk_drew XX.out) hb2); replace XX := X2; clear X2 hb2))
      all_goals
        go_wp2
        go_roundw
        case rel => exact ⟨k + 1, by omega, by go_num, XX.out.1⟩
        case measure => simp [intOf]; omega
    · go_wp2
      go_ret
      exact ⟨rfl, hb⟩
end Go.Proofs.YtfbahffljhnjbaaGreatDoor

/-
  Contracts of the laws' helpers on one key: a copy whose row of fields is its own, marks on it.
-/
namespace Go.Proofs.YtfbahffljhnjbaaGreatDoor
open Go.RowKit Go.Joins
set_option linter.unusedVariables false
set_option linter.unusedSimpArgs false
theorem gk_setP (w : World) (a : Addr) (u : Value) : w.grownBy (w.setCell a u) (some a.block) :=
  ⟨rfl, rfl, rfl, by simp, fun k _ hk => heap_setCell_other w a k u (fun e => hk (by rw [e]))⟩
theorem own_setO {w : World} {B G n m : Nat} {t : TypeId} {xs : List Value} (h : w.ownsRow B t 1 (.slice (some ⟨G, 0, none⟩) n m) n xs) (p : Addr) (u : Value) (hne : p.block ≠ G) : (w.setCell p u).ownsRow B t 1 (.slice (some ⟨G, 0, none⟩) n m) n xs :=
  own_keptB h (gk_setP w p u) (fun k hk e => by
    have e1 : (Value.slice (some ⟨G, 0, none⟩) n m).ownBlock = some G := rfl
    rw [e1] at e
    cases e
    cases hk
    exact hne rfl)
set_option maxRecDepth 100000 in
set_option maxHeartbeats 4000000 in
theorem l_toKO (nm : ByteArray) (kd : Int) (on pa : ByteArray) (ad : Option Addr) (fl : List ByteArray) (n cp : Nat) (re : ByteArray) (w : World) (hL : fl.length = n) (hn : n ≤ 1048576) (hr : TxAt w ad fl w.heap.size) :
    Calls Tryz.prog 13 #[.agg #[.string nm, .int .i64 kd, .string on, .string pa, .slice ad n cp, .string re]] w fun e w' => ∃ G, e = .returned (.agg #[.string nm, .int .i64 kd, .string on, .string pa, .slice (some ⟨G, 0, none⟩) n n, .string re]) ∧ w.heap.size ≤ G ∧
      w'.ownsRow w.heap.size 9 1 (.slice (some ⟨G, 0, none⟩) n n) n (fl.map Value.string) ∧ Below w.heap.size w w' := by
  have HR := hide hr
  have HL := hide hL
  clear hr hL
  go_enter Tryz.func13, Tryz.ntmps13
  go_wp2_with (go_at_call 43; refine (to_strs _ _ _ fl _ HL.out hn (tx_up (tx_go HR.out ((((Below.refl _ _).alloc (Nat.le_refl _) _).alloc (by simp) _).alloc (by simp; omega) _)) (by simp; omega))).mono ?_; rintro e w2 ⟨rfl, hr2, hb2⟩; obtain ⟨hN1, hN2, hN3, hB⟩ := kd_three hb2; have HN2 := hide hN2; have HR2 := hide hr2; have HB := hide hB; have a5 := kd_cell hN1 5; have b0 := kd_cell hN2 0; have b1 := kd_cell hN2 1; have b2 := kd_cell hN2 2; have b3 := kd_cell hN2 3; have b4 := kd_cell hN2 4; have b5 := kd_cell hN2 5; have c0 := kd_cell hN3 0; have c1 := kd_cell hN3 1; have c2 := kd_cell hN3 2; have c3 := kd_cell hN3 3; have c4 := kd_cell hN3 4; have c5 := kd_cell hN3 5; have f0 := kd_frozen hN2; have g0 := kd_frozen hN3; simp at a5 b0 b1 b2 b3 b4 b5 c0 c1 c2 c3 c4 c5; clear hb2 hr2 hN1 hN2 hN3 hB)
  refine bodyPost_ret (v := .agg #[.string nm, .int .i64 kd, .string on, .string pa, .slice (some ⟨w.heap.size + 1 + 1 + 1, 0, none⟩) n n, .string re]) ?_ rfl ⟨_, rfl, by omega, ?_, ?_⟩
  · have h := kd_far (kd_far HN2.out ⟨w.heap.size + 1 + 1, 4, none⟩ (.slice (some ⟨w.heap.size + 1 + 1 + 1, 0, none⟩) n n) (by simp)) ⟨w.heap.size + 1 + 1, 5, none⟩ (.string re) (by simp)
    obtain ⟨T, hT⟩ := kd_set (kd_set (kd_set (kd_set (kd_set (kd_set h 0 (.string nm)) 1 (.int .i64 kd)) 2 (.string on)) 3 (.string pa)) 4 (.slice (some ⟨w.heap.size + 1 + 1 + 1, 0, none⟩) n n)) 5 (.string re)
    exact results_cell_row Tryz.results13 _ _ (w.heap.size + 1) T _ _ _ rfl hT Tryz.underlying37 rfl (by kernel_rfl)
  · have h := HR2.out
    simp at h
    iterate 8 (refine own_setO ?_ _ _ (by simp))
    exact gOwn_lower h (by omega)
  · iterate 8 (refine Below.setCell ?_ (by simp; try omega) _)
    exact HB.out
set_option maxRecDepth 100000 in
set_option maxHeartbeats 4000000 in
theorem l_markK (B G n s : Nat) (xs : List ByteArray) (nm : ByteArray) (kd : Int) (on pa re : ByteArray) (w : World) (hx : xs.length = n) (hn : n ≤ 1048576) (hs0 : 1 ≤ s) (hs1 : s ≤ 16777216) (hown : w.ownsRow B 9 1 (.slice (some ⟨G, 0, none⟩) n n) n (xs.map Value.string)) :
    Calls Tryz.prog 18 #[.agg #[.string nm, .int .i64 kd, .string on, .string pa, .slice (some ⟨G, 0, none⟩) n n, .string re], .int .i64 s] w fun e w' => e = .returned (.int .i64 (s + n : Nat)) ∧ w.grownBy w' (some G) := by
  have HC := hide (fun o => markK_any B (some ⟨G, 0, none⟩) n n s xs (w.alloc o) hx hn hs0 hs1 (hown.alloc o))
  clear hown hx
  go_enter Tryz.func18, Tryz.ntmps18
  go_wp2_with (go_at_call 49; refine (HC.out _).mono ?_; rintro e w2 ⟨rfl, ho2, hg2⟩; have HG := hide (gk_trans (World.grownBy_alloc w _ (some G)) hg2); clear ho2 hg2)
  go_ret
  exact ⟨rfl, HG.out⟩
end Go.Proofs.YtfbahffljhnjbaaGreatDoor

/-
  Contracts: two rows of items that are alike are told so.
-/
namespace Go.Proofs.YtfbahffljhnjbaaGreatDoor
open Go.RowKit Go.Joins
set_option linter.unusedVariables false
set_option linter.unusedSimpArgs false
theorem two_items {w w2 : World} {up : Int} {nm tx : ByteArray} {a a' : Option Addr} {n c c' : Nat} {T U : TypeId}
    (k : Below ((w.alloc (.cells #[.int .i64 up, .string nm, .string tx, .slice a n c] T)).alloc (.cells #[.int .i64 up, .string nm, .string tx, .slice a' n c'] U)).heap.size ((w.alloc (.cells #[.int .i64 up, .string nm, .string tx, .slice a n c] T)).alloc (.cells #[.int .i64 up, .string nm, .string tx, .slice a' n c'] U)) w2) :
    ItAt w2 w.heap.size up nm tx a n c ∧ ItAt w2 (w.heap.size + 1) up nm tx a' n c' ∧ Below w.heap.size w w2 := by
  have h1 := itAt_new w up nm tx a n c T
  have h2 := itAt_new (w.alloc (.cells #[.int .i64 up, .string nm, .string tx, .slice a n c] T)) up nm tx a' n c' U
  have st : ∀ (x : World) (o : Obj), Below x.heap.size x (x.alloc o) := fun x o => (Below.refl _ _).alloc (Nat.le_refl _) _
  refine ⟨itAt_go (itAt_go h1 (st _ _)) k, ?_, ?_⟩
  · have := itAt_go h2 k
    simpa using this
  · exact (((Below.refl w.heap.size w).alloc (Nat.le_refl _) _).alloc (by simp) _).trans (k.mono (by simp; omega))
set_option maxHeartbeats 4000000 in
theorem l_eqI (up : Int) (nm tx : ByteArray) (a a' : Option Addr) (n c c' : Nat) (N V : Nat → ByteArray) (w : World) (hn : n ≤ 1048576) (hr : AtAt w a n N V w.heap.size) (hr' : AtAt w a' n N V w.heap.size) : Calls Tryz.prog 39 #[.agg #[.int .i64 up, .string nm, .string tx, .slice a n c], .agg #[.int .i64 up, .string nm, .string tx, .slice a' n c']] w fun e w' => e = .returned (.bool true) ∧ Below w.heap.size w w' := by
  have HR := hide hr
  have HR' := hide hr'
  clear hr hr'
  go_enter Tryz.func39, Tryz.ntmps39
  go_wp2_with (go_at_call 74; refine (l_eqAs _ _ _ _ _ N V _ hn (atAt_up (atAt_go HR.out (((Below.refl _ _).alloc (Nat.le_refl _) _).alloc (by simp) _)) (by simp; omega)) (atAt_up (atAt_go HR'.out (((Below.refl _ _).alloc (Nat.le_refl _) _).alloc (by simp) _)) (by simp; omega))).mono ?_; rintro e w2 ⟨rfl, hb2⟩; have HX2 := hide (two_items hb2); obtain ⟨a0, a1, a2, a3⟩ := itAt_cells HX2.out.1; obtain ⟨b0, b1, b2, b3⟩ := itAt_cells HX2.out.2.1; clear hb2)
  go_ret
  exact ⟨rfl, HX2.out.2.2⟩
def EQI (w w' : World) (b o b' o' : Nat) (D : Dc) (k : Nat) (ad : Option Addr) (cp : Nat) (ad' : Option Addr) (cp' : Nat) : Prop := Below w.heap.size w w' ∧ (b < w.heap.size ∧ b' < w.heap.size) ∧
  DcCells w' b o D k ad cp ∧ DcCells w' b' o' D k ad' cp' ∧ AtAt w' ad (D.AC k) (D.AN k) (D.AV k) w.heap.size ∧ AtAt w' ad' (D.AC k) (D.AN k) (D.AV k) w.heap.size
section
variable {w w1 w2 : World} {b o b' o' : Nat} {D : Dc} {k : Nat} {ad : Option Addr} {cp : Nat} {ad' : Option Addr} {cp' : Nat}
theorem eqi_go (x : EQI w w1 b o b' o' D k ad cp ad' cp') (h : Below w1.heap.size w1 w2) : EQI w w2 b o b' o' D k ad cp ad' cp' := by
  obtain ⟨hb, ⟨h1, h2⟩, c1, c2, r1, r2⟩ := x
  have hh := h.mono hb.size
  exact ⟨hb.trans hh, ⟨h1, h2⟩, dcCells_go c1 h1 hh, dcCells_go c2 h2 hh, atAt_go r1 hh, atAt_go r2 hh⟩
theorem eqi_drew (x : EQI w w1 b o b' o' D k ad cp ad' cp') : EQI w w1.drew b o b' o' D k ad cp ad' cp' := eqi_go x ⟨rfl, rfl, rfl, Nat.le_refl _, fun _ _ => rfl⟩
theorem eqi_all (x : EQI w w1 b o b' o' D k ad cp ad' cp') : EQI w w1 b o b' o' D k ad cp ad' cp' ∧ (w1.cell? ⟨b, o, none⟩ = some (.int .i64 (D.U k)) ∧ w1.cell? ⟨b, o + 1, none⟩ = some (.string (D.NM k)) ∧ w1.cell? ⟨b, o + 2, none⟩ = some (.string (D.TX k)) ∧ w1.cell? ⟨b, o + 3, none⟩ = some (.slice ad (D.AC k) cp)) ∧ w1.cell? ⟨b', o', none⟩ = some (.int .i64 (D.U k)) ∧ w1.cell? ⟨b', o' + 1, none⟩ = some (.string (D.NM k)) ∧ w1.cell? ⟨b', o' + 2, none⟩ = some (.string (D.TX k)) ∧ w1.cell? ⟨b', o' + 3, none⟩ = some (.slice ad' (D.AC k) cp') := ⟨x, x.2.2.1, x.2.2.2.1⟩
theorem eqi_r1 (x : EQI w w1 b o b' o' D k ad cp ad' cp') : AtAt w1 ad (D.AC k) (D.AN k) (D.AV k) w1.heap.size := atAt_up x.2.2.2.2.1 x.1.size
theorem eqi_r2 (x : EQI w w1 b o b' o' D k ad cp ad' cp') : AtAt w1 ad' (D.AC k) (D.AN k) (D.AV k) w1.heap.size := atAt_up x.2.2.2.2.2 x.1.size
end
set_option maxRecDepth 100000 in
set_option maxHeartbeats 4000000 in
theorem l_eqIs (D : Dc) (n : Nat) (a1 a2 : Option Addr) (c1 c2 : Nat) (w : World) (hX : D.n = n) (hn : n ≤ 1048576) (hnr : ∀ j, j < n → D.AC j ≤ 1048576) (h1 : DcAt w a1 D w.heap.size) (h2 : DcAt w a2 D w.heap.size) :
    Calls Tryz.prog 10 #[.slice a1 n c1, .slice a2 n c2] w fun e w' => e = .returned (.bool true) ∧ Below w.heap.size w w' := by
  have HX := hide hX
  have HNR := hide hnr
  have H1 := hide h1
  have H2 := hide h2
  clear h1 h2 hnr hX
  go_enter Tryz.func10, Tryz.ntmps10
  go_wp2
  go_loopw [5] (fun i wr => ∃ k : Nat, k ≤ n ∧ i = .int .i64 k ∧ Below w.heap.size w wr) (fun i _ => n - (intOf i).toNat)
  case atStart => exact ⟨0, Nat.zero_le _, rfl, Below.refl _ _⟩
  case round =>
    obtain ⟨k, hk, rfl, hb⟩ := hrel
    by_cases hlt : k < n
    · obtain ⟨b, off, rfl, hbs, hc⟩ := H1.out (by rw [HX.out]; omega)
      obtain ⟨b', off', rfl, hbs', hc'⟩ := H2.out (by rw [HX.out]; omega)
      obtain ⟨ad, cp, hk1, hr1, -⟩ := hc k (by rw [HX.out]; omega)
      obtain ⟨ad', cp', hk2, hr2, -⟩ := hc' k (by rw [HX.out]; omega)
      have hnk := HNR.out k hlt
      have XX : Hid (EQI w wr b (off + k * 4) b' (off' + k * 4) D k ad cp ad' cp') := ⟨hb, ⟨hbs, hbs'⟩, dcCells_go hk1 hbs hb, dcCells_go hk2 hbs' hb, atAt_go hr1 hb, atAt_go hr2 hb⟩
      have hi : (k : Int) < (n : Int) := by omega
      have hi0 : (0 : Int) ≤ (k : Int) := by omega
      clear hc hc' hb hk1 hk2 hr1 hr2
      go_wp2
      go_region_held3 (fun w' => EQI w w' b (off + k * 4) b' (off' + k * 4) D k ad cp ad' cp' ∧ (w'.cell? ⟨b, off + k * 4, none⟩ = some (.int .i64 (D.U k)) ∧ w'.cell? ⟨b, off + k * 4 + 1, none⟩ = some (.string (D.NM k)) ∧ w'.cell? ⟨b, off + k * 4 + 2, none⟩ = some (.string (D.TX k)) ∧ w'.cell? ⟨b, off + k * 4 + 3, none⟩ = some (.slice ad (D.AC k) cp)) ∧ w'.cell? ⟨b', off' + k * 4, none⟩ = some (.int .i64 (D.U k)) ∧ w'.cell? ⟨b', off' + k * 4 + 1, none⟩ = some (.string (D.NM k)) ∧ w'.cell? ⟨b', off' + k * 4 + 2, none⟩ = some (.string (D.TX k)) ∧ w'.cell? ⟨b', off' + k * 4 + 3, none⟩ = some (.slice ad' (D.AC k) cp')) (first | assumption | exact eqi_all (eqi_drew XX.out) | exact eqi_all XX.out) (first | (go_at_call 39; refine (l_eqI _ _ _ _ _ _ _ _ (D.AN k) (D.AV k) _ hnk (eqi_r1 (And.left (by assumption))) (eqi_r2 (And.left (by assumption)))).mono ?_; rintro e w2 ⟨rfl, hb2⟩; have X2 := hide (eqi_go (eqi_drew XX.out) hb2); replace XX := X2; clear X2 hb2))
      all_goals
        go_wp2
        go_roundw
        case rel => exact ⟨k + 1, by omega, by go_num, XX.out.1⟩
        case measure => simp [intOf]; omega
    · go_wp2
      go_ret
      exact ⟨rfl, hb⟩
end Go.Proofs.YtfbahffljhnjbaaGreatDoor
