/-
  Texts put together: KyLk, TbC.
-/
import Derived.Test.YtfbahffljhnjbaaGreatDoorD43
import Derived.Test.YtfbahffljhnjbaaGreatDoorD45
/-
  Contracts of the laws' helpers on rows of keys: that two rows that are alike are told so.
-/
namespace Go.Proofs.YtfbahffljhnjbaaGreatDoor
open Go.RowKit Go.Joins
set_option linter.unusedVariables false
set_option linter.unusedSimpArgs false
theorem kd_two {w w2 : World} {c1 c2 : Array Value} {T U : TypeId} (hb : Below ((w.alloc (.cells c1 T)).alloc (.cells c2 U)).heap.size ((w.alloc (.cells c1 T)).alloc (.cells c2 U)) w2) :
    KdAt w2 w.heap.size c1 ∧ KdAt w2 (w.heap.size + 1) c2 ∧ Below w.heap.size w w2 := by
  have h1 := kd_new w c1 T
  have h2 := kd_new (w.alloc (.cells c1 T)) c2 U
  have st : ∀ (x : World) (o : Obj), Below x.heap.size x (x.alloc o) := fun x o => (Below.refl _ _).alloc (Nat.le_refl _) _
  refine ⟨kd_go (kd_go h1 (st _ _)) hb, ?_, ?_⟩
  · have := kd_go h2 hb
    simpa using this
  · exact (((Below.refl w.heap.size w).alloc (Nat.le_refl _) _).alloc (by simp) _).trans (hb.mono (by simp; omega))
set_option maxRecDepth 100000 in
set_option maxHeartbeats 4000000 in
theorem l_eqK (nm : ByteArray) (kd : Int) (on pa : ByteArray) (a a' : Option Addr) (fl : List ByteArray) (n c c' : Nat) (re : ByteArray) (w : World) (hL : fl.length = n) (hn : n ≤ 1048576) (hr : TxAt w a fl w.heap.size) (hr' : TxAt w a' fl w.heap.size) :
    Calls Tryz.prog 16 #[.agg #[.string nm, .int .i64 kd, .string on, .string pa, .slice a n c, .string re], .agg #[.string nm, .int .i64 kd, .string on, .string pa, .slice a' n c', .string re]] w fun e w' => e = .returned (.bool true) ∧ Below w.heap.size w w' := by
  have HR := hide hr
  have HR' := hide hr'
  have HL := hide hL
  clear hr hr' hL
  go_enter Tryz.func16, Tryz.ntmps16
  go_wp2_with (go_at_call 46; refine (eq_strs _ _ _ _ _ fl _ HL.out hn (tx_up (tx_go HR.out (((Below.refl _ _).alloc (Nat.le_refl _) _).alloc (by simp) _)) (by simp; omega)) (tx_up (tx_go HR'.out (((Below.refl _ _).alloc (Nat.le_refl _) _).alloc (by simp) _)) (by simp; omega))).mono ?_; rintro e w2 ⟨rfl, hb2⟩; have HX2 := hide (kd_two hb2); have a5 := kd_cell HX2.out.1 5; have b5 := kd_cell HX2.out.2.1 5; simp at a5 b5; clear hb2)
  go_ret
  exact ⟨rfl, HX2.out.2.2⟩
def EQK (w w' : World) (b o b' o' : Nat) (x : Ky) (ad : Option Addr) (cp : Nat) (ad' : Option Addr) (cp' : Nat) : Prop := Below w.heap.size w w' ∧ (b < w.heap.size ∧ b' < w.heap.size) ∧
  KyC w' b o x ad cp ∧ KyC w' b' o' x ad' cp' ∧ TxAt w' ad x.fl w.heap.size ∧ TxAt w' ad' x.fl w.heap.size
section
variable {w w1 w2 : World} {b o b' o' : Nat} {x : Ky} {ad : Option Addr} {cp : Nat} {ad' : Option Addr} {cp' : Nat}
theorem eqk_go (h0 : EQK w w1 b o b' o' x ad cp ad' cp') (h : Below w1.heap.size w1 w2) : EQK w w2 b o b' o' x ad cp ad' cp' := by
  obtain ⟨hb, ⟨h1, h2⟩, c1, c2, r1, r2⟩ := h0
  have hh := h.mono hb.size
  exact ⟨hb.trans hh, ⟨h1, h2⟩, kyC_go c1 h1 hh, kyC_go c2 h2 hh, tx_go r1 hh, tx_go r2 hh⟩
theorem eqk_drew (h : EQK w w1 b o b' o' x ad cp ad' cp') : EQK w w1.drew b o b' o' x ad cp ad' cp' := eqk_go h ⟨rfl, rfl, rfl, Nat.le_refl _, fun _ _ => rfl⟩
theorem eqk_all (h : EQK w w1 b o b' o' x ad cp ad' cp') : EQK w w1 b o b' o' x ad cp ad' cp' ∧ (w1.cell? ⟨b, o, none⟩ = some (.string x.nm) ∧ w1.cell? ⟨b, o + 1, none⟩ = some (.int .i64 x.kd) ∧ w1.cell? ⟨b, o + 2, none⟩ = some (.string x.on) ∧ w1.cell? ⟨b, o + 3, none⟩ = some (.string x.pa) ∧ w1.cell? ⟨b, o + 4, none⟩ = some (.slice ad x.fl.length cp) ∧ w1.cell? ⟨b, o + 5, none⟩ = some (.string x.re)) ∧ w1.cell? ⟨b', o', none⟩ = some (.string x.nm) ∧ w1.cell? ⟨b', o' + 1, none⟩ = some (.int .i64 x.kd) ∧ w1.cell? ⟨b', o' + 2, none⟩ = some (.string x.on) ∧ w1.cell? ⟨b', o' + 3, none⟩ = some (.string x.pa) ∧ w1.cell? ⟨b', o' + 4, none⟩ = some (.slice ad' x.fl.length cp') ∧ w1.cell? ⟨b', o' + 5, none⟩ = some (.string x.re) := ⟨h, h.2.2.1, h.2.2.2.1⟩
theorem eqk_r1 (h : EQK w w1 b o b' o' x ad cp ad' cp') : TxAt w1 ad x.fl w1.heap.size := tx_up h.2.2.2.2.1 h.1.size
theorem eqk_r2 (h : EQK w w1 b o b' o' x ad cp ad' cp') : TxAt w1 ad' x.fl w1.heap.size := tx_up h.2.2.2.2.2 h.1.size
end
set_option maxRecDepth 100000 in
set_option maxHeartbeats 8000000 in
theorem l_eqKs (L : List Ky) (n : Nat) (a1 a2 : Option Addr) (c1 c2 : Nat) (w : World) (hX : L.length = n) (hn : n ≤ 1048576) (hnr : ∀ j, j < n → (kyA L j).fl.length ≤ 1048576) (h1 : KyAt w a1 L w.heap.size) (h2 : KyAt w a2 L w.heap.size) :
    Calls Tryz.prog 26 #[.slice a1 n c1, .slice a2 n c2] w fun e w' => e = .returned (.bool true) ∧ Below w.heap.size w w' := by
  have HX := hide hX
  have HNR := hide hnr
  have H1 := hide h1
  have H2 := hide h2
  clear h1 h2 hnr hX
  go_enter Tryz.func26, Tryz.ntmps26
  go_wp2
  go_loopw [5] (fun i wr => ∃ k : Nat, k ≤ n ∧ i = .int .i64 k ∧ Below w.heap.size w wr) (fun i _ => n - (intOf i).toNat)
  case atStart => exact ⟨0, Nat.zero_le _, rfl, Below.refl _ _⟩
  case round =>
    obtain ⟨k, hk, rfl, hb⟩ := hrel
    by_cases hlt : k < n
    · obtain ⟨b, off, rfl, hbs, hc⟩ := H1.out (fun e => by have := HX.out; rw [e] at this; simp at this; omega)
      obtain ⟨b', off', rfl, hbs', hc'⟩ := H2.out (fun e => by have := HX.out; rw [e] at this; simp at this; omega)
      obtain ⟨ad, cp, hk1, hr1, -⟩ := hc k (by rw [HX.out]; omega)
      obtain ⟨ad', cp', hk2, hr2, -⟩ := hc' k (by rw [HX.out]; omega)
      have hnk := HNR.out k hlt
      obtain ⟨x, hx⟩ : ∃ x, kyA L k = x := ⟨_, rfl⟩
      rw [hx] at hk1 hk2 hr1 hr2 hnk
      have XX : Hid (EQK w wr b (off + k * 6) b' (off' + k * 6) x ad cp ad' cp') := ⟨hb, ⟨hbs, hbs'⟩, kyC_go hk1 hbs hb, kyC_go hk2 hbs' hb, tx_go hr1 hb, tx_go hr2 hb⟩
      have hi : (k : Int) < (n : Int) := by omega
      have hi0 : (0 : Int) ≤ (k : Int) := by omega
      clear hc hc' hb hk1 hk2 hr1 hr2 hx
      go_wp2
      go_region_held3 (fun w' => EQK w w' b (off + k * 6) b' (off' + k * 6) x ad cp ad' cp' ∧ (w'.cell? ⟨b, off + k * 6, none⟩ = some (.string x.nm) ∧ w'.cell? ⟨b, off + k * 6 + 1, none⟩ = some (.int .i64 x.kd) ∧ w'.cell? ⟨b, off + k * 6 + 2, none⟩ = some (.string x.on) ∧ w'.cell? ⟨b, off + k * 6 + 3, none⟩ = some (.string x.pa) ∧ w'.cell? ⟨b, off + k * 6 + 4, none⟩ = some (.slice ad x.fl.length cp) ∧ w'.cell? ⟨b, off + k * 6 + 5, none⟩ = some (.string x.re)) ∧ w'.cell? ⟨b', off' + k * 6, none⟩ = some (.string x.nm) ∧ w'.cell? ⟨b', off' + k * 6 + 1, none⟩ = some (.int .i64 x.kd) ∧ w'.cell? ⟨b', off' + k * 6 + 2, none⟩ = some (.string x.on) ∧ w'.cell? ⟨b', off' + k * 6 + 3, none⟩ = some (.string x.pa) ∧ w'.cell? ⟨b', off' + k * 6 + 4, none⟩ = some (.slice ad' x.fl.length cp') ∧ w'.cell? ⟨b', off' + k * 6 + 5, none⟩ = some (.string x.re)) (first | assumption | exact eqk_all (eqk_drew XX.out) | exact eqk_all XX.out) (first | (go_at_call 16; refine (l_eqK _ _ _ _ _ _ x.fl _ _ _ _ _ rfl hnk (eqk_r1 (And.left (by assumption))) (eqk_r2 (And.left (by assumption)))).mono ?_; rintro e w2 ⟨rfl, hb2⟩; have X2 := hide (eqk_go (eqk_drew XX.out) hb2); replace XX := X2; clear X2 hb2))
      all_goals
        go_wp2
        go_roundw
        case rel => exact ⟨k + 1, by omega, by go_num, XX.out.1⟩
        case measure => simp [intOf]; omega
    · go_wp2
      go_ret
      exact ⟨rfl, hb⟩
end Go.Proofs.YtfbahffljhnjbaaGreatDoor

/-
  Contracts of the laws' helpers on one key: a copy whose row of fields is its own, marks on it.
-/
namespace Go.Proofs.YtfbahffljhnjbaaGreatDoor
open Go.RowKit Go.Joins
set_option linter.unusedVariables false
set_option linter.unusedSimpArgs false
theorem gk_setP (w : World) (a : Addr) (u : Value) : w.grownBy (w.setCell a u) (some a.block) :=
  ⟨rfl, rfl, rfl, by simp, fun k _ hk => heap_setCell_other w a k u (fun e => hk (by rw [e]))⟩
theorem own_setO {w : World} {B G n m : Nat} {t : TypeId} {xs : List Value} (h : w.ownsRow B t 1 (.slice (some ⟨G, 0, none⟩) n m) n xs) (p : Addr) (u : Value) (hne : p.block ≠ G) : (w.setCell p u).ownsRow B t 1 (.slice (some ⟨G, 0, none⟩) n m) n xs :=
  own_keptB h (gk_setP w p u) (fun k hk e => by
    have e1 : (Value.slice (some ⟨G, 0, none⟩) n m).ownBlock = some G := rfl
    rw [e1] at e
    cases e
    cases hk
    exact hne rfl)
set_option maxRecDepth 100000 in
set_option maxHeartbeats 4000000 in
theorem l_toKO (nm : ByteArray) (kd : Int) (on pa : ByteArray) (ad : Option Addr) (fl : List ByteArray) (n cp : Nat) (re : ByteArray) (w : World) (hL : fl.length = n) (hn : n ≤ 1048576) (hr : TxAt w ad fl w.heap.size) :
    Calls Tryz.prog 13 #[.agg #[.string nm, .int .i64 kd, .string on, .string pa, .slice ad n cp, .string re]] w fun e w' => ∃ G, e = .returned (.agg #[.string nm, .int .i64 kd, .string on, .string pa, .slice (some ⟨G, 0, none⟩) n n, .string re]) ∧ w.heap.size ≤ G ∧
      w'.ownsRow w.heap.size 9 1 (.slice (some ⟨G, 0, none⟩) n n) n (fl.map Value.string) ∧ Below w.heap.size w w' := by
  have HR := hide hr
  have HL := hide hL
  clear hr hL
  go_enter Tryz.func13, Tryz.ntmps13
  go_wp2_with (go_at_call 43; refine (to_strs _ _ _ fl _ HL.out hn (tx_up (tx_go HR.out ((((Below.refl _ _).alloc (Nat.le_refl _) _).alloc (by simp) _).alloc (by simp; omega) _)) (by simp; omega))).mono ?_; rintro e w2 ⟨rfl, hr2, hb2⟩; obtain ⟨hN1, hN2, hN3, hB⟩ := kd_three hb2; have HN2 := hide hN2; have HR2 := hide hr2; have HB := hide hB; have a5 := kd_cell hN1 5; have b0 := kd_cell hN2 0; have b1 := kd_cell hN2 1; have b2 := kd_cell hN2 2; have b3 := kd_cell hN2 3; have b4 := kd_cell hN2 4; have b5 := kd_cell hN2 5; have c0 := kd_cell hN3 0; have c1 := kd_cell hN3 1; have c2 := kd_cell hN3 2; have c3 := kd_cell hN3 3; have c4 := kd_cell hN3 4; have c5 := kd_cell hN3 5; have f0 := kd_frozen hN2; have g0 := kd_frozen hN3; simp at a5 b0 b1 b2 b3 b4 b5 c0 c1 c2 c3 c4 c5; clear hb2 hr2 hN1 hN2 hN3 hB)
  refine bodyPost_ret (v := .agg #[.string nm, .int .i64 kd, .string on, .string pa, .slice (some ⟨w.heap.size + 1 + 1 + 1, 0, none⟩) n n, .string re]) ?_ rfl ⟨_, rfl, by omega, ?_, ?_⟩
  · have h := kd_far (kd_far HN2.out ⟨w.heap.size + 1 + 1, 4, none⟩ (.slice (some ⟨w.heap.size + 1 + 1 + 1, 0, none⟩) n n) (by simp)) ⟨w.heap.size + 1 + 1, 5, none⟩ (.string re) (by simp)
    obtain ⟨T, hT⟩ := kd_set (kd_set (kd_set (kd_set (kd_set (kd_set h 0 (.string nm)) 1 (.int .i64 kd)) 2 (.string on)) 3 (.string pa)) 4 (.slice (some ⟨w.heap.size + 1 + 1 + 1, 0, none⟩) n n)) 5 (.string re)
    exact results_cell_row Tryz.results13 _ _ (w.heap.size + 1) T _ _ _ rfl hT Tryz.underlying37 rfl (by kernel_rfl)
  · have h := HR2.out
    simp at h
    iterate 8 (refine own_setO ?_ _ _ (by simp))
    exact gOwn_lower h (by omega)
  · iterate 8 (refine Below.setCell ?_ (by simp; try omega) _)
    exact HB.out
set_option maxRecDepth 100000 in
set_option maxHeartbeats 4000000 in
theorem l_markK (B G n s : Nat) (xs : List ByteArray) (nm : ByteArray) (kd : Int) (on pa re : ByteArray) (w : World) (hx : xs.length = n) (hn : n ≤ 1048576) (hs0 : 1 ≤ s) (hs1 : s ≤ 16777216) (hown : w.ownsRow B 9 1 (.slice (some ⟨G, 0, none⟩) n n) n (xs.map Value.string)) :
    Calls Tryz.prog 18 #[.agg #[.string nm, .int .i64 kd, .string on, .string pa, .slice (some ⟨G, 0, none⟩) n n, .string re], .int .i64 s] w fun e w' => e = .returned (.int .i64 (s + n : Nat)) ∧ w.grownBy w' (some G) := by
  have HC := hide (fun o => markK_any B (some ⟨G, 0, none⟩) n n s xs (w.alloc o) hx hn hs0 hs1 (hown.alloc o))
  clear hown hx
  go_enter Tryz.func18, Tryz.ntmps18
  go_wp2_with (go_at_call 49; refine (HC.out _).mono ?_; rintro e w2 ⟨rfl, ho2, hg2⟩; have HG := hide (gk_trans (World.grownBy_alloc w _ (some G)) hg2); clear ho2 hg2)
  go_ret
  exact ⟨rfl, HG.out⟩
end Go.Proofs.YtfbahffljhnjbaaGreatDoor
