/-
  Contracts of the laws' helpers on rows of keys: that two rows that are alike are told so.
-/
import Derived.Test.YtkfhhgfmjkjldaaDoorKyTo
namespace Go.Proofs.YtkfhhgfmjkjldaaDoor
open Go.RowKit Go.Joins
set_option linter.unusedVariables false
set_option linter.unusedSimpArgs false
theorem kd_two {w w2 : World} {c1 c2 : Array Value} {T U : TypeId} (hb : Below ((w.alloc (.cells c1 T)).alloc (.cells c2 U)).heap.size ((w.alloc (.cells c1 T)).alloc (.cells c2 U)) w2) :
    KdAt w2 w.heap.size c1 ∧ KdAt w2 (w.heap.size + 1) c2 ∧ Below w.heap.size w w2 := by
  have h1 := kd_new w c1 T
  have h2 := kd_new (w.alloc (.cells c1 T)) c2 U
  have st : ∀ (x : World) (o : Obj), Below x.heap.size x (x.alloc o) := fun x o => (Below.refl _ _).alloc (Nat.le_refl _) _
  refine ⟨kd_go (kd_go h1 (st _ _)) hb, ?_, ?_⟩
  · have := kd_go h2 hb
    simpa using this
  · exact (((Below.refl w.heap.size w).alloc (Nat.le_refl _) _).alloc (by simp) _).trans (hb.mono (by simp; omega))
set_option maxRecDepth 100000 in
set_option maxHeartbeats 4000000 in
theorem l_eqK (nm : ByteArray) (kd : Int) (on pa : ByteArray) (a a' : Option Addr) (fl : List ByteArray) (n c c' : Nat) (re : ByteArray) (w : World) (hL : fl.length = n) (hn : n ≤ 1048576) (hr : TxAt w a fl w.heap.size) (hr' : TxAt w a' fl w.heap.size) :
    Calls Tryd.prog 16 #[.agg #[.string nm, .int .i64 kd, .string on, .string pa, .slice a n c, .string re], .agg #[.string nm, .int .i64 kd, .string on, .string pa, .slice a' n c', .string re]] w fun e w' => e = .returned (.bool true) ∧ Below w.heap.size w w' := by
  have HR := hide hr
  have HR' := hide hr'
  have HL := hide hL
  clear hr hr' hL
  go_enter Tryd.func16, Tryd.ntmps16
  go_wp2_with (go_at_call 25; refine (eq_strs _ _ _ _ _ fl _ HL.out hn (tx_up (tx_go HR.out (((Below.refl _ _).alloc (Nat.le_refl _) _).alloc (by simp) _)) (by simp; omega)) (tx_up (tx_go HR'.out (((Below.refl _ _).alloc (Nat.le_refl _) _).alloc (by simp) _)) (by simp; omega))).mono ?_; rintro e w2 ⟨rfl, hb2⟩; have HX2 := hide (kd_two hb2); have a5 := kd_cell HX2.out.1 5; have b5 := kd_cell HX2.out.2.1 5; simp at a5 b5; clear hb2)
  go_ret
  exact ⟨rfl, HX2.out.2.2⟩
def EQK (w w' : World) (b o b' o' : Nat) (x : Ky) (ad : Option Addr) (cp : Nat) (ad' : Option Addr) (cp' : Nat) : Prop := Below w.heap.size w w' ∧ (b < w.heap.size ∧ b' < w.heap.size) ∧
  KyC w' b o x ad cp ∧ KyC w' b' o' x ad' cp' ∧ TxAt w' ad x.fl w.heap.size ∧ TxAt w' ad' x.fl w.heap.size
section
variable {w w1 w2 : World} {b o b' o' : Nat} {x : Ky} {ad : Option Addr} {cp : Nat} {ad' : Option Addr} {cp' : Nat}
theorem eqk_go (h0 : EQK w w1 b o b' o' x ad cp ad' cp') (h : Below w1.heap.size w1 w2) : EQK w w2 b o b' o' x ad cp ad' cp' := by
  obtain ⟨hb, ⟨h1, h2⟩, c1, c2, r1, r2⟩ := h0
  have hh := h.mono hb.size
  exact ⟨hb.trans hh, ⟨h1, h2⟩, kyC_go c1 h1 hh, kyC_go c2 h2 hh, tx_go r1 hh, tx_go r2 hh⟩
theorem eqk_drew (h : EQK w w1 b o b' o' x ad cp ad' cp') : EQK w w1.drew b o b' o' x ad cp ad' cp' := eqk_go h ⟨rfl, rfl, rfl, Nat.le_refl _, fun _ _ => rfl⟩
theorem eqk_all (h : EQK w w1 b o b' o' x ad cp ad' cp') : EQK w w1 b o b' o' x ad cp ad' cp' ∧ (w1.cell? ⟨b, o, none⟩ = some (.string x.nm) ∧ w1.cell? ⟨b, o + 1, none⟩ = some (.int .i64 x.kd) ∧ w1.cell? ⟨b, o + 2, none⟩ = some (.string x.on) ∧ w1.cell? ⟨b, o + 3, none⟩ = some (.string x.pa) ∧ w1.cell? ⟨b, o + 4, none⟩ = some (.slice ad x.fl.length cp) ∧ w1.cell? ⟨b, o + 5, none⟩ = some (.string x.re)) ∧ w1.cell? ⟨b', o', none⟩ = some (.string x.nm) ∧ w1.cell? ⟨b', o' + 1, none⟩ = some (.int .i64 x.kd) ∧ w1.cell? ⟨b', o' + 2, none⟩ = some (.string x.on) ∧ w1.cell? ⟨b', o' + 3, none⟩ = some (.string x.pa) ∧ w1.cell? ⟨b', o' + 4, none⟩ = some (.slice ad' x.fl.length cp') ∧ w1.cell? ⟨b', o' + 5, none⟩ = some (.string x.re) := ⟨h, h.2.2.1, h.2.2.2.1⟩
theorem eqk_r1 (h : EQK w w1 b o b' o' x ad cp ad' cp') : TxAt w1 ad x.fl w1.heap.size := tx_up h.2.2.2.2.1 h.1.size
theorem eqk_r2 (h : EQK w w1 b o b' o' x ad cp ad' cp') : TxAt w1 ad' x.fl w1.heap.size := tx_up h.2.2.2.2.2 h.1.size
end
set_option maxRecDepth 100000 in
set_option maxHeartbeats 8000000 in
theorem l_eqKs (L : List Ky) (n : Nat) (a1 a2 : Option Addr) (c1 c2 : Nat) (w : World) (hX : L.length = n) (hn : n ≤ 1048576) (hnr : ∀ j, j < n → (kyA L j).fl.length ≤ 1048576) (h1 : KyAt w a1 L w.heap.size) (h2 : KyAt w a2 L w.heap.size) :
    Calls Tryd.prog 8 #[.slice a1 n c1, .slice a2 n c2] w fun e w' => e = .returned (.bool true) ∧ Below w.heap.size w w' := by
  have HX := hide hX
  have HNR := hide hnr
  have H1 := hide h1
  have H2 := hide h2
  clear h1 h2 hnr hX
  go_enter Tryd.func8, Tryd.ntmps8
  go_wp2
  go_loopw [5] (fun i wr => ∃ k : Nat, k ≤ n ∧ i = .int .i64 k ∧ Below w.heap.size w wr) (fun i _ => n - (intOf i).toNat)
  case atStart => exact ⟨0, Nat.zero_le _, rfl, Below.refl _ _⟩
  case round =>
    obtain ⟨k, hk, rfl, hb⟩ := hrel
    by_cases hlt : k < n
    · obtain ⟨b, off, rfl, hbs, hc⟩ := H1.out (fun e => by have := HX.out; rw [e] at this; simp at this; omega)
      obtain ⟨b', off', rfl, hbs', hc'⟩ := H2.out (fun e => by have := HX.out; rw [e] at this; simp at this; omega)
      obtain ⟨ad, cp, hk1, hr1, -⟩ := hc k (by rw [HX.out]; omega)
      obtain ⟨ad', cp', hk2, hr2, -⟩ := hc' k (by rw [HX.out]; omega)
      have hnk := HNR.out k hlt
      obtain ⟨x, hx⟩ : ∃ x, kyA L k = x := ⟨_, rfl⟩
      rw [hx] at hk1 hk2 hr1 hr2 hnk
      have XX : Hid (EQK w wr b (off + k * 6) b' (off' + k * 6) x ad cp ad' cp') := ⟨hb, ⟨hbs, hbs'⟩, kyC_go hk1 hbs hb, kyC_go hk2 hbs' hb, tx_go hr1 hb, tx_go hr2 hb⟩
      have hi : (k : Int) < (n : Int) := by omega
      have hi0 : (0 : Int) ≤ (k : Int) := by omega
      clear hc hc' hb hk1 hk2 hr1 hr2 hx
      go_wp2
      go_region_held3 (fun w' => EQK w w' b (off + k * 6) b' (off' + k * 6) x ad cp ad' cp' ∧ (w'.cell? ⟨b, off + k * 6, none⟩ = some (.string x.nm) ∧ w'.cell? ⟨b, off + k * 6 + 1, none⟩ = some (.int .i64 x.kd) ∧ w'.cell? ⟨b, off + k * 6 + 2, none⟩ = some (.string x.on) ∧ w'.cell? ⟨b, off + k * 6 + 3, none⟩ = some (.string x.pa) ∧ w'.cell? ⟨b, off + k * 6 + 4, none⟩ = some (.slice ad x.fl.length cp) ∧ w'.cell? ⟨b, off + k * 6 + 5, none⟩ = some (.string x.re)) ∧ w'.cell? ⟨b', off' + k * 6, none⟩ = some (.string x.nm) ∧ w'.cell? ⟨b', off' + k * 6 + 1, none⟩ = some (.int .i64 x.kd) ∧ w'.cell? ⟨b', off' + k * 6 + 2, none⟩ = some (.string x.on) ∧ w'.cell? ⟨b', off' + k * 6 + 3, none⟩ = some (.string x.pa) ∧ w'.cell? ⟨b', off' + k * 6 + 4, none⟩ = some (.slice ad' x.fl.length cp') ∧ w'.cell? ⟨b', off' + k * 6 + 5, none⟩ = some (.string x.re)) (first | assumption | exact eqk_all (eqk_drew XX.out) | exact eqk_all XX.out) (first | (go_at_call 16; refine (l_eqK _ _ _ _ _ _ x.fl _ _ _ _ _ rfl hnk (eqk_r1 (And.left (by assumption))) (eqk_r2 (And.left (by assumption)))).mono ?_; rintro e w2 ⟨rfl, hb2⟩; have X2 := hide (eqk_go (eqk_drew XX.out) hb2); replace XX := X2; clear X2 hb2))
      all_goals
        go_wp2
        go_roundw
        case rel => exact ⟨k + 1, by omega, by go_num, XX.out.1⟩
        case measure => simp [intOf]; omega
    · go_wp2
      go_ret
      exact ⟨rfl, hb⟩
end Go.Proofs.YtkfhhgfmjkjldaaDoor
