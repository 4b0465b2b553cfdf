/-
  Contract: what the specification reads as a model, whatever the text is: nothing, or a right model in memory of its own.
-/
import Derived.Test.YtfohfljdgmlibaaDoorRmS
import Derived.Test.YtfohfljdgmlibaaDoorPkS2
namespace Go.Proofs.YtfohfljdgmlibaaDoor
open Go.RowKit Go.Joins
set_option linter.unusedVariables false
set_option linter.unusedSimpArgs false
theorem r_item (R B : Nat) (s : ByteArray) (hs : s.size ≤ 20000) : ∀ (d : Nat) (deep : Int), d ≤ 12 → 1 ≤ deep → deep + d ≤ 20 → 11 ≤ deep + d → ∀ (p m : Nat) (bd : Bool) (ad : Option Addr) (c : Nat) (D : Pn) (S0 : Nat → Prop) (w : World), p ≤ s.size → m ≤ 40 → B ≤ w.heap.size → L8 w R s p bd ad m c → PO B S0 w ad m c D →
    Calls Tryd.prog 84 #[.pointer (some ⟨R, 0, none⟩), .int .i64 deep] w (ItmAns R B d s p m bd (.slice ad m c) S0 w)
  | 0, deep, h1, h2, h3, h4, p, m, bd, ad, c, D, S0, w, hp, hm, hB, h8, hpo => r_itemF R B 0 s deep p m bd ad c D S0 w hs (by omega) ⟨h2, by omega⟩ (by omega) hp hm hB h8 hpo (by omega)
  | d + 1, deep, h1, h2, h3, h4, p, m, bd, ad, c, D, S0, w, hp, hm, hB, h8, hpo => r_itemF R B (d + 1) s deep p m bd ad c D S0 w hs h1 ⟨h2, by omega⟩ (by omega) hp hm hB h8 hpo (fun hde p' m' bd' ad' c' D' S' w' => r_item R B s hs d (deep + 1) (by omega) (by omega) (by omega) (by omega) p' m' bd' ad' c' D' S' w')
/-- What is read: nothing, or a right model. -/
def RmAns (w : World) (e : Ending) (w' : World) : Prop := ∃ (ad : Option Addr) (m c : Nat) (D : Pn) (ok : Bool), e = .returned (.tuple #[.slice ad m c, .bool ok]) ∧ PO w.heap.size (fun j => w.heap.size ≤ j) w' ad m c D ∧ (m = 0 ∨ pkB D = true) ∧ m ≤ 40 ∧ Below w.heap.size w w'
theorem rm_none {w w' : World} (hb : Below w.heap.size w w') : RmAns w (.returned (.tuple #[.slice none 0 0, .bool false])) w' := ⟨none, 0, 0, _, false, rfl, po_nil _ _ _, .inl rfl, by omega, hb⟩
set_option maxHeartbeats 4000000 in
theorem r_model (s : ByteArray) (w : World) (hs : s.size ≤ 20000) : Calls Tryd.prog 60 #[.string s] w (RmAns w) := by
  by_cases h0 : s.size = 0
  · have hl : s.toList = [] := by
      have : s = ⟨#[]⟩ := by cases s; rename_i a; have : a.size = 0 := h0; rw [Array.size_eq_zero_iff] at this; rw [this]
      rw [this, ByteArray.toList_eq]
    have hl2 : s.toList.isEmpty = true := by rw [hl]; rfl
    go_enter Tryd.func60, Tryd.ntmps60
    go_wp2
    go_ret2
    exact rm_none ((Below.refl _ _).alloc (Nat.le_refl _) _)
  · have hl2 : s.toList.isEmpty = false := by
      rw [ByteArray.toList_eq]
      cases h : s.data.toList with
      | nil =>
        exfalso
        apply h0
        have := congrArg List.length h
        simpa using this
      | cons a l => rfl
    have hi0 : (0 : Int) < (s.size : Int) := by omega
    have h0' : 0 < s.size := by omega
    cases hb : (((s[0].toNat : Int)) != 40)
    · have hs2 : ¬ (20000 : Int) < (s.size : Int) := by omega
      have hs3 : decide ((s.size : Int) > 20000) = false := decide_eq_false (by omega)
      have H8 : Hid (L8 (w.alloc (.cells #[.string s, .int .i64 0, .bool false, .slice none 0 0] 105)) w.heap.size s 0 false none 0 0) := hide (heap_alloc_new w _)
      have HB0 : Hid (Below w.heap.size w (w.alloc (.cells #[.string s, .int .i64 0, .bool false, .slice none 0 0] 105))) := hide ((Below.refl _ _).alloc (Nat.le_refl _) _)
      go_enter Tryd.func60, Tryd.ntmps60
      go_wp2_with fail
      obtain ⟨w1, hw1⟩ : ∃ w1, w.alloc (.cells #[.string s, .int .i64 0, .bool false, .slice none 0 0] 105) = w1 := ⟨_, rfl⟩
      have hsz : w1.heap.size = w.heap.size + 1 := by rw [← hw1]; simp
      rw [hw1] at H8 HB0
      try rw [hw1]
      clear hw1
      refine (r_item w.heap.size w.heap.size s hs 11 1 (by omega) (by omega) (by omega) (by omega) 0 0 false none 0 _ (fun _ => False) w1 (by omega) (by omega) (by omega) H8.out (po_nil _ _ _)).mono ?_
      rintro e w2 ⟨x, p', bd', ad, m', c, D, rfl, h8, hp, hbb, hb2, hm, hpo, hk, hnew⟩
      have H9 := hide h8
      have HPO := hide (po_imp (T := fun j => w.heap.size ≤ j) hpo (fun j _ hj => by rcases hj with hj | hj; exact hj.elim; omega))
      have HB2 := hide (HB0.out.trans (kp_below (B := w.heap.size) hk (by omega) (fun j hj => by rcases hj with e | e; omega; cases e)))
      obtain ⟨r0, r1, r2, r3⟩ := l8_cells h8
      clear h8 hpo hk hnew H8 HB0
      cases bd'
      case true =>
        go_wp2
        go_ret2
        exact rm_none HB2.out
      case false =>
        have hm40 := (hb2 rfl).2
        by_cases hlt : p' < s.size
        · have hlt' : (p' : Int) < (s.size : Int) := by omega
          have hlt2 : decide ((p' : Int) < (s.size : Int)) = true := decide_eq_true hlt'
          go_wp2
          go_ret2
          exact rm_none HB2.out
        · have hlt' : ¬ (p' : Int) < (s.size : Int) := by omega
          have hlt2 : decide ((p' : Int) < (s.size : Int)) = false := decide_eq_false hlt'
          have CP := hide (s_particle D m' ad c w2 (po_at HPO.out).1 (po_tot HPO.out (by omega)) (po_at HPO.out).2)
          cases hpk : pkB D
          · rw [hpk] at CP
            go_wp2_with (first | (go_at_call 11; refine CP.out.mono ?_; rintro e w3 ⟨rfl, hb3⟩; have HB3 := hide (HB2.out.trans (hb3.mono HB2.out.size)); clear hb3))
            go_ret2
            exact rm_none HB3.out
          · rw [hpk] at CP
            go_wp2_with fail
            refine CP.out.mono ?_
            rintro e w3 ⟨rfl, hb3⟩
            have H3 : Hid (L8 w3 w.heap.size s p' false ad m' c) := hide ((hb3.block _ (l8_lt H9.out)).trans H9.out)
            have HB3 := hide (HB2.out.trans (hb3.mono HB2.out.size))
            have HP3 : Hid (PO w.heap.size (fun j => w.heap.size ≤ j) w3 ad m' c D) := hide (po_kp (T := fun _ => False) HPO.out ⟨hb3.os, hb3.tape, hb3.output, hb3.size, fun k hk _ => hb3.block k hk⟩ (fun _ _ x => x) (fun _ _ _ _ _ _ _ _ _ x => x))
            obtain ⟨y0, y1, y2, y3⟩ := l8_cells H3.out
            clear hb3 r0 r1 r2 r3
            go_wp2
            go_ret2
            exact ⟨ad, m', c, D, true, rfl, HP3.out, .inr hpk, hm40, HB3.out⟩
    · go_enter Tryd.func60, Tryd.ntmps60
      go_wp2
      go_ret2
      exact rm_none ((Below.refl _ _).alloc (Nat.le_refl _) _)
end Go.Proofs.YtfohfljdgmlibaaDoor
