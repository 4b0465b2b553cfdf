/-
  Texts put together: RjM, RqR.
-/
import Derived.Test.YtfohfljdgmlibaaV41
import Derived.Test.YtfohfljdgmlibaaV27
import Derived.Test.YtfohfljdgmlibaaV33
import Derived.Test.YtfohfljdgmlibaaV10
/-
  Contract: what the program reads as a model: just what stands there, or nothing.
-/
namespace Go.Proofs.Ytfohfljdgmlibaa
open Go.RowKit Go.Joins
set_option linter.unusedVariables false
set_option linter.unusedSimpArgs false
theorem pk_names {D : Pn} (h : pkB D = true) : ∀ j, j < D.n → (D.NM j).size ≤ 40 := by
  obtain ⟨h1, h2, -⟩ := pk_facts h
  intro j hj
  rcases ndB_kind (h2 j hj) with ⟨-, h3, -⟩ | ⟨-, h3, -⟩ | ⟨-, h3⟩ | ⟨-, h3, -⟩
  · have := name_size h3
    simpa using this
  all_goals
    rw [h3]
    show 0 ≤ 40
    omega
/-- What is read as a model. -/
def MdAns (s : ByteArray) (w : World) (e : Ending) (w' : World) : Prop :=
  (∃ t ad m c, rdP t s.data.toList [] ∧ pkB (fl t emP) = true ∧ e = .returned (.tuple #[.slice ad m c, .bool true]) ∧ PO w.heap.size (fun j => w.heap.size ≤ j) w' ad m c (fl t emP) ∧ m = (fl t emP).n ∧ Below w.heap.size w w') ∨
  (NoR s ∧ e = .returned (.tuple #[.slice none 0 0, .bool false]) ∧ Below w.heap.size w w')
theorem noR_one {s : ByteArray} {t : Tr} (h : rdP t s.data.toList []) (hp : pkB (fl t emP) = false) : NoR s := fun t' ht => by
  obtain ⟨rfl, -⟩ := rd_one t t' _ _ _ h ht
  exact hp
set_option maxHeartbeats 4000000 in
theorem i_model (s : ByteArray) (w : World) (hs : s.size ≤ 1048576) : Calls Try.prog 9 #[.string s] w (MdAns s w) := by
  go_enter Try.func9, Try.ntmps9
  go_wp2_with fail
  refine (i_parts s w hs).mono ?_
  rintro e w1 (⟨t, ad, m, c, hrd, rfl, hpo, hm, hb⟩ | ⟨hno, rfl, hb⟩)
  · have HRD := hide hrd
    have HP := hide hpo
    have HM := hide hm
    have HB := hide hb
    have CP := hide (i_particle9 (fl t emP) m ad c w1 hm.1.symm ⟨by have := hm.1; have := hm.2; omega, fun j hj => by have h9 := po_sizes hpo j (by have := hm.1; omega); exact ⟨h9.1, by omega⟩⟩ (po_at hpo).2)
    clear hrd hpo hm hb
    cases hpk : pkB (fl t emP)
    · rw [hpk] at CP
      go_wp2_with (first | (go_at_call 11; refine CP.out.mono ?_; rintro e w3 ⟨rfl, hb3⟩; have HB3 := hide (HB.out.trans (hb3.mono HB.out.size)); clear hb3))
      go_ret2
      exact .inr ⟨noR_one HRD.out hpk, rfl, HB3.out⟩
    · rw [hpk] at CP
      have HPK := hide hpk
      have HN := hide (pk_names hpk)
      clear hpk
      go_wp2_with (first | (go_at_call 11; refine CP.out.mono ?_; rintro e w3 ⟨rfl, hb3⟩; have HB3 := hide (HB.out.trans (hb3.mono HB.out.size)); have HP3 := hide (po_kp (T := fun _ => False) HP.out ⟨hb3.os, hb3.tape, hb3.output, hb3.size, fun k hk _ => hb3.block k hk⟩ (fun _ _ x => x) (fun _ _ _ _ _ _ _ _ _ x => x)); clear hb3))
      go_ret2
      exact .inl ⟨t, ad, m, c, HRD.out, HPK.out, rfl, po_small HP3.out (fun j hj => by have := HN.out j (by have := HM.out.1; omega); omega), HM.out.1, HB3.out⟩
  · have HN := hide hno
    have HB := hide hb
    clear hno hb
    go_wp2
    go_ret2
    exact .inr ⟨HN.out, rfl, HB.out⟩
end Go.Proofs.Ytfohfljdgmlibaa

/-
  Contract: what the specification reads as a model: just what stands there, or nothing.
-/
namespace Go.Proofs.Ytfohfljdgmlibaa
open Go.RowKit Go.Joins
set_option linter.unusedVariables false
set_option linter.unusedSimpArgs false
theorem x_item (R B : Nat) (s : ByteArray) (hs : s.size ≤ 20000) : ∀ (d dd : Nat), d ≤ 12 → dd + d ≤ 19 → 10 ≤ dd + d → ∀ (p m : Nat) (bd : Bool) (ad : Option Addr) (c : Nat) (D : Pn) (S0 : Nat → Prop) (w : World), p ≤ s.size → m ≤ 40 → B ≤ w.heap.size → L8 w R s p bd ad m c → PO B S0 w ad m c D →
    Calls Try.prog 33 #[.pointer (some ⟨R, 0, none⟩), .int .i64 ((dd : Int) + 1)] w (ItmAnx R B d s p m bd (.slice ad m c) S0 D dd w)
  | 0, dd, h1, h2, h3, p, m, bd, ad, c, D, S0, w, hp, hm, hB, h8, hpo => x_itemF R B 0 dd s _ p m bd ad c D S0 w hs rfl (by omega) ⟨by omega, by omega⟩ (by omega) hp hm hB h8 hpo (fun h => absurd h (by omega))
  | d + 1, dd, h1, h2, h3, p, m, bd, ad, c, D, S0, w, hp, hm, hB, h8, hpo => x_itemF R B (d + 1) dd s _ p m bd ad c D S0 w hs rfl h1 ⟨by omega, by omega⟩ (by omega) hp hm hB h8 hpo (fun hde p' m' bd' ad' c' D' S' w' a1 a2 a3 a4 a5 => by
      have h9 := x_item R B s hs d (dd + 1) (by omega) (by omega) (by omega) p' m' bd' ad' c' D' S' w' a1 a2 a3 a4 a5
      rw [show ((dd + 1 : Nat) : Int) = (dd : Int) + 1 by omega] at h9
      exact h9)
theorem md_none {s : ByteArray} {w w' : World} (hn : NoR s) (hb : Below w.heap.size w w') : MdAns s w (.returned (.tuple #[.slice none 0 0, .bool false])) w' := .inr ⟨hn, rfl, hb⟩
theorem noR_head {s : ByteArray} (h : s.data.toList.head? ≠ some 40) : NoR s := fun t ht => by
  cases hp : pkB (fl t emP)
  · rfl
  · exact absurd (rm_small ht hp).2 h
theorem noR_size {s : ByteArray} (h : 20000 < s.size) : NoR s := fun t ht => by
  cases hp : pkB (fl t emP)
  · rfl
  · have := (rm_small ht hp).1
    rw [ba_len] at this
    omega
set_option maxHeartbeats 4000000 in
theorem x_model (s : ByteArray) (w : World) (hs9 : s.size ≤ 1048576) : Calls Try.prog 14 #[.string s] w (MdAns s w) := by
  by_cases h0 : s.size = 0
  · have hl : s.toList = [] := by
      have : s = ⟨#[]⟩ := by cases s; rename_i a; have : a.size = 0 := h0; rw [Array.size_eq_zero_iff] at this; rw [this]
      rw [this, ByteArray.toList_eq]
    have hl2 : s.toList.isEmpty = true := by rw [hl]; rfl
    have HN : Hid (NoR s) := hide (noR_head (by rw [← ByteArray.toList_eq, hl]; simp))
    go_enter Try.func14, Try.ntmps14
    go_wp2
    go_ret2
    exact md_none HN.out ((Below.refl _ _).alloc (Nat.le_refl _) _)
  · have hl2 : s.toList.isEmpty = false := by
      rw [ByteArray.toList_eq]
      cases h : s.data.toList with
      | nil =>
        exfalso
        apply h0
        have := congrArg List.length h
        simpa using this
      | cons a l => rfl
    have hi0 : (0 : Int) < (s.size : Int) := by omega
    have h0' : 0 < s.size := by omega
    cases hb : (((s[0].toNat : Int)) != 40)
    · by_cases hs : s.size ≤ 20000
      case neg =>
        have hs2 : (20000 : Int) < (s.size : Int) := by omega
        have hs3 : decide ((s.size : Int) > 20000) = true := decide_eq_true (by omega)
        have HN : Hid (NoR s) := hide (noR_size (by omega))
        go_enter Try.func14, Try.ntmps14
        go_wp2
        go_ret2
        exact md_none HN.out ((Below.refl _ _).alloc (Nat.le_refl _) _)
      have hs2 : ¬ (20000 : Int) < (s.size : Int) := by omega
      have hs3 : decide ((s.size : Int) > 20000) = false := decide_eq_false (by omega)
      have H8 : Hid (L8 (w.alloc (.cells #[.string s, .int .i64 0, .bool false, .slice none 0 0] 58)) w.heap.size s 0 false none 0 0) := hide (heap_alloc_new w _)
      have HB0 : Hid (Below w.heap.size w (w.alloc (.cells #[.string s, .int .i64 0, .bool false, .slice none 0 0] 58))) := hide ((Below.refl _ _).alloc (Nat.le_refl _) _)
      go_enter Try.func14, Try.ntmps14
      go_wp2_with fail
      obtain ⟨w1, hw1⟩ : ∃ w1, w.alloc (.cells #[.string s, .int .i64 0, .bool false, .slice none 0 0] 58) = w1 := ⟨_, rfl⟩
      have hsz : w1.heap.size = w.heap.size + 1 := by rw [← hw1]; simp
      rw [hw1] at H8 HB0
      try rw [hw1]
      clear hw1
      refine (x_item w.heap.size w.heap.size s hs 11 0 (by omega) (by omega) (by omega) 0 0 false none 0 emP (fun _ => False) w1 (by omega) (by omega) (by omega) H8.out (po_nil _ _ _)).mono ?_
      rintro e w2 ⟨x, p', bd', ad, m', c, D, rfl, h8, hp, hbb, hb2, hm, hpo, hk, hnew, hx, hf⟩
      have H9 := hide h8
      have HF := hide (hf rfl)
      clear hf hx
      have HPO := hide (po_imp (T := fun j => w.heap.size ≤ j) hpo (fun j _ hj => by rcases hj with hj | hj; exact hj.elim; omega))
      have HB2 := hide (HB0.out.trans (kp_below (B := w.heap.size) hk (by omega) (fun j hj => by rcases hj with e | e; omega; cases e)))
      obtain ⟨r0, r1, r2, r3⟩ := l8_cells h8
      clear h8 hpo hk hnew H8 HB0
      cases bd'
      case true =>
        have HN : Hid (NoR s) := hide (noR_T (HF.out.2 rfl))
        clear HF
        go_wp2
        go_ret2
        exact md_none HN.out HB2.out
      case false =>
        have hm40 := (hb2 rfl).2
        obtain ⟨t, ht, hD⟩ := HF.out.1 rfl
        have HT := hide ht
        clear HF ht
        subst hD
        by_cases hlt : p' < s.size
        · have hlt' : (p' : Int) < (s.size : Int) := by omega
          have hlt2 : decide ((p' : Int) < (s.size : Int)) = true := decide_eq_true hlt'
          have HN : Hid (NoR s) := hide (fun t' ht' => by
            have e9 := (rd_one t t' _ _ _ HT.out ht').2
            have e8 := congrArg List.length e9
            unfold dr at e8
            simp at e8
            omega)
          go_wp2
          go_ret2
          exact md_none HN.out HB2.out
        · have hlt' : ¬ (p' : Int) < (s.size : Int) := by omega
          have hlt2 : decide ((p' : Int) < (s.size : Int)) = false := decide_eq_false hlt'
          have HT2 : Hid (rdP t s.data.toList []) := hide (by have h9 := HT.out; rw [dr_end s p' (by omega)] at h9; exact h9)
          have CP := hide (s_particle (fl t emP) m' ad c w2 (po_at HPO.out).1 (po_tot HPO.out (by omega)) (po_at HPO.out).2)
          cases hpk : pkB (fl t emP)
          · rw [hpk] at CP
            go_wp2_with (first | (go_at_call 26; refine CP.out.mono ?_; rintro e w3 ⟨rfl, hb3⟩; have HB3 := hide (HB2.out.trans (hb3.mono HB2.out.size)); clear hb3))
            go_ret2
            exact md_none (noR_one HT2.out hpk) HB3.out
          · rw [hpk] at CP
            go_wp2_with fail
            refine CP.out.mono ?_
            rintro e w3 ⟨rfl, hb3⟩
            have H3 : Hid (L8 w3 w.heap.size s p' false ad m' c) := hide ((hb3.block _ (l8_lt H9.out)).trans H9.out)
            have HB3 := hide (HB2.out.trans (hb3.mono HB2.out.size))
            have HP3 : Hid (PO w.heap.size (fun j => w.heap.size ≤ j) w3 ad m' c (fl t emP)) := hide (po_kp (T := fun _ => False) HPO.out ⟨hb3.os, hb3.tape, hb3.output, hb3.size, fun k hk _ => hb3.block k hk⟩ (fun _ _ x => x) (fun _ _ _ _ _ _ _ _ _ x => x))
            obtain ⟨y0, y1, y2, y3⟩ := l8_cells H3.out
            clear hb3 r0 r1 r2 r3
            go_wp2
            go_ret2
            exact .inl ⟨t, ad, m', c, HT2.out, hpk, rfl, HP3.out, (po_at HP3.out).1.symm, HB3.out⟩
    · have HN : Hid (NoR s) := hide (noR_head (by
        rw [show s.data.toList = dr s 0 from rfl, dr_at s 0 h0']
        intro e
        simp at e
        rw [e] at hb
        simp at hb))
      go_enter Try.func14, Try.ntmps14
      go_wp2
      go_ret2
      exact md_none HN.out ((Below.refl _ _).alloc (Nat.le_refl _) _)
end Go.Proofs.Ytfohfljdgmlibaa
