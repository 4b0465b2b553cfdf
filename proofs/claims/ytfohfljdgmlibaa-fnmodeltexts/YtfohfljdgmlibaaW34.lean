/-
  Texts put together: MxA, RqI.
-/
import Derived.Test.YtfohfljdgmlibaaW14
import Derived.Test.YtfohfljdgmlibaaW16
import Derived.Test.YtfohfljdgmlibaaW25
import Derived.Test.YtfohfljdgmlibaaW33
import Derived.Test.YtfohfljdgmlibaaW9
/-
  Contracts: the drawn model and the drawn text that the law on models' texts asks for.
-/
namespace Go.Proofs.Ytfohfljdgmlibaa
open Go.RowKit Go.Joins
set_option linter.unusedVariables false
set_option linter.unusedSimpArgs false
/-- What the law knows of a drawn model. -/
def DmX (w : World) (ad : Option Addr) (m : Nat) (D : Pn) : Prop := D.n = m ∧ pnTot D ≤ 1048576 ∧ m ≤ 40 ∧ PnAt w ad D w.heap.size
theorem dmx_of {G : Nat} {a : Option Addr} {n cap : Nat} {zs : List Int} {w w' : World} {ad : Option Addr} {m c : Nat} {D : Pn} (h : MdS G a n cap zs w w' ad m c D) : DmX w' ad m D := ⟨(po_at h.2.1).1, po_tot h.2.1 (by have := h.2.2; omega), h.2.2, (po_at h.2.1).2⟩
theorem dmx_go {w w' : World} {ad : Option Addr} {m : Nat} {D : Pn} (h : DmX w ad m D) (hb : Below w.heap.size w w') : DmX w' ad m D := ⟨h.1, h.2.1, h.2.2.1, pnAt_up (pnAt_go h.2.2.2 hb) hb.size⟩
set_option maxHeartbeats 2000000 in
theorem d_modelText (a : Option Addr) (n cap : Nat) (zs : List Int) (w : World) (hl : zs.length = n) (hz : ∀ x ∈ zs, 0 ≤ x ∧ x ≤ 255) (hn : n ≤ 1048576) (hs : SrcAt w a zs w.heap.size) :
    Calls Try.prog 7 #[.slice a n cap] w fun e w' => ∃ ad m c D, e = .returned (.slice ad m c) ∧ DmX w' ad m D ∧ Below w.heap.size w w' := by
  have HS := hide hs
  have HL := hide hl
  have HZ := hide hz
  clear hs hl hz
  go_enter Try.func7, Try.ntmps7
  go_wp2_with fail
  refine (d_open a n cap zs _ HL.out HZ.out hn HS.out).mono ?_
  rintro e w1 ⟨rfl, hrd, hb1⟩
  have HRD := hide hrd
  have HB1 := hide hb1
  clear hrd hb1
  go_wp2_with fail
  refine (d_model w.heap.size a n cap zs _ HRD.out).mono ?_
  rintro e w2 ⟨ad, m, c, D, rfl, hM⟩
  have HM := hide hM
  clear hM
  go_wp2
  go_ret
  exact ⟨ad, m, c, D, rfl, dmx_of HM.out, HB1.out.trans HM.out.1.2⟩
/-- A model's text is no longer than that. -/
theorem mtV_size (D : Pn) : (mtV D).size ≤ 2000 := by
  cases h : pkB D
  · rw [mtV_no h]; show 0 ≤ 2000; omega
  · obtain ⟨h1, h2, h3, h4⟩ := rm_text h
    obtain ⟨h5, h6, h7⟩ := fl_pk h4
    have h8 := (tx_len (tre D (D.n - 1)) emP h5).1
    have h9 := tx_rd _ _ _ h1
    rw [List.append_nil] at h9
    rw [mtV_yes h]
    have e : (⟨(mt D (D.n - 1)).toArray⟩ : ByteArray).size = (mt D (D.n - 1)).length := by simp [ByteArray.size]
    rw [e, h9]
    have e0 : emP.n = 0 := rfl
    omega
def tenT (k : Nat) : ByteArray := if k = 0 then ⟨#[]⟩ else if k = 1 then ⟨#[97]⟩ else if k = 2 then ⟨#[40, 97, 44, 98, 124, 99, 41]⟩ else if k = 3 then ⟨#[40, 97, 44, 41]⟩ else if k = 4 then ⟨#[40, 97]⟩ else if k = 5 then ⟨#[40, 97, 41, 41]⟩ else if k = 6 then ⟨#[40, 97, 32, 41]⟩ else if k = 7 then ⟨#[40, 124, 97, 41]⟩ else if k = 8 then ⟨#[40, 97, 41, 42, 42]⟩ else ⟨#[40, 49, 41]⟩
def tenO : Obj := .cells #[.string ⟨#[]⟩, .string ⟨#[97]⟩, .string ⟨#[40, 97, 44, 98, 124, 99, 41]⟩, .string ⟨#[40, 97, 44, 41]⟩, .string ⟨#[40, 97]⟩, .string ⟨#[40, 97, 41, 41]⟩, .string ⟨#[40, 97, 32, 41]⟩, .string ⟨#[40, 124, 97, 41]⟩, .string ⟨#[40, 97, 41, 42, 42]⟩, .string ⟨#[40, 49, 41]⟩] 9
theorem ten_cell {G : Nat} {w w1 : World} (hG : G < w.heap.size) (hg : (w.alloc tenO).grownBy w1 (some G)) (k : Nat) (hk : k < 10) : w1.cell? ⟨w.heap.size, k, none⟩ = some (.string (tenT k)) ∧ (tenT k).size ≤ 7 := by
  have hb := hg.block w.heap.size (by simp) (fun e => by cases e; omega)
  rw [World.cell?_of_block (a := ⟨w.heap.size, k, none⟩) hb]
  unfold tenO
  rw [cell_of_row _ w.heap.size k _ 9 (0, 0) (heap_alloc_new w _)]
  rcases (show k = 0 ∨ k = 1 ∨ k = 2 ∨ k = 3 ∨ k = 4 ∨ k = 5 ∨ k = 6 ∨ k = 7 ∨ k = 8 ∨ k = 9 by omega) with e | e | e | e | e | e | e | e | e | e <;> subst e <;> exact ⟨rfl, by decide⟩
set_option maxRecDepth 100000 in
set_option maxHeartbeats 4000000 in
theorem d_readModel (a : Option Addr) (n cap : Nat) (zs : List Int) (w : World) (hl : zs.length = n) (hz : ∀ x ∈ zs, 0 ≤ x ∧ x ≤ 255) (hn : n ≤ 1048576) (hs : SrcAt w a zs w.heap.size) :
    Calls Try.prog 13 #[.slice a n cap] w fun e w' => ∃ t : ByteArray, e = .returned (.string t) ∧ t.size ≤ 5000 ∧ Below w.heap.size w w' := by
  have HS := hide hs
  have HL := hide hl
  have HZ := hide hz
  clear hs hl hz
  go_enter Try.func13, Try.ntmps13
  go_wp2_with fail
  refine (d_open a n cap zs _ HL.out HZ.out hn HS.out).mono ?_
  rintro e w1 ⟨rfl, hrd, hb1⟩
  have HRD := hide hrd
  have HB1 := hide hb1
  clear hrd hb1
  go_wp2_with fail
  refine (d_model w.heap.size a n cap zs _ HRD.out).mono ?_
  rintro e w2 ⟨ad, m, c, D, rfl, hM⟩
  have HD := hide (dmx_of hM)
  have HJ := hide hM.1
  clear hM
  go_wp2_with fail
  refine (s_modeltext D m ad c _ HD.out.1 HD.out.2.1 HD.out.2.2.2).mono ?_
  rintro e w3 ⟨rfl, hb3⟩
  have HJ3 := hide (mj_below HJ.out hb3)
  have hts := mtV_size D
  obtain ⟨T, hT⟩ : ∃ T, mtV D = T := ⟨_, rfl⟩
  rw [hT] at hts
  rw [hT]
  clear hT hb3 HJ HD
  go_wp2_with fail
  refine (d_below w.heap.size a n cap zs 5 _ (by omega) (by omega) HJ3.out.1).mono ?_
  rintro e w4 ⟨x, hx0, hx1, rfl, hd⟩
  have HJ4 := hide (mj_drew HJ3.out hd)
  clear hd HJ3
  rcases (show x = 0 ∨ x = 1 ∨ 2 ≤ x by omega) with hx | hx | hx
  · subst hx
    go_wp2_with fail
    refine (d_hurt w.heap.size a n cap zs T _ (by omega) HJ4.out.1).mono ?_
    rintro e w5 ⟨t, ht, rfl, hd⟩
    have HJ5 := hide (mj_drew HJ4.out hd)
    clear hd
    go_wp2
    go_ret
    exact ⟨t, rfl, by omega, HB1.out.trans HJ5.out.2⟩
  · subst hx
    have hG4 := rd_lt HJ4.out.1
    have HJa := hide (mj_alloc HJ4.out tenO)
    go_wp2_with fail
    refine (d_below w.heap.size a n cap zs 10 _ (by omega) (by omega) (rd_alloc HJ4.out.1 _)).mono ?_
    rintro e w5 ⟨y, hy0, hy1, rfl, hd⟩
    have HJ5 := hide (mj_drew HJa.out hd)
    obtain ⟨hc5, hz5⟩ := ten_cell hG4 hd.2 y.toNat (by omega)
    obtain ⟨Y, hY⟩ : ∃ Y, tenT y.toNat = Y := ⟨_, rfl⟩
    rw [hY] at hc5 hz5
    clear hd hY
    go_wp2
    go_ret
    exact ⟨Y, rfl, by omega, HB1.out.trans HJ5.out.2⟩
  · have n0 : (x == 0) = false := by simp; omega
    have n1 : (x == 1) = false := by simp; omega
    go_wp2
    go_ret
    exact ⟨T, rfl, by omega, HB1.out.trans HJ4.out.2⟩
end Go.Proofs.Ytfohfljdgmlibaa

/-
  Contracts of the specification's reader of models, with what stands there: one sign, how often.
-/
namespace Go.Proofs.Ytfohfljdgmlibaa
open Go.RowKit Go.Joins
set_option linter.unusedVariables false
set_option linter.unusedSimpArgs false
/-- What is left of a text. -/
def dr (s : ByteArray) (p : Nat) : List UInt8 := s.data.toList.drop p
theorem dr_at (s : ByteArray) (p : Nat) (h : p < s.size) : dr s p = s[p] :: dr s (p + 1) := by
  unfold dr
  rw [List.drop_eq_getElem_cons (by simpa using h)]
  rfl
theorem dr_end (s : ByteArray) (p : Nat) (h : s.size ≤ p) : dr s p = [] := List.drop_eq_nil_of_le (by simpa using h)
/-- What one look at a sign leaves. -/
def IsAnx (R : Nat) (s : ByteArray) (p : Nat) (bd : Bool) (ad : Option Addr) (m c : Nat) (ch : UInt8) (w : World) (e : Ending) (w' : World) : Prop :=
  ∃ (b : Bool) (p' : Nat), e = .returned (.bool b) ∧ L8 w' R s p' bd ad m c ∧ Kp (fun k => k = R) w w' ∧ ((b = true ∧ bd = false ∧ p' = p + 1 ∧ p + 1 ≤ s.size ∧ dr s p = ch :: dr s (p + 1)) ∨ (b = false ∧ p' = p ∧ (bd = false → (dr s p).head? ≠ some ch)))
set_option maxHeartbeats 2000000 in
theorem x_is (R : Nat) (s : ByteArray) (p : Nat) (bd : Bool) (ad : Option Addr) (m c : Nat) (ch : UInt8) (ci : Int) (hci : (ch.toNat : Int) = ci) (w : World) (h : L8 w R s p bd ad m c) (hp : p ≤ s.size) (hs : s.size ≤ 20000) :
    Calls Try.prog 61 #[.pointer (some ⟨R, 0, none⟩), .int .u8 ci] w (IsAnx R s p bd ad m c ch w) := by
  have HH := hide h
  have HC := hide hci
  obtain ⟨c0, c1, c2, c3⟩ := l8_cells h
  have f1 := l8_frozen h 1
  clear h hci
  cases bd
  · by_cases hlt : p < s.size
    · have hd : decide ((p : Int) ≥ (s.size : Int)) = false := decide_eq_false (by omega)
      have hi0 : (0 : Int) ≤ (p : Int) := by omega
      have hi1 : (p : Int) < (s.size : Int) := by omega
      have hi2 : ¬ (s.size : Int) ≤ (p : Int) := by omega
      cases hb : (((s[p].toNat : Int)) != ci)
      · have HE : Hid (dr s p = ch :: dr s (p + 1)) := hide (by
          rw [dr_at s p hlt]
          congr 1
          rw [← HC.out] at hb
          simp at hb
          exact UInt8.toNat_inj.1 (by omega))
        go_enter Try.func61, Try.ntmps61
        go_wp2
        go_quiet (fail)
        go_wp2
        go_ret
        exact ⟨true, p + 1, rfl, l8_p HH.out (p + 1), (kp_drewN w _).trans (kp_set (S := fun k => k = R) _ _ _ rfl) (fun j _ hj => hj), .inl ⟨rfl, rfl, rfl, by omega, HE.out⟩⟩
      · have HE : Hid ((dr s p).head? ≠ some ch) := hide (by
          rw [dr_at s p hlt]
          rw [← HC.out] at hb
          intro e
          simp at e
          rw [e] at hb
          simp at hb)
        go_enter Try.func61, Try.ntmps61
        go_wp2
        go_quiet (fail)
        go_wp2
        go_ret
        exact ⟨false, p, rfl, HH.out, kp_drewN w _, .inr ⟨rfl, rfl, fun _ => HE.out⟩⟩
    · have hd : decide ((p : Int) ≥ (s.size : Int)) = true := decide_eq_true (by omega)
      have hi2 : (s.size : Int) ≤ (p : Int) := by omega
      have HE : Hid ((dr s p).head? ≠ some ch) := hide (by rw [dr_end s p (by omega)]; simp)
      go_enter Try.func61, Try.ntmps61
      go_wp2
      go_quiet (fail)
      go_wp2
      go_ret
      exact ⟨false, p, rfl, HH.out, kp_drewN w _, .inr ⟨rfl, rfl, fun _ => HE.out⟩⟩
  · go_enter Try.func61, Try.ntmps61
    go_wp2
    go_quiet (fail)
    go_wp2
    go_ret
    exact ⟨false, p, rfl, HH.out, kp_drewN w _, .inr ⟨rfl, rfl, fun h => (by cases h)⟩⟩
def OccAnx (R : Nat) (s : ByteArray) (p : Nat) (bd : Bool) (ad : Option Addr) (m c : Nat) (w : World) (e : Ending) (w' : World) : Prop :=
  ∃ (x : Int) (p' : Nat), e = .returned (.int .i64 x) ∧ L8 w' R s p' bd ad m c ∧ Kp (fun k => k = R) w w' ∧ (p ≤ p' ∧ p' ≤ s.size) ∧ (bd = false → ocP x (dr s p) (dr s p'))
theorem occx_of {R : Nat} {s : ByteArray} {p p' : Nat} {bd : Bool} {ad : Option Addr} {m c : Nat} {w w' : World} (x : Int) (h : L8 w' R s p' bd ad m c) (k : Kp (fun k => k = R) w w') (h1 : p ≤ p' ∧ p' ≤ s.size) (h2 : bd = false → ocP x (dr s p) (dr s p')) : OccAnx R s p bd ad m c w (.returned (.int .i64 x)) w' := ⟨x, p', rfl, h, k, h1, h2⟩
set_option maxHeartbeats 2000000 in
theorem x_occur (R : Nat) (s : ByteArray) (p : Nat) (bd : Bool) (ad : Option Addr) (m c : Nat) (w : World) (h : L8 w R s p bd ad m c) (hp : p ≤ s.size) (hs : s.size ≤ 20000) :
    Calls Try.prog 63 #[.pointer (some ⟨R, 0, none⟩)] w (OccAnx R s p bd ad m c w) := by
  have HH := hide h
  clear h
  go_enter Try.func63, Try.ntmps63
  go_wp2_with fail
  refine (x_is R s p bd ad m c 63 63 rfl w HH.out hp hs).mono ?_
  rintro e w1 ⟨b1, p1, rfl, h1, k1, o1⟩
  have H1 := hide h1
  have K1 := hide k1
  have O1 := hide o1
  have hp1 : p ≤ p1 ∧ p1 ≤ s.size := by rcases o1 with ⟨-, -, h1, h2, -⟩ | ⟨-, h1, -⟩ <;> omega
  clear h1 k1 o1
  cases b1
  case true =>
    go_wp2
    go_ret
    refine occx_of _ H1.out K1.out hp1 (fun _ => ?_)
    rcases O1.out with ⟨-, -, e, -, h⟩ | ⟨h, -⟩
    · rw [e]; exact .inl ⟨rfl, h⟩
    · cases h
  case false =>
    have O1' : Hid (p1 = p ∧ (bd = false → (dr s p).head? ≠ some 63)) := hide (by rcases O1.out with ⟨h, -⟩ | ⟨-, h⟩; cases h; exact h)
    clear O1
    go_wp2_with fail
    refine (x_is R s p1 bd ad m c 42 42 rfl w1 H1.out hp1.2 hs).mono ?_
    rintro e w2 ⟨b2, p2, rfl, h2, k2, o2⟩
    have H2 := hide h2
    have K2 := hide (K1.out.trans k2 (fun j _ hj => hj))
    have O2 := hide o2
    have hp2 : p ≤ p2 ∧ p2 ≤ s.size := by rcases o2 with ⟨-, -, h1, h2, -⟩ | ⟨-, h1, -⟩ <;> omega
    clear h2 k2 o2
    cases b2
    case true =>
      go_wp2
      go_ret
      refine occx_of _ H2.out K2.out hp2 (fun _ => ?_)
      rcases O2.out with ⟨-, -, e, -, h⟩ | ⟨h, -⟩
      · rw [e]; rw [O1'.out.1] at h ⊢; exact .inr (.inl ⟨rfl, h⟩)
      · cases h
    case false =>
      have O2' : Hid (p2 = p1 ∧ (bd = false → (dr s p1).head? ≠ some 42)) := hide (by rcases O2.out with ⟨h, -⟩ | ⟨-, h⟩; cases h; exact h)
      clear O2
      go_wp2_with fail
      refine (x_is R s p2 bd ad m c 43 43 rfl w2 H2.out hp2.2 hs).mono ?_
      rintro e w3 ⟨b3, p3, rfl, h3, k3, o3⟩
      have H3 := hide h3
      have K3 := hide (K2.out.trans k3 (fun j _ hj => hj))
      have O3 := hide o3
      have hp3 : p ≤ p3 ∧ p3 ≤ s.size := by rcases o3 with ⟨-, -, h1, h2, -⟩ | ⟨-, h1, -⟩ <;> omega
      clear h3 k3 o3
      have e1 := O1'.out.1
      have e2 := O2'.out.1
      have HE1 := hide e1
      have HE2 := hide e2
      clear e1 e2
      cases b3
      · go_wp2
        go_ret
        refine occx_of _ H3.out K3.out hp3 (fun hbd => ?_)
        rcases O3.out with ⟨h, -⟩ | ⟨-, e, h⟩
        · cases h
        · have a1 := O1'.out.2 hbd
          have a2 := O2'.out.2 hbd
          have a3 := h hbd
          rw [e]
          rw [HE2.out, HE1.out] at a3 ⊢
          rw [HE1.out] at a2
          exact .inr (.inr (.inr ⟨rfl, rfl, a1, a2, a3⟩))
      · go_wp2
        go_ret
        refine occx_of _ H3.out K3.out hp3 (fun hbd => ?_)
        rcases O3.out with ⟨-, -, e, -, h⟩ | ⟨h, -⟩
        · rw [e]
          rw [HE2.out, HE1.out] at h ⊢
          exact .inr (.inr (.inl ⟨rfl, h⟩))
        · cases h
end Go.Proofs.Ytfohfljdgmlibaa
