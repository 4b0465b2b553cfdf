/-
  Texts put together: MtX, TrM, RtM.
-/
import Derived.Test.YtfohfljdgmlibaaW24
import Derived.Test.YtfohfljdgmlibaaW6
/-
  Contracts: ModelText, by the specification and by the program.
-/
namespace Go.Proofs.Ytfohfljdgmlibaa
open Go.RowKit Go.Joins
set_option linter.unusedVariables false
set_option linter.unusedSimpArgs false
def mtV (D : Pn) : ByteArray := if pkB D = true then ⟨(mt D (D.n - 1)).toArray⟩ else ⟨#[]⟩
theorem mtV_no {D : Pn} (h : pkB D = false) : mtV D = ⟨#[]⟩ := by unfold mtV; rw [h]; rfl
theorem mtV_yes {D : Pn} (h : pkB D = true) : mtV D = ⟨(mt D (D.n - 1)).toArray⟩ := by unfold mtV; rw [h]; rfl
set_option maxHeartbeats 4000000 in
theorem s_modeltext (D : Pn) (n : Nat) (a : Option Addr) (cap : Nat) (w : World) (hD : D.n = n) (hz : pnTot D ≤ 1048576) (hr : PnAt w a D w.heap.size) :
    Calls Try.prog 10 #[.slice a n cap] w fun e w' => e = .returned (.string (mtV D)) ∧ Below w.heap.size w w' := by
  have HD := hide hD
  have HR := hide hr
  have CD := hide (s_particle D n a cap w hD hz hr)
  cases hd : pkB D
  · have HV := hide (mtV_no hd)
    rw [hd] at CD
    clear hr hD hz
    go_enter Try.func10, Try.ntmps10
    go_wp2_with (first | (go_at_call 26; refine CD.out.mono ?_; rintro e w1 ⟨rfl, hb1⟩; have HB := hide hb1; clear hb1))
    go_ret
    exact ⟨ret_s9 HV.out.symm, HB.out⟩
  · have HV := hide (mtV_yes hd)
    have hrm := rm_of hD hd hz
    obtain ⟨⟨g1, g2⟩, -⟩ := pk_facts hd
    rw [HD.out] at g1 g2 HV
    rw [hd] at CD
    obtain ⟨b, off, rfl, hbs, hrow⟩ := HR.out (by rw [HD.out]; omega)
    have HRW := hide hrow
    have CP := hide (fun (w1 : World) (h1 : b < w1.heap.size) (h2 : PnRow w1 b off D w1.heap.size) => s_mtext D n b off cap hrm n (n - 1) (by omega) (by omega) w1 h1 h2)
    rw [← HV.out, show ((n - 1 : Nat) : Int) = (n : Int) - 1 by omega] at CP
    obtain ⟨V, hV⟩ : ∃ V, mtV D = V := ⟨_, rfl⟩
    rw [hV] at CP ⊢
    clear hr hD hz hrow hV HV hrm
    go_enter Try.func10, Try.ntmps10
    go_wp2_with fail
    refine CD.out.mono ?_
    rintro e w1 ⟨rfl, hb1⟩
    have CP1 := hide (CP.out w1 (Nat.lt_of_lt_of_le hbs hb1.size) (pnRow_up (pnRow_go HRW.out hbs hb1) hb1.size))
    have HB := hide hb1
    clear hb1
    go_wp2_with (first | (go_at_call 27; refine CP1.out.mono ?_; rintro e w2 ⟨rfl, hb2⟩; have HB2 := hide (HB.out.trans (hb2.mono HB.out.size)); clear hb2))
    go_ret
    exact ⟨rfl, HB2.out⟩
set_option maxHeartbeats 4000000 in
theorem i_modeltext (D : Pn) (n : Nat) (a : Option Addr) (cap : Nat) (w : World) (hD : D.n = n) (hz : pnTot D ≤ 1048576) (hr : PnAt w a D w.heap.size) :
    Calls Try.prog 8 #[.slice a n cap] w fun e w' => e = .returned (.string (mtV D)) ∧ Below w.heap.size w w' := by
  have HD := hide hD
  have HR := hide hr
  have CD := hide (i_particle D n a cap w hD hz hr)
  cases hd : pkB D
  · have HV := hide (mtV_no hd)
    rw [hd] at CD
    clear hr hD hz
    go_enter Try.func8, Try.ntmps8
    go_wp2_with (first | (go_at_call 11; refine CD.out.mono ?_; rintro e w1 ⟨rfl, hb1⟩; have HB := hide hb1; clear hb1))
    go_ret
    exact ⟨ret_s9 HV.out.symm, HB.out⟩
  · have HV := hide (mtV_yes hd)
    have hrm := rm_of hD hd hz
    obtain ⟨⟨g1, g2⟩, -⟩ := pk_facts hd
    rw [HD.out] at g1 g2 HV
    rw [hd] at CD
    obtain ⟨b, off, rfl, hbs, hrow⟩ := HR.out (by rw [HD.out]; omega)
    have HRW := hide hrow
    have CP := hide (fun (w1 : World) (h1 : b < w1.heap.size) (h2 : PnRow w1 b off D w1.heap.size) => i_partTx D n b off cap hrm n (n - 1) (by omega) (by omega) w1 h1 h2)
    rw [← HV.out, show ((n - 1 : Nat) : Int) = (n : Int) - 1 by omega] at CP
    obtain ⟨V, hV⟩ : ∃ V, mtV D = V := ⟨_, rfl⟩
    rw [hV] at CP ⊢
    clear hr hD hz hrow hV HV hrm
    go_enter Try.func8, Try.ntmps8
    go_wp2_with fail
    refine CD.out.mono ?_
    rintro e w1 ⟨rfl, hb1⟩
    have CP1 := hide (CP.out w1 (Nat.lt_of_lt_of_le hbs hb1.size) (pnRow_up (pnRow_go HRW.out hbs hb1) hb1.size))
    have HB := hide hb1
    clear hb1
    go_wp2_with (first | (go_at_call 24; refine CP1.out.mono ?_; rintro e w2 ⟨rfl, hb2⟩; have HB2 := hide (HB.out.trans (hb2.mono HB.out.size)); clear hb2))
    go_ret
    exact ⟨rfl, HB2.out⟩
end Go.Proofs.Ytfohfljdgmlibaa

/-
  Plain facts on trees of model nodes, of no program: what rows of names they take; turned round.
-/
namespace Go.Proofs.Ytfohfljdgmlibaa
set_option linter.unusedVariables false
set_option linter.unusedSimpArgs false
/-- A model's node with all below it: kind, name, how often, kids. -/
inductive Tr where
  | nd : Int → ByteArray → Int → List Tr → Tr
/- Turned round. -/
mutual
def mir : Tr → Tr
  | .nd k nm oc ks => .nd k nm oc (if k = 2 then (mirs ks).reverse else mirs ks)
def mirs : List Tr → List Tr
  | [] => []
  | t :: ts => mir t :: mirs ts
end
theorem mirs_map : ∀ ts : List Tr, mirs ts = ts.map mir
  | [] => rfl
  | t :: ts => by rw [mirs, mirs_map ts]; rfl
mutual
theorem mir_mir : ∀ t : Tr, mir (mir t) = t
  | .nd k nm oc ks => by
    have h := mirs_mirs ks
    rw [mirs_map, mirs_map] at h
    rw [mir, mir]
    by_cases e : k = 2
    · rw [if_pos e, if_pos e, mirs_map, mirs_map, List.map_reverse, List.reverse_reverse, h]
    · rw [if_neg e, if_neg e, mirs_map, mirs_map, h]
theorem mirs_mirs : ∀ ts : List Tr, mirs (mirs ts) = ts
  | [] => rfl
  | t :: ts => by rw [mirs, mirs, mir_mir t, mirs_mirs ts]
end
end Go.Proofs.Ytfohfljdgmlibaa

/-
  Plain facts on the reading of models, of no program's run: what tree stands at the beginning of a text, what is left of the text; there is no more than one.
-/
namespace Go.Proofs.Ytfohfljdgmlibaa
set_option linter.unusedVariables false
set_option linter.unusedSimpArgs false
def nmC (c : UInt8) : Bool := moreB (c.toNat : Int)
/-- A sign stands there, or none. -/
def ocP (oc : Int) (x v : List UInt8) : Prop := (oc = 1 ∧ x = 63 :: v) ∨ (oc = 2 ∧ x = 42 :: v) ∨ (oc = 3 ∧ x = 43 :: v) ∨ (oc = 0 ∧ x = v ∧ x.head? ≠ some 63 ∧ x.head? ≠ some 42 ∧ x.head? ≠ some 43)
theorem oc_one {oc oc' : Int} {x v v' : List UInt8} (h : ocP oc x v) (h' : ocP oc' x v') : oc = oc' ∧ v = v' := by
  rcases h with ⟨rfl, rfl⟩ | ⟨rfl, rfl⟩ | ⟨rfl, rfl⟩ | ⟨rfl, rfl, h1, h2, h3⟩ <;> rcases h' with ⟨rfl, e⟩ | ⟨rfl, e⟩ | ⟨rfl, e⟩ | ⟨rfl, e, k1, k2, k3⟩ <;> (try subst e) <;> simp_all
/- The tree that stands at the beginning of a text. -/
mutual
def rdP : Tr → List UInt8 → List UInt8 → Prop
  | .nd k nm oc ks, u, v => ∃ x, ocP oc x v ∧
    ((k = 2 ∧ nm = ⟨#[]⟩ ∧ ∃ y, u = 40 :: y ∧ ((ks = [] ∧ y = 41 :: x) ∨ (y.head? ≠ some 41 ∧ sqP 44 ks y (41 :: x)))) ∨
     (k = 3 ∧ nm = ⟨#[]⟩ ∧ 2 ≤ ks.length ∧ ∃ y, u = 40 :: y ∧ y.head? ≠ some 41 ∧ sqP 124 ks y (41 :: x)) ∨
     (k = 4 ∧ nm = ⟨#[]⟩ ∧ ks = [] ∧ u = 35 :: x) ∨
     (k = 1 ∧ ks = [] ∧ u.head? ≠ some 40 ∧ u.head? ≠ some 35 ∧ nm.data.toList = u.takeWhile nmC ∧ x = u.dropWhile nmC))
def sqP (c : UInt8) : List Tr → List UInt8 → List UInt8 → Prop
  | [], _, _ => False
  | t :: ts, u, w => (ts = [] ∧ rdP t u w) ∨ ∃ y, rdP t u (c :: y) ∧ sqP c ts y w
end
theorem ba_ext {a b : ByteArray} (h : a.data.toList = b.data.toList) : a = b := by
  cases a; cases b
  simp at h
  simp [h]
mutual
theorem rd_one : ∀ (t t' : Tr) (u v v' : List UInt8), rdP t u v → rdP t' u v' → t = t' ∧ v = v'
  | .nd k nm oc ks, .nd k' nm' oc' ks', u, v, v', h, h' => by
    rw [rdP] at h h'
    obtain ⟨x, ho, h⟩ := h
    obtain ⟨x', ho', h'⟩ := h'
    rcases h with ⟨rfl, rfl, y, rfl, h⟩ | ⟨rfl, rfl, hl, y, rfl, hy, h⟩ | ⟨rfl, rfl, rfl, rfl⟩ | ⟨rfl, rfl, h1, h2, h3, rfl⟩
    · rcases h' with ⟨rfl, rfl, y', e, h'⟩ | ⟨rfl, rfl, hl', y', e, hy', h'⟩ | ⟨rfl, rfl, rfl, e⟩ | ⟨rfl, rfl, h1', -⟩
      · obtain rfl := List.tail_eq_of_cons_eq e
        rcases h with ⟨rfl, rfl⟩ | ⟨hy, h⟩
        · rcases h' with ⟨rfl, e2⟩ | ⟨hy', -⟩
          · obtain rfl := List.tail_eq_of_cons_eq e2
            obtain ⟨rfl, rfl⟩ := oc_one ho ho'
            exact ⟨rfl, rfl⟩
          · simp at hy'
        · rcases h' with ⟨rfl, rfl⟩ | ⟨hy', h'⟩
          · simp at hy
          · obtain ⟨rfl, rfl, -⟩ := sq_one ks ks' 44 44 y x x' (by decide) (by decide) h h'
            obtain ⟨rfl, rfl⟩ := oc_one ho ho'
            exact ⟨rfl, rfl⟩
      · obtain rfl := List.tail_eq_of_cons_eq e
        rcases h with ⟨rfl, rfl⟩ | ⟨hy, h⟩
        · simp at hy'
        · obtain ⟨rfl, rfl, hc⟩ := sq_one ks ks' 44 124 y x x' (by decide) (by decide) h h'
          exact absurd (hc hl') (by decide)
      · exact absurd (List.head_eq_of_cons_eq e) (by decide)
      · simp at h1'
    · rcases h' with ⟨rfl, rfl, y', e, h'⟩ | ⟨rfl, rfl, hl', y', e, hy', h'⟩ | ⟨rfl, rfl, rfl, e⟩ | ⟨rfl, rfl, h1', -⟩
      · obtain rfl := List.tail_eq_of_cons_eq e
        rcases h' with ⟨rfl, rfl⟩ | ⟨hy', h'⟩
        · simp at hy
        · obtain ⟨rfl, rfl, hc⟩ := sq_one ks ks' 124 44 y x x' (by decide) (by decide) h h'
          exact absurd (hc hl) (by decide)
      · obtain rfl := List.tail_eq_of_cons_eq e
        obtain ⟨rfl, rfl, -⟩ := sq_one ks ks' 124 124 y x x' (by decide) (by decide) h h'
        obtain ⟨rfl, rfl⟩ := oc_one ho ho'
        exact ⟨rfl, rfl⟩
      · exact absurd (List.head_eq_of_cons_eq e) (by decide)
      · simp at h1'
    · rcases h' with ⟨rfl, rfl, y', e, h'⟩ | ⟨rfl, rfl, hl', y', e, hy', h'⟩ | ⟨rfl, rfl, rfl, e⟩ | ⟨rfl, rfl, h1', h2', -⟩
      · exact absurd (List.head_eq_of_cons_eq e) (by decide)
      · exact absurd (List.head_eq_of_cons_eq e) (by decide)
      · obtain rfl := List.tail_eq_of_cons_eq e
        obtain ⟨rfl, rfl⟩ := oc_one ho ho'
        exact ⟨rfl, rfl⟩
      · simp at h2'
    · rcases h' with ⟨rfl, rfl, y', e, h'⟩ | ⟨rfl, rfl, hl', y', e, hy', h'⟩ | ⟨rfl, rfl, rfl, e⟩ | ⟨rfl, rfl, h1', h2', h3', rfl⟩
      · rw [e] at h1; simp at h1
      · rw [e] at h1; simp at h1
      · rw [e] at h2; simp at h2
      · obtain rfl := ba_ext (h3.trans h3'.symm)
        obtain ⟨rfl, rfl⟩ := oc_one ho ho'
        exact ⟨rfl, rfl⟩
theorem sq_one : ∀ (ts ts' : List Tr) (c c' : UInt8) (u x x' : List UInt8), c ≠ 41 → c' ≠ 41 → sqP c ts u (41 :: x) → sqP c' ts' u (41 :: x') → ts = ts' ∧ x = x' ∧ (2 ≤ ts'.length → c = c')
  | [], ts', c, c', u, x, x', hc, hc', h, h' => by rw [sqP] at h; exact h.elim
  | t :: ts, [], c, c', u, x, x', hc, hc', h, h' => by rw [sqP] at h'; exact h'.elim
  | t :: ts, t' :: ts', c, c', u, x, x', hc, hc', h, h' => by
    rw [sqP] at h h'
    rcases h with ⟨rfl, h⟩ | ⟨y, h, h2⟩
    · rcases h' with ⟨rfl, h'⟩ | ⟨y', h', h2'⟩
      · obtain ⟨rfl, e⟩ := rd_one t t' u _ _ h h'
        exact ⟨rfl, List.tail_eq_of_cons_eq e, fun h9 => absurd h9 (by simp)⟩
      · obtain ⟨rfl, e⟩ := rd_one t t' u _ _ h h'
        exact absurd (List.head_eq_of_cons_eq e).symm hc'
    · rcases h' with ⟨rfl, h'⟩ | ⟨y', h', h2'⟩
      · obtain ⟨rfl, e⟩ := rd_one t t' u _ _ h h'
        exact absurd (List.head_eq_of_cons_eq e) hc
      · obtain ⟨rfl, e⟩ := rd_one t t' u _ _ h h'
        obtain rfl := List.tail_eq_of_cons_eq e
        have ec := List.head_eq_of_cons_eq e
        obtain ⟨rfl, rfl, -⟩ := sq_one ts ts' c c' y x x' hc hc' h2 h2'
        exact ⟨rfl, rfl, fun _ => ec⟩
end
end Go.Proofs.Ytfohfljdgmlibaa
