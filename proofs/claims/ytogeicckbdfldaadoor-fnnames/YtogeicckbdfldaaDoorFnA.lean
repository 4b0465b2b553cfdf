/-
  The drawn document alone; plain facts on names: each item's is told, no two attributes' are one.
-/
import Derived.Test.YtogeicckbdfldaaDoorFbA
import Derived.Test.YtogeicckbdfldaaDoorDrBn
import Derived.Test.YtogeicckbdfldaaDoorQnO
namespace Go.Proofs.YtogeicckbdfldaaDoor
open Go.RowKit Go.Joins
set_option linter.unusedVariables false
set_option linter.unusedSimpArgs false
set_option maxHeartbeats 1000000 in
theorem d_namesof (a : Option Addr) (n cap : Nat) (zs : List Int) (w : World) (hgrow : ∀ G, GrowAt G a n cap zs) (hl : zs.length = n) (hz : ∀ x ∈ zs, 0 ≤ x ∧ x ≤ 255) (hn : n ≤ 1048576) (hs : SrcAt w a zs w.heap.size) :
    Calls Tryd.prog 14 #[.slice a n cap] w fun e w' => ∃ ad m c D, e = .returned (.slice ad m c) ∧ D.n = m ∧ (1 ≤ m ∧ m ≤ 40) ∧ dcTot D ≤ 1048576 ∧ DcAt w' ad D w'.heap.size ∧ Below w.heap.size w w' := by
  have HS := hide hs
  have HL := hide hl
  have HZ := hide hz
  have HGR := hide hgrow
  clear hs hl hz hgrow
  go_enter Tryd.func14, Tryd.ntmps14
  go_wp2_with fail
  refine (d_open a n cap zs _ HL.out HZ.out hn HS.out).mono ?_
  rintro e w1 ⟨rfl, hrd, hb1⟩
  have HRD := hide hrd
  have HB1 := hide hb1
  clear hrd hb1
  go_wp2_with fail
  refine (d_spaces w.heap.size a n cap zs _ (HGR.out _) HRD.out).mono ?_
  rintro e w2 ⟨ad, m, c, D, rfl, hg, hm1, hm2⟩
  have HGS := hide hg
  clear hg
  go_wp2
  go_ret
  exact ⟨ad, m, c, D, rfl, (drIt_dcB HGS.out.2.1).1, ⟨hm1, hm2⟩, drIt_totB HGS.out.2.1 (by omega), (drIt_dcB HGS.out.2.1).2, HB1.out.trans HGS.out.2.2.1⟩
theorem qA_app {L : QL} {q : ByteArray × ByteArray} {j : Nat} (h : j < L.length) : qA (L ++ [q]) j = qA L j ∧ qB (L ++ [q]) j = qB L j := by
  unfold qA qB
  rw [List.getElem?_append_left h]
  exact ⟨rfl, rfl⟩
theorem qA_last {L : QL} {q : ByteArray × ByteArray} : qA (L ++ [q]) L.length = q.1 ∧ qB (L ++ [q]) L.length = q.2 := by
  unfold qA qB
  rw [List.getElem?_append_right (Nat.le_refl _), Nat.sub_self]
  exact ⟨rfl, rfl⟩
theorem nmF_at {D : Dc} : ∀ (m : Nat) (L : QL), nmF D m = some L → ∀ k, k < m → nmQ D k = some (qA L k, qB L k)
  | 0, L, h, k, hk => by omega
  | m + 1, L, h, k, hk => by
    rw [nmF] at h
    cases h1 : nmF D m with
    | none => rw [h1] at h; cases h
    | some L1 =>
      rw [h1] at h
      dsimp only at h
      cases h2 : nmQ D m with
      | none => rw [h2] at h; cases h
      | some q =>
        rw [h2] at h
        have e : L1 ++ [q] = L := Option.some.inj h
        subst e
        have hl := nmF_len m L1 h1
        by_cases e : k < m
        · have := nmF_at m L1 h1 k e
          rw [(qA_app (q := q) (by omega : k < L1.length)).1, (qA_app (q := q) (by omega : k < L1.length)).2]
          exact this
        · have e : k = m := by omega
          subst e
          have hq := qA_last (L := L1) (q := q)
          rw [hl] at hq
          rw [hq.1, hq.2]
          exact h2
/-- No two of the names are one. -/
def QSep (L : QL) : Prop := ∀ k j, j < k → k < L.length → ¬ ((qA L k).toList = (qA L j).toList ∧ (qB L k).toList = (qB L j).toList)
theorem qn_sep {D : Dc} {x : Int} {N : Nat → ByteArray} : ∀ (m : Nat) (L : QL), qn D x N m = some L → QSep L
  | 0, L, h => by
    have e : ([] : QL) = L := Option.some.inj h
    subst e
    intro k j hj hk
    simp at hk
  | m + 1, L, h => by
    rw [qn] at h
    cases h1 : qn D x N m with
    | none => rw [h1] at h; cases h
    | some L1 =>
      rw [h1] at h
      dsimp only at h
      have ih := qn_sep m L1 h1
      by_cases h2 : qsk (N m) = true
      · rw [if_pos h2] at h
        have e : L1 = L := Option.some.inj h
        subst e
        exact ih
      · rw [if_neg h2] at h
        by_cases h3 : qok D x (N m) = true
        · rw [if_pos h3] at h
          by_cases h4 : qdup L1 (qsp D x (N m)) (spl (N m)).2.1 = true
          · rw [if_pos h4] at h; cases h
          · rw [if_neg h4] at h
            have e : L1 ++ [(qsp D x (N m), (spl (N m)).2.1)] = L := Option.some.inj h
            subst e
            intro k j hj hk
            rw [List.length_append, List.length_singleton] at hk
            by_cases e : k < L1.length
            · rw [(qA_app e).1, (qA_app e).2, (qA_app (by omega : j < L1.length)).1, (qA_app (by omega : j < L1.length)).2]
              exact ih k j hj e
            · have e : k = L1.length := by omega
              subst e
              rw [qA_last.1, qA_last.2, (qA_app (by omega : j < L1.length)).1, (qA_app (by omega : j < L1.length)).2]
              rintro ⟨e1, e2⟩
              refine h4 (anyQ_hit hj ?_)
              unfold sameS
              rw [e1, e2]
              simp
        · rw [if_neg h3] at h; cases h
/-- What the law asks of an item whose name is told. -/
theorem nm_text {D : Dc} {L : QL} (hd : docokB D = true) (h : noQ D = some L) {k : Nat} (hk : k < D.n) (he : (D.NM k).toList.isEmpty = true) : qA L k = ⟨#[]⟩ ∧ qB L k = ⟨#[]⟩ := by
  rw [noQ_yes hd] at h
  have h1 := nmF_at D.n L h k hk
  rw [nmQ_text he] at h1
  have e := Option.some.inj h1
  exact ⟨(congrArg Prod.fst e).symm, (congrArg Prod.snd e).symm⟩
theorem nm_elem {D : Dc} {L : QL} (hd : docokB D = true) (h : noQ D = some L) {k : Nat} (hk : k < D.n) (he : (D.NM k).toList.isEmpty = false) : qA L k = baV D k (spl (D.NM k)).1 ∧ baK D k (spl (D.NM k)).1 = true ∧ qB L k = (spl (D.NM k)).2.1 ∧ ∃ A, anQ D k = some A ∧ QSep A ∧ A.length ≤ D.AC k := by
  have hh := x_has hd hk
  obtain ⟨e1, e2⟩ := ba_yes (p := (spl (D.NM k)).1) hh
  rw [noQ_yes hd] at h
  have h1 := nmF_at D.n L h k hk
  unfold nmQ at h1
  rw [if_neg (by rw [he]; decide)] at h1
  by_cases h2 : bnK D k (spl (D.NM k)).1 = true ∧ (qn D k (D.AN k) (D.AC k)).isSome = true
  · rw [if_pos h2] at h1
    have e := Option.some.inj h1
    obtain ⟨A, hA⟩ := Option.isSome_iff_exists.1 h2.2
    refine ⟨by rw [e1]; exact (congrArg Prod.fst e).symm, by rw [e2]; exact h2.1, (congrArg Prod.snd e).symm, A, ?_, qn_sep _ _ hA, qn_len _ _ hA⟩
    rw [anQ_yes hh]
    exact hA
  · rw [if_neg h2] at h1; cases h1
theorem no_doc {D : Dc} {L : QL} (h : noQ D = some L) : docokB D = true ∧ L.length = D.n := by
  cases hd : docokB D with
  | false => rw [noQ_no hd] at h; cases h
  | true => rw [noQ_yes hd] at h; exact ⟨rfl, nmF_len _ _ h⟩
end Go.Proofs.YtogeicckbdfldaaDoor
