/-
  The walk of the law on reading models: at every text both answer the same rows, and the program's answer owns its memory.
-/
import Derived.Test.YtfohfljdgmlibaaV42
import Derived.Test.YtfohfljdgmlibaaV49
namespace Go.Proofs.Ytfohfljdgmlibaa
open Go.RowKit Go.Joins
set_option linter.unusedVariables false
set_option linter.unusedSimpArgs false
/-- Whatever world it is asked in: one model, or none. -/
def MdU (vn : Nat) (V : Pn) (ok : Bool) (w : World) (e : Ending) (w' : World) : Prop := ∃ ad c, e = .returned (.tuple #[.slice ad vn c, .bool ok]) ∧ PO w.heap.size (fun j => w.heap.size ≤ j) w' ad vn c V ∧ Below w.heap.size w w'
theorem md_uni (s : ByteArray) : ∃ V ok vn, V.n = vn ∧ vn ≤ 40 ∧ (∀ w e w', MdAns s w e w' → MdU vn V ok w e w') ∧ ((ok = true ∧ ∃ t, rdP t s.data.toList [] ∧ pkB (fl t emP) = true ∧ V = fl t emP) ∨ (ok = false ∧ NoR s)) := by
  by_cases h : ∃ t, rdP t s.data.toList [] ∧ pkB (fl t emP) = true
  · obtain ⟨t, ht, hp⟩ := h
    refine ⟨fl t emP, true, (fl t emP).n, rfl, (fl_pk hp).2.1, fun w e w' ha => ?_, .inl ⟨rfl, t, ht, hp, rfl⟩⟩
    rcases ha with ⟨t', ad, m, c, h1, h2, h3, h4, h5, h6⟩ | ⟨h1, -⟩
    · obtain ⟨rfl, -⟩ := rd_one t t' _ _ _ ht h1
      subst h5
      exact ⟨ad, c, h3, h4, h6⟩
    · rw [h1 t ht] at hp; cases hp
  · have hn : NoR s := fun t ht => by
      cases hp : pkB (fl t emP)
      · rfl
      · exact absurd ⟨t, ht, hp⟩ h
    refine ⟨emP, false, 0, rfl, by omega, fun w e w' ha => ?_, .inr ⟨rfl, hn⟩⟩
    rcases ha with ⟨t', ad, m, c, h1, h2, -⟩ | ⟨-, h2, h3⟩
    · exact absurd ⟨t', h1, h2⟩ h
    · exact ⟨none, 0, h2, po_nil _ _ _, h3⟩
set_option maxRecDepth 100000 in
set_option maxHeartbeats 8000000 in
theorem rm_walk (s : ByteArray) (w : World) (hs0 : s.size ≤ maxLen) :
    Calls Try.prog 4 #[.string s] w fun e w' => e = .returned (.bool true) ∧ Below w.heap.size w w' := by
  by_cases hbig : s.size ≤ 1048576
  · have hb1 : ¬ (1048576 : Int) < (s.size : Int) := by omega
    obtain ⟨V, ok, vn, hvn, hkl, hu, -⟩ := md_uni s
    have CS := hide (fun (W : World) => (x_model s W hbig).mono (hu W))
    have CI := hide (fun (W : World) => (i_model s W hbig).mono (hu W))
    unfold MdU at CS CI
    have HVN := hide hvn
    clear hvn hu
    go_enter Try.func4, Try.ntmps4
    go_wp2_with fail
    refine (CS.out _).mono ?_
    rintro e w1 ⟨adA, cA, rfl, hoA, hb1'⟩
    have HB1 := hide hb1'
    have OA := hide (po_imp (T := fun j => j < w1.heap.size) hoA (fun j hj _ => hj))
    have HVL := hide (po_len hoA)
    clear hoA hb1'
    go_wp2_with fail
    refine (CI.out _).mono ?_
    rintro e w2 ⟨adB, cB, rfl, hoB, hb2⟩
    have HB2 := hide (HB1.out.trans (hb2.mono HB1.out.size))
    have hs12 := hb2.size
    have OB := hide hoB
    have OA2 := hide (po_below OA.out hb2)
    have CE := hide (fun (W : World) (x y : Option Addr) (cx cy : Nat) (hx : PnAt W x V W.heap.size) (hy : PnAt W y V W.heap.size) => l_eqPs V vn x y cx cy W HVN.out (by omega) (fun j hj => by have := HVL.out j hj; omega) hx hy)
    clear hoB hb2
    go_wp2_with fail
    refine (CE.out _ adB adA cB cA (po_at OB.out).2 (po_at OA2.out).2).mono ?_
    rintro e w3 ⟨rfl, hb3⟩
    have HB3 := hide (HB2.out.trans (hb3.mono HB2.out.size))
    have OA3 := hide (po_below OA2.out hb3)
    have OB3 := hide (po_below OB.out hb3)
    have hs3 : w1.heap.size ≤ w3.heap.size := Nat.le_trans hs12 hb3.size
    have hs1 := HB1.out.size
    clear hb3
    cases ok
    all_goals
      go_wp2_with fail
      refine (l_markPO w1.heap.size adB vn cB V w3 HVN.out hkl hs3 HVL.out OB3.out).mono ?_
      rintro e w4 ⟨rfl, ho4, hb4⟩
      have O4 := hide ho4
      have OA4 : Hid (PO w.heap.size (fun j => j < w1.heap.size) w4 adA vn cA V) := hide (po_kp (T := fun j => w1.heap.size ≤ j) OA3.out ⟨hb4.os, hb4.tape, hb4.output, hb4.size, fun j hj hn9 => hb4.block j (by omega)⟩ (fun j hj e9 => by
        obtain ⟨xs, hx, -⟩ := OA.out
        have h1 := (hx.lt j hj).2
        omega) (fun B' z n' v ys j hv hj hs9 e9 => by have h1 : j < w1.heap.size := hs9; have e9' : w1.heap.size ≤ j := e9; omega))
      have HB4 := hide (HB3.out.trans (hb4.mono hs1))
      have hkq := ks_le (D := V) HVL.out vn (Nat.le_refl _)
      have hq0 : ¬ ((ksN V vn : Nat) : Int) < 0 := by omega
      clear ho4 hb4
      go_wp2_with fail
      refine (l_heldPO adB vn cB V _ HVN.out hkl HVL.out (po_at O4.out).2).mono ?_
      rintro e w5 ⟨rfl, hb5⟩
      have HB5 := hide (HB4.out.trans (hb5.mono HB4.out.size))
      have OA5 := hide (po_below OA4.out hb5)
      have O5 := hide (po_below O4.out hb5)
      clear hb5
      go_wp2_with fail
      refine (CI.out _).mono ?_
      rintro e w6 ⟨adC, cC, rfl, hoC, hb6⟩
      have OC := hide hoC
      have HB6 := hide (HB5.out.trans (hb6.mono HB5.out.size))
      have OA6 := hide (po_below OA5.out hb6)
      have O6 := hide (po_below O5.out hb6)
      clear hoC hb6
      go_wp2_with fail
      refine (CE.out _ adC adA cC cA (po_at OC.out).2 (po_at OA6.out).2).mono ?_
      rintro e w7 ⟨rfl, hb7⟩
      have HB7 := hide (HB6.out.trans (hb7.mono HB6.out.size))
      have O7 := hide (po_below O6.out hb7)
      clear hb7
      go_wp2_with fail
      refine (l_heldPO adB vn cB V _ HVN.out hkl HVL.out (po_at O7.out).2).mono ?_
      rintro e w8 ⟨rfl, hb8⟩
      have HB8 := hide (HB7.out.trans (hb8.mono HB7.out.size))
      clear hb8
      go_wp2
      go_ret
      exact ⟨rfl, HB8.out⟩
  · have hb1 : (1048576 : Int) < (s.size : Int) := by omega
    go_enter Try.func4, Try.ntmps4
    go_wp2
    go_ret
    exact ⟨rfl, Below.refl _ _⟩
end Go.Proofs.Ytfohfljdgmlibaa
