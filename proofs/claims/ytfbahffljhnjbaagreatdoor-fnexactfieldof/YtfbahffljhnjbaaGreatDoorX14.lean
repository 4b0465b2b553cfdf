/-
  Contracts: names with a prefix or without; rows of attributes, by the specification and by the program.
-/
import Derived.Test.YtfbahffljhnjbaaGreatDoorX5
import Derived.Test.YtfbahffljhnjbaaGreatDoorX11
import Derived.Test.YtfbahffljhnjbaaGreatDoorX13
import Derived.Deep.DeepCutAuto
namespace Go.Proofs.YtfbahffljhnjbaaGreatDoor
open Go.RowKit Go.Joins
set_option linter.unusedVariables false
set_option linter.unusedSimpArgs false
theorem drewN_below (w : World) (q : Nat) : Below w.heap.size w (w.drewN q) := by
  induction q with
  | zero => exact Below.refl _ _
  | succ q ih => exact ih.drew
theorem tabs_below {w w' : World} (h : Tabs w) (hb : Below w.heap.size w w') : Tabs w' := by
  refine ⟨fun c hc => ?_, fun i hi => ⟨?_, ?_⟩⟩
  · exact (hb.cell (p := ⟨_, c, none⟩) (World.block_lt_of_cell? w _ (h.1 c hc))).trans (h.1 c hc)
  · exact (hb.cell (p := ⟨_, 2 * i, none⟩) (World.block_lt_of_cell? w _ (h.2 i hi).1)).trans (h.2 i hi).1
  · exact (hb.cell (p := ⟨_, 2 * i + 1, none⟩) (World.block_lt_of_cell? w _ (h.2 i hi).2)).trans (h.2 i hi).2
def qualB (s : ByteArray) : Bool := (spl s).2.2
theorem s_qual (s : ByteArray) (w : World) (hs : s.size ≤ 1048576) : Calls Tryz.prog 60 #[.string s] w fun e w' => e = .returned (.bool (qualB s)) ∧ ∃ q, w' = w.drewN q := by
  obtain ⟨x, hx⟩ : ∃ x, (spl s).1 = x := ⟨_, rfl⟩
  obtain ⟨y, hy⟩ : ∃ x, (spl s).2.1 = x := ⟨_, rfl⟩
  obtain ⟨z, hz⟩ : ∃ x, (spl s).2.2 = x := ⟨_, rfl⟩
  have HC := hide (s_split s w hs)
  rw [hx, hy, hz] at HC
  have HZ : Hid (qualB s = z) := hide hz
  clear hx hy hz
  go_enter Tryz.func60, Tryz.ntmps60
  go_wp2_with (go_at_call 91; refine HC.out.mono ?_; rintro e w' ⟨rfl, q, rfl⟩)
  go_ret
  exact ⟨ret_bool HZ.out.symm, _, rfl⟩
theorem i_qual (s : ByteArray) (w : World) (hs : s.size ≤ 1048576) : Calls Tryz.prog 118 #[.string s] w fun e w' => e = .returned (.bool (qualB s)) ∧ ∃ q, w' = w.drewN q := by
  obtain ⟨x, hx⟩ : ∃ x, (spl s).1 = x := ⟨_, rfl⟩
  obtain ⟨y, hy⟩ : ∃ x, (spl s).2.1 = x := ⟨_, rfl⟩
  obtain ⟨z, hz⟩ : ∃ x, (spl s).2.2 = x := ⟨_, rfl⟩
  have HC := hide (i_split s w hs)
  rw [hx, hy, hz] at HC
  have HZ : Hid (qualB s = z) := hide hz
  clear hx hy hz
  go_enter Tryz.func118, Tryz.ntmps118
  go_wp2_with (go_at_call 141; refine HC.out.mono ?_; rintro e w' ⟨rfl, q, rfl⟩)
  go_ret
  exact ⟨ret_bool HZ.out.symm, _, rfl⟩
/-- One attribute is right behind those ahead of it. -/
def atB (N V : Nat → ByteArray) (j : Nat) : Bool := qualB (N j) && (plainB (V j) && !(anyS j N (N j)))
def attrsB (n : Nat) (N V : Nat → ByteArray) : Bool := decide (n ≤ 10) && (List.range n).all (atB N V)
theorem attrsB_long {n : Nat} {N V : Nat → ByteArray} (h : 10 < n) : attrsB n N V = false := by unfold attrsB; rw [decide_eq_false (by omega)]; rfl
theorem attrsB_no {n k : Nat} {N V : Nat → ByteArray} (hk : k < n) (h : atB N V k = false) : attrsB n N V = false := by
  have : (List.range n).all (atB N V) = false := by
    rw [List.all_eq_false]
    exact ⟨k, by simpa using hk, by simp [h]⟩
  unfold attrsB
  rw [this]
  simp
theorem attrsB_yes {n : Nat} {N V : Nat → ByteArray} (hn : n ≤ 10) (h : ∀ k, k < n → atB N V k = true) : attrsB n N V = true := by
  have : (List.range n).all (atB N V) = true := by
    rw [List.all_eq_true]
    intro j hj
    exact h j (by simpa using hj)
  unfold attrsB
  rw [this, decide_eq_true hn]
  rfl
set_option maxRecDepth 100000 in
set_option maxHeartbeats 4000000 in
theorem s_attrs (a : Option Addr) (n c : Nat) (N V : Nat → ByteArray) (w : World) (hn : n ≤ 1048576) (hs : ∀ j, j < n → (N j).size ≤ 1048576 ∧ (V j).size ≤ 1048576) (hr : AtAt w a n N V w.heap.size) :
    Calls Tryz.prog 61 #[.slice a n c] w fun e w' => e = .returned (.bool (attrsB n N V)) ∧ Below w.heap.size w w' := by
  have HS := hide hs
  have HR := hide hr
  clear hr hs
  by_cases h10 : n ≤ 10
  · have h10' : (n : Int) ≤ 10 := by omega
    go_enter Tryz.func61, Tryz.ntmps61
    go_wp2
    go_loopw [3] (fun i wr => ∃ k : Nat, k ≤ n ∧ i = .int .i64 k ∧ Below w.heap.size w wr ∧ Hid (∀ j, j < k → atB N V j = true)) (fun i _ => n - (intOf i).toNat)
    case atStart => exact ⟨0, Nat.zero_le _, rfl, Below.refl _ _, fun j h => by omega⟩
    case round =>
      obtain ⟨k, hk, rfl, hb, HM⟩ := hrel
      by_cases hlt : k < n
      · obtain ⟨b, off, rfl, hbs, hc⟩ := HR.out (by omega)
        have HCC : Hid (∀ (w2 : World), Below w.heap.size w w2 → ∀ j, j < n → w2.cell? ⟨b, off + j * 2, none⟩ = some (.string (N j)) ∧ w2.cell? ⟨b, off + j * 2 + 1, none⟩ = some (.string (V j))) := hide (fun w2 h j hj => ⟨(h.cell (p := ⟨b, off + j * 2, none⟩) hbs).trans (hc j hj).1, (h.cell (p := ⟨b, off + j * 2 + 1, none⟩) hbs).trans (hc j hj).2⟩)
        obtain ⟨c0, c1⟩ := HCC.out wr hb k hlt
        obtain ⟨s0, s1⟩ := HS.out k hlt
        have HS0 := hide s0
        have HS1 := hide s1
        have HB := hide hb
        have hi : (k : Int) < (n : Int) := by omega
        clear hc hb s0 s1
        cases hq : qualB (N k)
        · have hv := hide (attrsB_no (N := N) (V := V) hlt (by unfold atB; rw [hq]; rfl))
          go_wp2_with (go_at_call 60; refine (s_qual _ _ HS0.out).mono ?_; rintro e w2 ⟨rfl, q, rfl⟩; rw [hq])
          go_ret
          exact ⟨ret_bool hv.out.symm, HB.out.trans ((drewN_below _ _).mono HB.out.size)⟩
        · cases hp : plainB (V k)
          · have hv := hide (attrsB_no (N := N) (V := V) hlt (by unfold atB; rw [hq, hp]; rfl))
            go_wp2_with (first | (go_at_call 60; refine (s_qual _ _ HS0.out).mono ?_; rintro e w2 ⟨rfl, q, rfl⟩; rw [hq]) | (go_at_call 59; refine (s_text _ _ HS1.out).mono ?_; rintro e w3 ⟨rfl, hb3⟩; rw [hp]; have HB3 := hide ((HB.out.trans ((drewN_below _ _).mono HB.out.size)).trans (hb3.mono HB.out.size)); clear hb3))
            go_ret
            exact ⟨ret_bool hv.out.symm, HB3.out⟩
          · go_wp2_with (first | (go_at_call 60; refine (s_qual _ _ HS0.out).mono ?_; rintro e w2 ⟨rfl, q, rfl⟩; rw [hq]) | (go_at_call 59; refine (s_text _ _ HS1.out).mono ?_; rintro e w3 ⟨rfl, hb3⟩; rw [hp]; have HB3 := hide ((HB.out.trans ((drewN_below _ _).mono HB.out.size)).trans (hb3.mono HB.out.size)); clear hb3))
            clear c0 c1
            go_loopw [4] (fun i w4 => ∃ m : Nat, m ≤ k ∧ i = .int .i64 m ∧ Below w.heap.size w w4 ∧ Hid (∀ j, j < m → ((N j).toList == (N k).toList) = false)) (fun i _ => k - (intOf i).toNat)
            case atStart => exact ⟨0, Nat.zero_le _, rfl, HB3.out, fun j h => by omega⟩
            case round =>
              obtain ⟨m, hm, rfl, hb4, HM4⟩ := hrel
              by_cases hlt4 : m < k
              · obtain ⟨c0, c1⟩ := HCC.out _ hb4 k hlt
                obtain ⟨d0, d1⟩ := HCC.out _ hb4 m (by omega)
                have HB4 := hide hb4
                have hi4 : (m : Int) < (n : Int) := by omega
                have hi5 : (m : Int) < (k : Int) := by omega
                clear hb4
                cases he : ((N m).toList == (N k).toList)
                · go_wp2
                  go_big_quiet (fail)
                  go_wp2
                  go_roundw
                  case rel =>
                    refine ⟨m + 1, by omega, by go_num, HB4.out.trans ((drewN_below _ _).mono HB4.out.size), fun j hj => ?_⟩
                    by_cases e : j = m
                    · subst e; exact he
                    · exact HM4.out j (by omega)
                  case measure => simp [intOf]; omega
                · have hv := hide (attrsB_no (N := N) (V := V) hlt (by unfold atB; rw [hq, hp, anyS_hit hlt4 he]; rfl))
                  go_wp2
                  go_big_quiet (fail)
                  go_wp2
                  go_ret
                  exact ⟨ret_bool hv.out.symm, HB4.out.trans ((drewN_below _ _).mono HB4.out.size)⟩
              · have hkm : m = k := by omega
                subst hkm
                have hat : atB N V m = true := by unfold atB; rw [hq, hp, anyS_no HM4.out]; rfl
                have HB4 := hide hb4
                clear hb4
                go_wp2
                go_roundw
                case rel =>
                  refine ⟨m + 1, by omega, by go_num, HB4.out, fun j hj => ?_⟩
                  by_cases e : j = m
                  · subst e; exact hat
                  · exact HM.out j (by omega)
                case measure => simp [intOf]; omega
      · have hkn : k = n := by omega
        subst hkn
        go_wp2
        go_ret
        exact ⟨ret_bool (attrsB_yes h10 HM.out).symm, hb⟩
  · have h10' : (10 : Int) < (n : Int) := by omega
    have hv := hide (attrsB_long (N := N) (V := V) (by omega : 10 < n))
    go_enter Tryz.func61, Tryz.ntmps61
    go_wp2
    go_ret
    exact ⟨ret_bool hv.out.symm, Below.refl _ _⟩
end Go.Proofs.YtfbahffljhnjbaaGreatDoor
