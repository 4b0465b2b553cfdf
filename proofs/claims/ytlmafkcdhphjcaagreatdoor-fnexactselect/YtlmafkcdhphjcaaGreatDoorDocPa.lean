/-
  Contract: an item's parts, by the program.
-/
import Derived.Test.YtlmafkcdhphjcaaGreatDoorDocAt3
namespace Go.Proofs.YtlmafkcdhphjcaaGreatDoor
open Go.RowKit Go.Joins
set_option linter.unusedVariables false
set_option linter.unusedSimpArgs false
def partB (nm tx : ByteArray) (n : Nat) (N V : Nat → ByteArray) : Bool :=
  if nm.toList.isEmpty = true then !tx.toList.isEmpty && (((n : Int) == 0) && plainB tx) else tx.toList.isEmpty && (qualB nm && attrsB n N V)
set_option maxRecDepth 100000 in
set_option maxHeartbeats 4000000 in
theorem i_parts (up : Int) (nm tx : ByteArray) (a : Option Addr) (n c : Nat) (N V : Nat → ByteArray) (w : World) (hn : n ≤ 1048576) (hcap : n ≤ c) (h1 : nm.size ≤ 1048576) (h2 : tx.size ≤ 1048576) (hs : ∀ j, j < n → (N j).size ≤ 1048576 ∧ (V j).size ≤ 1048576) (hr : AtAt w a n N V w.heap.size) (hT : Tabs w) :
    Calls Tryz.prog 65 #[.agg #[.int .i64 up, .string nm, .string tx, .slice a n c]] w fun e w' => e = .returned (.bool (partB nm tx n N V)) ∧ Below w.heap.size w w' := by
  have HS := hide hs
  have HR := hide hr
  have HT := hide hT
  have H1 := hide h1
  have H2 := hide h2
  have st : ∀ o, Below w.heap.size w (w.alloc o) := fun o => (Below.refl _ _).alloc (Nat.le_refl _) _
  have HST := hide st
  clear hr hs hT h1 h2 st
  cases e1 : nm.toList.isEmpty
  · have hv : partB nm tx n N V = (tx.toList.isEmpty && (qualB nm && attrsB n N V)) := by unfold partB; rw [e1, if_neg (by decide)]
    have HV := hide hv
    clear hv
    cases e2 : tx.toList.isEmpty
    · go_enter Tryz.func65, Tryz.ntmps65
      go_wp2
      go_ret
      exact ⟨ret_bool (by rw [HV.out, e2]; rfl), HST.out _⟩
    · cases e3 : qualB nm
      · go_enter Tryz.func65, Tryz.ntmps65
        go_wp2_with (go_at_call 86; refine (i_qualF _ _ H1.out e3).mono ?_; rintro e w2 ⟨rfl, q, rfl⟩)
        go_ret
        exact ⟨ret_bool (by rw [HV.out, e2, e3]; rfl), (HST.out _).trans ((drewN_below _ _).mono (by simp))⟩
      · obtain ⟨x, hx⟩ : ∃ x, attrsB n N V = x := ⟨_, rfl⟩
        have HX := hide hx
        go_enter Tryz.func65, Tryz.ntmps65
        go_wp2_with (first | (go_at_call 86; refine (i_qualT _ _ H1.out e3).mono ?_; rintro e w2 ⟨rfl, q, rfl⟩) | (go_at_call 87; refine (i_attrs _ _ _ N V _ hn hcap HS.out (atAt_up (atAt_go HR.out ((HST.out _).trans ((drewN_below _ _).mono (by simp)))) (by simp)) (tabs_below HT.out ((HST.out _).trans ((drewN_below _ _).mono (by simp))))).mono ?_; rintro e w3 ⟨rfl, hb3⟩; rw [HX.out]; have HB3 := hide (((HST.out _).trans ((drewN_below _ _).mono (by simp))).trans (hb3.mono (by simp))); clear hb3))
        go_ret
        exact ⟨ret_bool (by rw [HV.out, e2, e3, HX.out]; rfl), HB3.out⟩
  · have hv : partB nm tx n N V = (!tx.toList.isEmpty && (((n : Int) == 0) && plainB tx)) := by unfold partB; rw [e1, if_pos rfl]
    have HV := hide hv
    clear hv
    cases e2 : tx.toList.isEmpty
    · cases e3 : ((n : Int) == 0)
      · go_enter Tryz.func65, Tryz.ntmps65
        go_wp2
        go_ret
        exact ⟨ret_bool (by rw [HV.out, e2, e3]; rfl), HST.out _⟩
      · obtain ⟨x, hx⟩ : ∃ x, plainB tx = x := ⟨_, rfl⟩
        have HX := hide hx
        go_enter Tryz.func65, Tryz.ntmps65
        go_wp2_with (go_at_call 85; refine (i_plain _ _ H2.out (tabs_below HT.out (HST.out _))).mono ?_; rintro e w3 ⟨rfl, hb3⟩; rw [HX.out]; have HB3 := hide ((HST.out _).trans (hb3.mono (by simp))); clear hb3)
        go_ret
        exact ⟨ret_bool (by rw [HV.out, e2, e3, HX.out]; rfl), HB3.out⟩
    · go_enter Tryz.func65, Tryz.ntmps65
      go_wp2
      go_ret
      exact ⟨ret_bool (by rw [HV.out, e2]; rfl), HST.out _⟩
end Go.Proofs.YtlmafkcdhphjcaaGreatDoor
