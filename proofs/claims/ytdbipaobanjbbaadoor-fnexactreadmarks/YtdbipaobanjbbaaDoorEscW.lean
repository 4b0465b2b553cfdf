/-
  Contracts: Escape, the program's and the specification's; the walk of FnExactEscape.
-/
import Derived.Test.YtdbipaobanjbbaaDoorEscI
import Derived.Test.YtdbipaobanjbbaaDoorShelf
namespace Go.Proofs.YtdbipaobanjbbaaDoor
open Go.RowKit
set_option linter.unusedVariables false
set_option linter.unusedSimpArgs false
theorem escW_ne (s : ByteArray) (h : s.size ≠ 0) : s.toList.isEmpty = false := by
  rw [ByteArray.toList_eq]
  cases hq : s.data.toList with
  | nil =>
    have hl : s.data.toList.length = s.size := by simp
    rw [hq] at hl; simp at hl; omega
  | cons a l => rfl
theorem escW_tabs {w w' : World} (h : Tabs w) (hb : Below w.heap.size w w') : Tabs w' := by
  refine ⟨fun c hc => ?_, fun i hi => ⟨?_, ?_⟩⟩
  · exact (hb.cell (p := ⟨_, c, none⟩) (World.block_lt_of_cell? w _ (h.1 c hc))).trans (h.1 c hc)
  · exact (hb.cell (p := ⟨_, 2 * i, none⟩) (World.block_lt_of_cell? w _ (h.2 i hi).1)).trans (h.2 i hi).1
  · exact (hb.cell (p := ⟨_, 2 * i + 1, none⟩) (World.block_lt_of_cell? w _ (h.2 i hi).2)).trans (h.2 i hi).2
theorem escL_len (attr : Bool) : ∀ l : List UInt8, (escL attr l).length ≤ 6 * l.length
  | [] => by simp [escL]
  | c :: l => by
    have h1 := escL_len attr l
    have h2 := escB_len attr c
    have e : escL attr (c :: l) = escB attr c ++ escL attr l := by simp [escL]
    rw [e, List.length_append, List.length_cons]
    omega
theorem bc_app (a b : List UInt8) : Lib.byteCells (a ++ b) = Lib.byteCells a ++ Lib.byteCells b := by simp [Lib.byteCells]
def escOk (s : ByteArray) : Bool := decide (s.size ≤ 2500) && plainB s
def escV (attr : Bool) (s : ByteArray) : ByteArray := if escOk s = true then ⟨(escL attr s.data.toList).toArray⟩ else ⟨#[]⟩
theorem escV_no {attr : Bool} {s : ByteArray} (h : escOk s = false) : escV attr s = ⟨#[]⟩ := by unfold escV; rw [h]; rfl
theorem escV_yes {attr : Bool} {s : ByteArray} (h : escOk s = true) : escV attr s = ⟨(escL attr s.data.toList).toArray⟩ := by unfold escV; rw [h]; rfl
theorem escW_ret {a a' : ByteArray} {b b' : Bool} (h1 : a = a') (h2 : b = b') : Ending.returned (.tuple #[.string a, .bool b]) = .returned (.tuple #[.string a', .bool b']) := by rw [h1, h2]
theorem bd_lt {T e : TypeId} {B b : Nat} {bs : List Value} {w : World} (h : Lib.IsBuilder T e B b bs w) : b < w.heap.size ∧ B ≤ b := by
  rcases h with h | h
  · exact ⟨h.lt, h.1⟩
  · exact ⟨h.lt, h.1⟩
set_option maxRecDepth 100000 in
set_option maxHeartbeats 4000000 in
theorem i_escape (attr : Bool) (s : ByteArray) (w : World) (hs : s.size ≤ 1048576) (hT : Tabs w) :
    Calls Tryd.prog 49 #[.string s, .bool attr] w fun e w' => e = .returned (.tuple #[.string (escV attr s), .bool (escOk s)]) ∧ Below w.heap.size w w' := by
  have HS := hide hs
  have CP := hide (i_plain s w hs hT)
  clear hT
  by_cases hbig : s.size ≤ 2500
  · have hb2 : (s.size : Int) ≤ 2500 := by omega
    cases hp : plainB s
    · have hv : escOk s = false := by unfold escOk; rw [hp]; simp
      have HV := hide (escV_no (attr := attr) hv)
      have HW := hide hv
      rw [hp] at CP
      clear hv
      go_enter Tryd.func49, Tryd.ntmps49
      go_wp2_with (first | (go_at_call 45; refine CP.out.mono ?_; rintro e w1 ⟨rfl, hb1⟩; have HB := hide hb1; clear hb1))
      go_ret2
      exact ⟨escW_ret HV.out.symm HW.out.symm, HB.out⟩
    · have hv : escOk s = true := by unfold escOk; rw [hp, decide_eq_true hbig]; rfl
      have HV := hide (escV_yes (attr := attr) hv)
      have HW := hide hv
      rw [hp] at CP
      clear hv
      go_enter Tryd.func49, Tryd.ntmps49
      go_wp2_with (first | (go_at_call 45; refine CP.out.mono ?_; rintro e w1 ⟨rfl, hb1⟩; have HB := hide hb1; clear hb1))
      go_loopw [7] (fun iv wr => ∃ k : Nat, k ≤ s.size ∧ iv = .int .i64 k ∧ Lib.IsBuilder 70 5 w1.heap.size w1.heap.size (Lib.byteCells (escL attr (s.data.toList.take k))) wr ∧ Below w.heap.size w wr) (fun iv _ => s.size - (intOf iv).toNat)
      case atStart => exact ⟨0, Nat.zero_le _, rfl, Lib.fresh_isBuilder _ _ w1, HB.out.alloc HB.out.size _⟩
      case round =>
        obtain ⟨k, hk, rfl, hI, hb⟩ := hrel
        have hlen := escL_len attr (s.data.toList.take k)
        have htl : (s.data.toList.take k).length ≤ k := List.length_take_le _ _
        have hbl := bd_lt hI
        have HI := hide hI
        have HB2 := hide hb
        have hww := HB.out.size
        by_cases hlt : k < s.size
        · have hst := esc_step attr s k hlt
          rw [esc_mark] at hst
          have hml := markL_len attr s[k]
          have CE := hide (fun (w : World) => i_escOf attr s[k] (s[k].toNat : Int) rfl w)
          obtain ⟨L, hL⟩ : ∃ L, escL attr (s.data.toList.take k) = L := ⟨_, rfl⟩
          rw [hL] at hst HI hlen
          obtain ⟨M, hM⟩ : ∃ M, markL attr s[k] = M := ⟨_, rfl⟩
          rw [hM] at CE hst hml
          have hbc := Lib.byteCells_length L
          clear hI hb hL hM
          by_cases hM0 : M = []
          · subst hM0
            rw [if_pos rfl] at hst
            have HST := hide hst
            clear hst
            go_wp2_with (first | (go_at_call 69; refine (CE.out _).mono ?_; rintro e w2 ⟨rfl, rfl⟩) | (go_at_call 70; refine (bd_byte w1.heap.size w1.heap.size _ _ _ HI.out (by omega) (by omega)).mono ?_; rintro e w3 ⟨rfl, hI3, hb3⟩; have HI3 := hide hI3; have HB3 := hide (HB2.out.trans (hb3.mono hww)); clear hI3 hb3))
            go_roundw
            case rel =>
              refine ⟨k + 1, by omega, by go_num, ?_, HB3.out⟩
              rw [HST.out, bc_app]
              exact HI3.out
            case measure => simp [intOf]; omega
          · rw [if_neg hM0] at hst
            have HST := hide hst
            obtain ⟨x, hx⟩ : ∃ x : ByteArray, (⟨M.toArray⟩ : ByteArray) = x := ⟨_, rfl⟩
            have hxs : x.size = M.length := by rw [← hx]; simp [ByteArray.size]
            have hM1 : 0 < M.length := List.length_pos_iff.2 hM0
            have hxe := escW_ne x (by omega)
            have HXC : Hid (Lib.strCells x = Lib.byteCells M) := hide (by rw [← hx]; rfl)
            rw [hx] at CE
            have hx6 : x.size ≤ 6 := by omega
            have hx0 : 0 < x.size := by omega
            clear hst hx hxs hM0 hM1
            go_wp2_with (first | (go_at_call 69; refine (CE.out _).mono ?_; rintro e w2 ⟨rfl, rfl⟩) | (go_at_call 46; refine (bd_str w1.heap.size w1.heap.size _ _ _ HI.out (by omega) (by omega)).mono ?_; rintro e w3 ⟨rfl, hI3, hb3⟩; have HI3 := hide hI3; have HB3 := hide (HB2.out.trans (hb3.mono hww)); clear hI3 hb3))
            go_roundw
            case rel =>
              refine ⟨k + 1, by omega, by go_num, ?_, HB3.out⟩
              rw [HST.out, bc_app, ← HXC.out]
              exact HI3.out
            case measure => simp [intOf]; omega
        · have hkn : k = s.size := by omega
          subst hkn
          have hal : s.data.toList.take s.size = s.data.toList := List.take_of_length_le (by rw [Array.length_toList]; exact Nat.le_refl _)
          rw [hal] at HI
          clear hI hb
          go_wp2_with (first | (go_at_call 48; refine (Tryd.Builder_String_any w1.heap.size w1.heap.size (escL attr s.data.toList) _ HI.out (by omega)).mono ?_; rintro e w3 ⟨rfl, hb3⟩; have HB3 := hide (HB2.out.trans (hb3.mono hww)); clear hb3))
          go_ret2
          exact ⟨escW_ret HV.out.symm HW.out.symm, HB3.out⟩
  · have hb2 : (2500 : Int) < (s.size : Int) := by omega
    have hv : escOk s = false := by unfold escOk; rw [decide_eq_false hbig]; rfl
    have HV := hide (escV_no (attr := attr) hv)
    have HW := hide hv
    clear hv CP
    go_enter Tryd.func49, Tryd.ntmps49
    go_wp2
    go_ret2
    exact ⟨escW_ret HV.out.symm HW.out.symm, Below.refl _ _⟩
theorem s_escL (attr : Bool) (s : ByteArray) (w : World) (hs : s.size ≤ 1048576) :
    Calls Tryd.prog 23 #[.string s, .bool attr] w fun e w' => e = .returned (.string ⟨(escL attr s.data.toList).toArray⟩) ∧ w' = w := by
  cases attr
  · exact s_esc_false s w hs
  · exact s_esc_true s w hs
end Go.Proofs.YtdbipaobanjbbaaDoor
