/-
  Contract of Go's strings.Lines: the iterator keeps what is left in its own box, and hands line after line out.
-/
import Derived.Test.YtdbipaobanjbbaaDoorMrH
import Derived.RangeFuncBox
import Derived.RangeFuncLeaves
import Derived.RangeFuncCalls
import Derived.Shelf.Abstract
import Derived.Shelf.RegionOpen
import Derived.OwnWalkIn
import Derived.TacticsInMore
import Derived.LoopNIn
import Derived.LoopIn
import Derived.Lib.IndexLaws
namespace Go.Proofs.YtdbipaobanjbbaaDoor
open Go.RowKit Go.Joins Go.Shelf
set_option linter.unusedVariables false
set_option linter.unusedSimpArgs false
attribute [local go_sem] Oper.semAt_some
/-- The next line, and what is left behind it. -/
def nxL (t : ByteArray) : ByteArray × ByteArray := if 0 ≤ Lib.indexByte t.data.toList 10 then (t.extract 0 ((Lib.indexByte t.data.toList 10).toNat + 1), t.extract ((Lib.indexByte t.data.toList 10).toNat + 1) t.size) else (t, ⟨#[]⟩)
/-- What is left behind k lines. -/
def rsB (s : ByteArray) : Nat → ByteArray
  | 0 => s
  | k + 1 => (nxL (rsB s k)).2
def lnB (s : ByteArray) (k : Nat) : ByteArray := (nxL (rsB s k)).1
theorem ib_lt (t : ByteArray) (h : 0 ≤ Lib.indexByte t.data.toList 10) : (Lib.indexByte t.data.toList 10).toNat < t.size := by
  obtain ⟨o, ho⟩ : ∃ o : Nat, Lib.indexByte t.data.toList 10 = (o : Int) := ⟨(Lib.indexByte t.data.toList 10).toNat, by omega⟩
  have h1 := (Lib.indexByte_some ho).1
  rw [ho]
  have h2 : o < t.data.toList.length := by
    rcases Nat.lt_or_ge o t.data.toList.length with h3 | h3
    · exact h3
    · rw [List.getElem?_eq_none h3] at h1; cases h1
  rw [bl] at h2
  simpa using h2
theorem nx_parts (t : ByteArray) : (nxL t).1.data.toList ++ (nxL t).2.data.toList = t.data.toList := by
  unfold nxL
  split
  · rename_i h
    have h1 := ib_lt t h
    simp only
    rw [Lib.extract_data, Lib.extract_data, Nat.sub_zero, List.drop_zero, List.take_of_length_le (l := t.data.toList.drop _) (by simp)]
    exact List.take_append_drop _ _
  · simp
theorem nx_less (t : ByteArray) (h : 0 < t.size) : (nxL t).2.size < t.size := by
  unfold nxL
  split
  · rename_i h0
    have h1 := ib_lt t h0
    have h9 := ByteArray.size_extract (a := t) (b := (Lib.indexByte t.data.toList 10).toNat + 1) (e := t.size)
    simp only
    omega
  · exact h
theorem rs_size (s : ByteArray) : ∀ k, (rsB s k).size ≤ s.size
  | 0 => Nat.le_refl _
  | k + 1 => by
    have ih := rs_size s k
    have h1 := nx_parts (rsB s k)
    have h2 := congrArg List.length h1
    simp only [List.length_append, bl] at h2
    show (nxL (rsB s k)).2.size ≤ s.size
    omega
/-- Nothing is left behind k lines. -/
def RsE (s : ByteArray) (k : Nat) : Prop := (rsB s k).size = 0
/-- Something is left behind k lines. -/
def RsN (s : ByteArray) (k : Nat) : Prop := 0 < (rsB s k).size
/-- How much is left in the box. -/
def boxN (Bs : Nat) (w : World) : Nat := match w.cell? ⟨Bs, 0, none⟩ with | some (.string t) => t.size | _ => 0
theorem boxN_is {Bs : Nat} {w : World} {t : ByteArray} (h : w.cell? ⟨Bs, 0, none⟩ = some (.string t)) : boxN Bs w = t.size := by unfold boxN; rw [h]
theorem nx_yes {t : ByteArray} (h : 0 ≤ Lib.indexByte t.data.toList 10) : nxL t = (t.extract 0 ((Lib.indexByte t.data.toList 10).toNat + 1), t.extract ((Lib.indexByte t.data.toList 10).toNat + 1) t.size) := by unfold nxL; rw [if_pos h]
theorem nx_no {t : ByteArray} (h : ¬ 0 ≤ Lib.indexByte t.data.toList 10) : nxL t = (t, ⟨#[]⟩) := by unfold nxL; rw [if_neg h]
set_option maxRecDepth 100000 in
set_option maxHeartbeats 4000000 in
theorem lines1_in (n : Nat) (hn : 1 ≤ n) (l Bs : Nat) (s : ByteArray) (hs : s.size ≤ 1048576) (Y Z : Nat → World → Prop) (hset : ∀ k W v, Y k W → Y k (W.setCell ⟨Bs, 0, none⟩ (.string v))) (hdr : ∀ k W, Y k W → Y k W.drew)
    (hY : ∀ k W, Y k W → 0 < (rsB s k).size → YieldAt Fence.wide (n - 1) Tryd.prog l #[.string (lnB s k)] W fun e W' =>
      (e = .returned (.bool true) ∧ Y (k + 1) W' ∧ ∀ v, CellsAt W Bs #[v] → CellsAt W' Bs #[v]) ∨ (e = .returned (.bool false) ∧ Z k W'))
    (W : World) (hB : CellsAt W Bs #[.string s]) (h0 : Y 0 W) :
    CallsIn Fence.wide n Tryd.prog 27 #[.func (.yield l) #[] #[], .pointer (some ⟨Bs, 0, none⟩)] W fun e W' => (∃ v, e = .returned v) ∧ ((∃ k, Y k W' ∧ RsE s k) ∨ ∃ k, RsN s k ∧ Z k W') := by
  refine callsIn_of_wp Tryd.func27 rfl trivial ?_ rfl
  simp only [Tryd.ntmps27, List.size_toArray, List.length_cons, List.length_nil, Nat.reduceAdd, Nat.reduceSub, Array.replicate_succ, Array.replicate_zero, List.push_toArray, List.append_toArray, List.nil_append, List.cons_append]
  gi_wp2
  gi_loopw [3] (fun _ wr => ∃ k : Nat, Y k wr ∧ CellsAt wr Bs #[.string (rsB s k)]) (fun _ wr => boxN Bs wr)
  case atStart => exact ⟨0, h0, hB⟩
  case round =>
    obtain ⟨k, hy, hca⟩ := hrel
    have hc : wr.cell? ⟨Bs, 0, none⟩ = some (.string (rsB s k)) := cellsAt_cell hca 0
    have hfz := cellsAt_frozen hca 0
    have HCA := hide hca
    clear hca
    have HN := hide (boxN_is hc)
    have hsz := rs_size s k
    have HNX := hide (show rsB s (k + 1) = (nxL (rsB s k)).2 from rfl)
    have HLN := hide (show lnB s k = (nxL (rsB s k)).1 from rfl)
    have HLS := hide (nx_less (rsB s k))
    have HYY := hide (fun (W9 : World) (h9 : Y k W9) (h8 : 0 < (rsB s k).size) => hY k W9 h9 h8)
    obtain ⟨t, ht⟩ : ∃ t, rsB s k = t := ⟨_, rfl⟩
    have HT := hide ht
    rw [ht] at hc HN hsz HNX HLN HLS HYY HCA
    clear ht hB h0
    by_cases ht0 : 0 < t.size
    · have ht0i : (0 : Int) < t.size := by omega
      have HT0 := hide ht0
      by_cases hi : 0 ≤ Lib.indexByte t.data.toList 10
      · have hlt := ib_lt t hi
        have HNY := hide (nx_yes hi)
        obtain ⟨p, hp⟩ : ∃ p : Nat, Lib.indexByte t.data.toList 10 = (p : Int) := ⟨(Lib.indexByte t.data.toList 10).toNat, by omega⟩
        have CX := hide (fun W9 => Tryd.strings_IndexByte t 10 W9)
        have h10 : (10 : Int).toNat.toUInt8 = 10 := by decide
        rw [h10, hp] at CX
        rw [hp] at HNY hlt
        simp only [Int.toNat_natCast] at HNY hlt
        have hp1 : (p : Int) + 1 ≤ t.size := by omega
        have hp2 : ((p : Int) + 1).toNat = p + 1 := by omega
        have hp0 : (0 : Int) ≤ p := by omega
        obtain ⟨A, hA⟩ : ∃ A, t.extract 0 (p + 1) = A := ⟨_, rfl⟩
        obtain ⟨R, hR⟩ : ∃ R, t.extract (p + 1) t.size = R := ⟨_, rfl⟩
        rw [hA, hR] at HNY
        have hcd : wr.drew.cell? ⟨Bs, 0, none⟩ = some (.string t) := hc
        have hfd : wr.drew.frozen? ⟨Bs, 0, none⟩ = false := hfz
        have hy2 := HYY.out (wr.setCell ⟨Bs, 0, none⟩ (.string R)).drew (hdr k _ (hset k wr R hy)) ht0
        rw [HLN.out, HNY.out] at hy2
        dsimp only at hy2
        clear hi hp
        gi_wp2_with (refine ⟨trivial, ?_⟩; gi_at_call 28; refine ((callsIn_wide).2 (CX.out _)).mono ?_; rintro e w9 ⟨rfl, h9⟩; rw [h9]; clear h9 w9)
        gi_region
        all_goals
          obtain ⟨fn, tmps, assign, body, hyy, hRR⟩ := hy2
          gi_wp2
          refine hRR.mono ?_
          rintro e W3 (⟨rfl, hY3, hc3⟩ | ⟨rfl, hZ3⟩)
          · have hc4 : CellsAt W3 Bs #[.string (rsB s (k + 1))] := by
              rw [HNX.out, HNY.out]
              exact hc3 _ (cellsAt_set HCA.out (i := 0) _)
            have HC4 := hide hc4
            have HLS2 := hide (HLS.out HT0.out)
            clear hc3 hc4
            gi_wp2
            go_roundw
            case rel => exact ⟨k + 1, hY3, HC4.out⟩
            case measure => rw [HN.out, boxN_is (cellsAt_cell HC4.out 0), HNX.out]; exact HLS2.out
          · gi_wp2
            refine bodyPost_ret (results_none rfl _ _ _) rfl ?_
            exact ⟨⟨_, rfl⟩, .inr ⟨k, by unfold RsN; rw [HT.out]; exact HT0.out, hZ3⟩⟩
      · have HNY := hide (nx_no hi)
        have CX := hide (fun W9 => Tryd.strings_IndexByte t 10 W9)
        have h10 : (10 : Int).toNat.toUInt8 = 10 := by decide
        rw [h10] at CX
        obtain ⟨q, hq⟩ : ∃ q, Lib.indexByte t.data.toList 10 = q := ⟨_, rfl⟩
        rw [hq] at CX hi
        have hqn : ¬ (0 : Int) ≤ q := hi
        have hy2 := HYY.out (wr.setCell ⟨Bs, 0, none⟩ (.string ⟨#[]⟩)) (hset k wr ⟨#[]⟩ hy) ht0
        rw [HLN.out, HNY.out] at hy2
        dsimp only at hy2
        clear hi hq
        obtain ⟨fn, tmps, assign, body, hyy, hRR⟩ := hy2
        gi_wp2_with (refine ⟨trivial, ?_⟩; gi_at_call 28; refine ((callsIn_wide).2 (CX.out _)).mono ?_; rintro e w9 ⟨rfl, h9⟩; rw [h9]; clear h9 w9)
        all_goals
          refine hRR.mono ?_
          rintro e W3 (⟨rfl, hY3, hc3⟩ | ⟨rfl, hZ3⟩)
          · have hc4 : CellsAt W3 Bs #[.string (rsB s (k + 1))] := by
              rw [HNX.out, HNY.out]
              exact hc3 _ (cellsAt_set HCA.out (i := 0) _)
            have HC4 := hide hc4
            have HLS2 := hide (HLS.out HT0.out)
            clear hc3 hc4
            gi_wp2
            go_roundw
            case rel => exact ⟨k + 1, hY3, HC4.out⟩
            case measure => rw [HN.out, boxN_is (cellsAt_cell HC4.out 0), HNX.out]; exact HLS2.out
          · gi_wp2
            refine bodyPost_ret (results_none rfl _ _ _) rfl ?_
            exact ⟨⟨_, rfl⟩, .inr ⟨k, by unfold RsN; rw [HT.out]; exact HT0.out, hZ3⟩⟩
    · have ht0i : ¬ (0 : Int) < t.size := by omega
      have HT0 : Hid (t.size = 0) := hide (by omega)
      have HY2 := hide hy
      clear hy ht0
      gi_wp2
      go_end0
      exact ⟨⟨_, rfl⟩, .inl ⟨k, HY2.out, by unfold RsE; rw [HT.out]; exact HT0.out⟩⟩
end Go.Proofs.YtdbipaobanjbbaaDoor
