/-
  The contract of the draw for Lines: some text of at most 14 bytes; nothing that was there is written. And plain facts on line ends.
-/
import Derived.Test.YteoncponebmnbacDoorDraw
import Derived.Test.YteoncponebmnbacDoorLines
namespace Go.Proofs.YteoncponebmnbacDoor
open Go.RowKit
set_option linter.unusedVariables false
set_option linter.unusedSimpArgs false
theorem below_drew {G : Nat} {a : Option Addr} {n cap : Nat} {zs : List Int} {w w1 w2 : World} (h : Below G w w1) (hd : Drew G a n cap zs w1 w2) (hG : G ≤ w1.heap.size) : Below G w w2 :=
  h.grown hd.2 hG (fun k hk => by cases hk; exact Nat.le_refl _)
theorem line_cell (w w1 : World) (G : Nat) (x : Int) (h0 : 0 ≤ x) (h5 : x < 5) (hG : G < w.heap.size)
    (hg : (w.alloc (.cells #[.string ⟨#[13]⟩, .string ⟨#[10]⟩, .string ⟨#[13, 10]⟩, .string ⟨#[97]⟩, .string ⟨#[13, 13]⟩] 9)).grownBy w1 (some G)) :
    ∃ s : ByteArray, w1.cell? ⟨w.heap.size, x.toNat, none⟩ = some (.string s) ∧ s.size ≤ 2 := by
  have hb := hg.block w.heap.size (by simp) (fun e => by cases e; omega)
  rw [World.cell?_of_block (a := ⟨w.heap.size, x.toNat, none⟩) hb, cell_of_row _ w.heap.size x.toNat _ 9 (0, 0) (heap_alloc_new w _)]
  have hx : x.toNat = 0 ∨ x.toNat = 1 ∨ x.toNat = 2 ∨ x.toNat = 3 ∨ x.toNat = 4 := by omega
  rcases hx with e | e | e | e | e <;> rw [e] <;> exact ⟨_, rfl, by decide⟩

set_option maxHeartbeats 1000000 in
theorem d_lines (a : Option Addr) (n cap : Nat) (zs : List Int) (w : World) (hl : zs.length = n) (hz : ∀ x ∈ zs, 0 ≤ x ∧ x ≤ 255) (hn : n ≤ 1048576) (hs : SrcAt w a zs w.heap.size) :
    Calls Tryd.prog 5 #[.slice a n cap] w fun e w' => ∃ s : ByteArray, s.size ≤ 14 ∧ e = .returned (.string s) ∧ Below w.heap.size w w' := by
  obtain ⟨G, hG⟩ : ∃ G, w.heap.size = G := ⟨_, rfl⟩
  have HS := hide hs
  have HL := hide hl
  have HZ := hide hz
  have HG := hide hG
  clear hs hl hz hG
  go_enter Tryd.func5, Tryd.ntmps5
  go_wp2_with fail
  refine (d_open a n cap zs _ HL.out HZ.out hn HS.out).mono ?_
  rintro e w1 ⟨rfl, hr1, hb1⟩
  rw [HG.out] at hr1 hb1 ⊢
  have R1 := hide hr1
  have B1 := hide hb1
  clear hr1 hb1
  go_wp2_with fail
  refine (d_below G a n cap zs 8 _ (by omega) (by omega) R1.out).mono ?_
  rintro e w2 ⟨y, hy0, hy1, rfl, hd⟩
  have B2 := hide (below_drew B1.out hd (Nat.le_of_lt (rd_lt R1.out)))
  have R2 := hide hd.1
  clear hd
  obtain ⟨k0, rfl⟩ : ∃ k0 : Nat, y = k0 := ⟨y.toNat, by omega⟩
  go_wp2
  go_loopw [4, 5] (fun v i wr => ∃ (k : Nat) (t : ByteArray), i = .int .i64 k ∧ t.size + 2 * k ≤ 14 ∧ v = .string t ∧ RdAt wr G a n cap zs ∧ Below G w wr) (fun _ i _ => (intOf i).toNat)
  case atStart => exact ⟨k0, ⟨#[]⟩, rfl, by show 0 + 2 * k0 ≤ 14; omega, rfl, R2.out, B2.out⟩
  case round =>
    obtain ⟨k, t, rfl, hk, rfl, hr, hb⟩ := hrel
    have HR := hide hr
    have HB := hide hb
    have hGr := rd_lt hr
    clear hr hb
    by_cases hpos : 0 < k
    · have hp' : (0 : Int) < (k : Int) := by omega
      go_wp2_with fail
      refine (d_below G a n cap zs 5 _ (by omega) (by omega) (rd_alloc HR.out _)).mono ?_
      rintro e w3 ⟨x, hx0, hx1, rfl, hd⟩
      obtain ⟨s, hs, hs2⟩ := line_cell wr w3 G x hx0 hx1 hGr hd.2
      have HD := hide (drew_alloc _ hd)
      have B3 := hide (below_drew HB.out HD.out (Nat.le_of_lt hGr))
      clear hd
      have hz : (t ++ s : ByteArray).size ≤ t.size + 2 := by rw [ByteArray.size_append]; omega
      go_wp2
      go_roundw
      case rel => exact ⟨k - 1, t ++ s, congrArg (Value.int .i64) (by omega), by omega, rfl, HD.out.1, B3.out⟩
      case measure => simp [intOf]; omega
    · go_wp2
      go_ret
      exact ⟨t, by omega, rfl, by rw [HG.out]; exact HB.out⟩

theorem linesB_no : ∀ (l : List UInt8), ∀ b ∈ linesB l, b ≠ 13
  | [], b, h => by simp [linesB] at h
  | c :: r, b, h => by
    unfold linesB at h
    by_cases hc : c = 13
    · rw [if_pos hc] at h
      split at h
      · exact linesB_no r b h
      · rcases List.mem_cons.1 h with e | e
        · rw [e]; decide
        · exact linesB_no r b e
    · rw [if_neg hc] at h
      rcases List.mem_cons.1 h with e | e
      · rw [e]; exact hc
      · exact linesB_no r b e
theorem linesB_same : ∀ (l : List UInt8), (∀ b ∈ l, b ≠ 13) → linesB l = l
  | [], _ => rfl
  | c :: r, h => by
    unfold linesB
    rw [if_neg (h c (List.mem_cons_self ..)), linesB_same r (fun b hb => h b (List.mem_cons_of_mem _ hb))]
/-- What Lines makes of a text. -/
def lnT (s : ByteArray) : ByteArray := ⟨(linesB s.data.toList).toArray⟩
theorem lnT_data (s : ByteArray) : (lnT s).data.toList = linesB s.data.toList := rfl
theorem lnT_again (s : ByteArray) : lnT (lnT s) = lnT s := by
  unfold lnT
  rw [show (⟨(linesB s.data.toList).toArray⟩ : ByteArray).data.toList = linesB s.data.toList from rfl, linesB_same _ (linesB_no _)]
theorem lnT_size (s : ByteArray) : (lnT s).size ≤ s.size := by
  have := linesB_len s.data.toList
  rw [Array.length_toList] at this
  have e : (lnT s).size = (linesB s.data.toList).length := List.size_toArray
  rw [e]; exact this
theorem lnT_at (s : ByteArray) (k : Nat) (h : k < (lnT s).size) : ((lnT s)[k].toNat : Int) ≠ 13 := by
  intro e
  have hb := u8_13.1 e
  have hm : (lnT s).data.toList[k]? = some (lnT s)[k] := byte_at' _ k h
  rw [hb, lnT_data] at hm
  exact linesB_no _ 13 (List.mem_of_getElem? hm) rfl
theorem lnT_none {s : ByteArray} (h : ∀ k (hk : k < s.size), (s[k].toNat : Int) ≠ 13) : lnT s = s := by
  have : linesB s.data.toList = s.data.toList := by
    apply linesB_same
    intro b hb e
    obtain ⟨k, hk, hbk⟩ := List.mem_iff_getElem.1 hb
    have hk' : k < s.size := by rw [Array.length_toList] at hk; exact hk
    exact h k hk' (u8_13.2 (by rw [← e, ← hbk]; rfl))
  unfold lnT
  rw [this]
theorem i_lnT (s T : ByteArray) (m : Int) (w : World) (hT : lnT s = T) (hs : s.size ≤ 1048576) (h0 : 0 < w.heap.size) (hm : w.cell? ⟨0, 0, none⟩ = some (.int .i64 m)) :
    Calls Tryd.prog 6 #[.string s] w fun e w' => e = .returned (.string T) ∧ Below w.heap.size w w' := by subst hT; exact i_lines s m w hs h0 hm
theorem s_lnT (s T : ByteArray) (w : World) (hT : lnT s = T) (hs : s.size ≤ 1048576) :
    Calls Tryd.prog 7 #[.string s] w fun e w' => e = .returned (.string T) ∧ Below w.heap.size w w' := by subst hT; exact s_lines s w hs
end Go.Proofs.YteoncponebmnbacDoor
