/-
  Contracts of the draws for escaping: whatever the code is, some text of at most 9 bytes and a flag; some text of at most 100 bytes.
-/
import Derived.Test.YtficncjpdboenaaDoorDraw
import Derived.Test.YtficncjpdboenaaDoorEscW
namespace Go.Proofs.YtficncjpdboenaaDoor
open Go.RowKit
set_option linter.unusedVariables false
set_option linter.unusedSimpArgs false
theorem below_drew {G : Nat} {a : Option Addr} {n cap : Nat} {zs : List Int} {w w1 w2 : World} (h : Below G w w1) (hd : Drew G a n cap zs w1 w2) (hG : G ≤ w1.heap.size) : Below G w w2 :=
  h.grown hd.2 hG (fun k hk => by cases hk; exact Nat.le_refl _)
theorem str_cell {w w1 : World} {G : Nat} (K : Nat) {cs : Array Value} {T : TypeId} {x : Int} {N : Nat} (hg : (w.alloc (.cells cs T)).grownBy w1 (some G)) (h0 : 0 ≤ x) (hx : x < N) (hN : cs.size = N) (hG : G < w.heap.size) (hK : ∀ k, k < N → ∃ s : ByteArray, cs[k]? = some (.string s) ∧ s.size ≤ K) : ∃ s : ByteArray, w1.cell? ⟨w.heap.size, x.toNat, none⟩ = some (.string s) ∧ s.size ≤ K := by
  have hb := hg.block w.heap.size (by simp) (fun e => by cases e; omega)
  rw [World.cell?_of_block (a := ⟨w.heap.size, x.toNat, none⟩) hb, cell_of_row _ w.heap.size x.toNat _ T (0, 0) (heap_alloc_new w _)]
  exact hK x.toNat (by omega)
set_option maxHeartbeats 1000000 in
theorem d_text (G : Nat) (a : Option Addr) (n cap : Nat) (zs : List Int) (w : World) (h : RdAt w G a n cap zs) :
    Calls Tryd.prog 12 #[.pointer (some ⟨G, 0, none⟩)] w fun e w' => ∃ s : ByteArray, s.size ≤ 4 ∧ e = .returned (.string s) ∧ Drew G a n cap zs w w' := by
  have HH := hide h
  have hG := rd_lt h
  clear h
  go_enter Tryd.func12, Tryd.ntmps12
  go_wp2_with fail
  refine (d_below G a n cap zs 14 _ (by omega) (by omega) (rd_alloc HH.out _)).mono ?_
  rintro e w1 ⟨x, hx0, hx1, rfl, hd⟩
  obtain ⟨s, hs, hs1⟩ := str_cell 4 hd.2 hx0 hx1 rfl hG (fun k hk => by
    have hk' : k < 14 := hk
    have hx : k = 0 ∨ k = 1 ∨ k = 2 ∨ k = 3 ∨ k = 4 ∨ k = 5 ∨ k = 6 ∨ k = 7 ∨ k = 8 ∨ k = 9 ∨ k = 10 ∨ k = 11 ∨ k = 12 ∨ k = 13 := by omega
    rcases hx with e | e | e | e | e | e | e | e | e | e | e | e | e | e <;> subst e <;> exact ⟨_, rfl, by decide⟩)
  have HD := hide (drew_alloc _ hd)
  clear hd
  go_wp2
  go_ret
  exact ⟨s, hs1, rfl, HD.out⟩

theorem escV_size (attr : Bool) (s : ByteArray) : (escV attr s).size ≤ 6 * s.size := by
  unfold escV
  split
  · have := escL_len attr s.data.toList
    have e : s.data.toList.length = s.size := Array.length_toList
    show (escL attr s.data.toList).toArray.size ≤ _
    simp only [List.size_toArray]
    omega
  · show 0 ≤ _; omega
set_option maxHeartbeats 2000000 in
theorem d_escape (a : Option Addr) (n cap : Nat) (zs : List Int) (w : World) (hl : zs.length = n) (hz : ∀ x ∈ zs, 0 ≤ x ∧ x ≤ 255) (hn : n ≤ 1048576) (hs : SrcAt w a zs w.heap.size) :
    Calls Tryd.prog 5 #[.slice a n cap] w fun e w' => ∃ (s : ByteArray) (attr : Bool), s.size ≤ 9 ∧ e = .returned (.tuple #[.string s, .bool attr]) ∧ Below w.heap.size w w' := by
  obtain ⟨G, hG⟩ : ∃ G, w.heap.size = G := ⟨_, rfl⟩
  have HS := hide hs
  have HL := hide hl
  have HZ := hide hz
  have HG := hide hG
  clear hs hl hz hG
  go_enter Tryd.func5, Tryd.ntmps5
  go_wp2_with fail
  refine (d_open a n cap zs _ HL.out HZ.out hn HS.out).mono ?_
  rintro e w1 ⟨rfl, hr1, hb1⟩
  rw [HG.out] at hr1 hb1 ⊢
  have R1 := hide hr1
  have B1 := hide hb1
  clear hr1 hb1
  go_wp2_with fail
  refine (d_text G a n cap zs _ R1.out).mono ?_
  rintro e w2 ⟨s1, hs1, rfl, hd⟩
  have B2 := hide (below_drew B1.out hd (Nat.le_of_lt (rd_lt R1.out)))
  have R2 := hide hd.1
  clear hd
  go_wp2_with fail
  refine (d_text G a n cap zs _ R2.out).mono ?_
  rintro e w3 ⟨s2, hs2, rfl, hd⟩
  have B3 := hide (below_drew B2.out hd (Nat.le_of_lt (rd_lt R2.out)))
  have R3 := hide hd.1
  clear hd
  go_wp2_with fail
  refine (d_once G a n cap zs 12 _ (by omega) (by omega) R3.out).mono ?_
  rintro e w4 ⟨b, rfl, hd⟩
  have B4 := hide (below_drew B3.out hd (Nat.le_of_lt (rd_lt R3.out)))
  have R4 := hide hd.1
  have hG4 := rd_lt hd.1
  clear hd
  cases b
  · go_wp2_with fail
    refine (d_once G a n cap zs 2 _ (by omega) (by omega) R4.out).mono ?_
    rintro e w5 ⟨b5, rfl, hd⟩
    have B5 := hide (below_drew B4.out hd (Nat.le_of_lt hG4))
    clear hd
    go_wp2
    go_ret2
    exact ⟨s1 ++ s2, b5, by rw [ByteArray.size_append]; omega, rfl, by rw [HG.out]; exact B5.out⟩
  · have hz1 : (⟨#[1]⟩ : ByteArray).size = 1 := rfl
    go_wp2_with fail
    refine (d_once G a n cap zs 2 _ (by omega) (by omega) R4.out).mono ?_
    rintro e w5 ⟨b5, rfl, hd⟩
    have B5 := hide (below_drew B4.out hd (Nat.le_of_lt hG4))
    clear hd
    go_wp2
    go_ret2
    exact ⟨s1 ++ s2 ++ ⟨#[1]⟩, b5, by rw [ByteArray.size_append, ByteArray.size_append]; omega, rfl, by rw [HG.out]; exact B5.out⟩
set_option maxHeartbeats 2000000 in
theorem d_unescape (a : Option Addr) (n cap : Nat) (zs : List Int) (w : World) (hl : zs.length = n) (hz : ∀ x ∈ zs, 0 ≤ x ∧ x ≤ 255) (hn : n ≤ 1048576) (hs : SrcAt w a zs w.heap.size) :
    Calls Tryd.prog 9 #[.slice a n cap] w fun e w' => ∃ s : ByteArray, s.size ≤ 100 ∧ e = .returned (.string s) ∧ Below w.heap.size w w' := by
  obtain ⟨G, hG⟩ : ∃ G, w.heap.size = G := ⟨_, rfl⟩
  have HS := hide hs
  have HL := hide hl
  have HZ := hide hz
  have HG := hide hG
  clear hs hl hz hG
  go_enter Tryd.func9, Tryd.ntmps9
  go_wp2_with fail
  refine (d_open a n cap zs _ HL.out HZ.out hn HS.out).mono ?_
  rintro e w1 ⟨rfl, hr1, hb1⟩
  rw [HG.out] at hr1 hb1 ⊢
  have R1 := hide hr1
  have B1 := hide hb1
  clear hr1 hb1
  go_wp2_with fail
  refine (d_text G a n cap zs _ R1.out).mono ?_
  rintro e w2 ⟨s1, hs1, rfl, hd⟩
  have B2 := hide (below_drew B1.out hd (Nat.le_of_lt (rd_lt R1.out)))
  have R2 := hide hd.1
  clear hd
  go_wp2_with fail
  refine (d_text G a n cap zs _ R2.out).mono ?_
  rintro e w3 ⟨s2, hs2, rfl, hd⟩
  have B3 := hide (below_drew B2.out hd (Nat.le_of_lt (rd_lt R2.out)))
  have R3 := hide hd.1
  clear hd
  go_wp2_with fail
  refine (d_once G a n cap zs 2 _ (by omega) (by omega) R3.out).mono ?_
  rintro e w4 ⟨b, rfl, hd⟩
  have B4 := hide (below_drew B3.out hd (Nat.le_of_lt (rd_lt R3.out)))
  have R4 := hide hd.1
  have hG4 := rd_lt hd.1
  clear hd
  have h12 : (s1 ++ s2).size ≤ 8 := by rw [ByteArray.size_append]; omega
  have CE := hide (fun (w : World) => s_escape b (s1 ++ s2) w (by omega))
  have hev := escV_size b (s1 ++ s2)
  obtain ⟨V, hV⟩ : ∃ V, escV b (s1 ++ s2) = V := ⟨_, rfl⟩
  obtain ⟨K, hK⟩ : ∃ K, escOk (s1 ++ s2) = K := ⟨_, rfl⟩
  rw [hV, hK] at CE
  rw [hV] at hev
  have hV1 : V.size ≤ 48 := by omega
  clear hV hK hev h12
  go_wp2_with fail
  refine (CE.out _).mono ?_
  rintro e w5 ⟨rfl, hb5⟩
  have B5 := hide (B4.out.trans (hb5.mono (Nat.le_of_lt hG4)))
  have R5 := hide (rd_grown R4.out (row := none) ⟨hb5.os, hb5.tape, hb5.output, hb5.size, fun k hk _ => hb5.block k hk⟩ (fun k hk => by cases hk))
  clear hb5
  go_wp2_with fail
  refine (d_once G a n cap zs 3 _ (by omega) (by omega) R5.out).mono ?_
  rintro e w6 ⟨c, rfl, hd⟩
  have B6 := hide (below_drew B5.out hd (Nat.le_of_lt (rd_lt R5.out)))
  have R6 := hide hd.1
  have hG6 := rd_lt hd.1
  clear hd
  cases c
  · go_wp2
    go_ret
    exact ⟨V, by omega, rfl, by rw [HG.out]; exact B6.out⟩
  · go_wp2_with fail
    refine (d_below G a n cap zs 9 _ (by omega) (by omega) (rd_alloc R6.out _)).mono ?_
    rintro e w7 ⟨x, hx0, hx1, rfl, hd⟩
    obtain ⟨s3, hs3, hs3l⟩ := str_cell 10 hd.2 hx0 hx1 rfl hG6 (fun k hk => by
      have hk' : k < 9 := hk
      have hx : k = 0 ∨ k = 1 ∨ k = 2 ∨ k = 3 ∨ k = 4 ∨ k = 5 ∨ k = 6 ∨ k = 7 ∨ k = 8 := by omega
      rcases hx with e | e | e | e | e | e | e | e | e <;> subst e <;> exact ⟨_, rfl, by decide⟩)
    have B7 := hide (below_drew B6.out (drew_alloc _ hd) (Nat.le_of_lt hG6))
    clear hd
    go_wp2
    go_ret
    exact ⟨V ++ s3, by rw [ByteArray.size_append]; omega, rfl, by rw [HG.out]; exact B7.out⟩
end Go.Proofs.YtficncjpdboenaaDoor
