/-
  The walk of FnEscaped.
-/
import Derived.Test.YtficncjpdboenaaDoorEsDraw
import Derived.Test.YtficncjpdboenaaDoorEsMath
import Derived.Test.YtficncjpdboenaaDoorUnW
namespace Go.Proofs.YtficncjpdboenaaDoor
open Go.RowKit
set_option linter.unusedVariables false
set_option linter.unusedSimpArgs false
theorem src_below {w w' : World} {a : Option Addr} {zs : List Int} (h : SrcAt w a zs w.heap.size) (hb : Below w.heap.size w w') : SrcAt w' a zs w'.heap.size := by
  intro hne
  obtain ⟨b, off, rfl, hlt, hc⟩ := h hne
  exact ⟨b, off, rfl, Nat.lt_of_lt_of_le hlt hb.size, fun j hj => (hb.cell (p := ⟨b, off + j, none⟩) hlt).trans (hc j hj)⟩

theorem es_at {E : ByteArray} {attr : Bool} {s : ByteArray} (h : E.data.toList = escL attr s.data.toList) (k : Nat) (hk : k < E.size) : E[k] ≠ 60 ∧ E[k] ≠ 62 ∧ (attr = true → E[k] ≠ 34) :=
  esc_free attr s.data.toList _ (by rw [← h]; exact at_mem hk)
theorem es_back {E s : ByteArray} {attr : Bool} (hk : escOk s = true) (h : E.data.toList = escL attr s.data.toList) : unV E = s ∧ unOk E = true := by
  unfold escOk at hk
  rw [Bool.and_eq_true] at hk
  have hz := of_decide_eq_true hk.1
  have hl := escL_len attr s.data.toList
  have e : s.data.toList.length = s.size := Array.length_toList
  have hp := plain_esc attr hk.2 (by omega)
  have hE : E = ⟨(escL attr s.data.toList).toArray⟩ := ba_of h
  rw [← hE] at hp
  have hu := un_done (s := E) (l := s.data.toList) hp (by rw [h, un_esc])
  exact ⟨hu.1.trans (ba_of rfl).symm, hu.2⟩
set_option maxHeartbeats 8000000 in
set_option maxRecDepth 100000 in
theorem es_walk (a : Option Addr) (n cap : Nat) (zs : List Int) (w : World) (m : Int) (hl : zs.length = n) (hz : ∀ x ∈ zs, 0 ≤ x ∧ x ≤ 255) (hn : n ≤ 1048576) (hs : SrcAt w a zs w.heap.size) (hT : Tabs w) (hm : w.cell? ⟨2, 0, none⟩ = some (.int .i64 m)) :
    Calls Tryd.prog 3 #[.slice a n cap] w fun e w' => e = .returned (.bool true) ∧ Below w.heap.size w w' := by
  have hn' : ¬ (1048576 : Int) < (n : Int) := by omega
  have H2 := World.block_lt_of_cell? w _ hm
  have HS := hide hs
  have HL := hide hl
  have HZ := hide hz
  have HT := hide hT
  have HM := hide hm
  clear hs hl hz hT hm
  have DU := hide (fun (w9 : World) (hb : Hid (Below w.heap.size w w9)) => d_unescape a n cap zs w9 HL.out HZ.out hn (src_below HS.out hb.out))
  have IU := hide (fun (x : ByteArray) (hx : x.size ≤ 1048576) (w9 : World) (hb : Hid (Below w.heap.size w w9)) => i_unescape x w9 m hx (un_tabs HT.out hb.out) ((hb.out.cell (p := ⟨2, 0, none⟩) H2).trans HM.out))
  go_enter Tryd.func3, Tryd.ntmps3
  go_wp2_with (go_at_call 4; go_in)
  refine (d_escape a n cap zs _ HL.out HZ.out hn HS.out).mono ?_
  rintro e w1 ⟨s, attr, hss, rfl, hb1⟩
  have B1 := hide hb1
  clear hb1
  have hs20 : s.size ≤ 1048576 := by omega
  have CI := hide (i_escape attr s w1 hs20 (un_tabs HT.out B1.out))
  have CS := hide (fun (w : World) => s_escape attr s w hs20)
  have hEs := escV_size attr s
  have hEl : escOk s = true → (escV attr s).data.toList = escL attr s.data.toList := fun h => by rw [escV_yes h]
  obtain ⟨E, hE⟩ : ∃ E, escV attr s = E := ⟨_, rfl⟩
  obtain ⟨K, hK⟩ : ∃ K, escOk s = K := ⟨_, rfl⟩
  rw [hE, hK] at CI CS
  rw [hE] at hEs hEl
  have hE2 : E.size ≤ 60 := by omega
  have HEl := hide hEl
  have HK := hide hK
  clear hE hK hEs hEl
  go_wp2_with fail
  refine CI.out.mono ?_
  rintro e w2 ⟨rfl, hb2⟩
  have B2 := hide (B1.out.trans (hb2.mono B1.out.size))
  clear hb2
  go_wp2_with fail
  refine (CS.out _).mono ?_
  rintro e w3 ⟨rfl, hb3⟩
  have B3 := hide (B2.out.trans (hb3.mono B2.out.size))
  clear hb3
  cases K
  · go_wp2
    go_ret
    exact ⟨rfl, B3.out⟩
  · have HE := hide (HEl.out HK.out)
    have HBk := hide (es_back HK.out HE.out)
    go_wp2
    go_loop [9] (fun iv => ∃ k : Nat, k ≤ E.size ∧ iv = .int .i64 k) (fun iv => E.size - (intOf iv).toNat)
    case atStart => exact ⟨0, Nat.zero_le _, rfl⟩
    case round =>
      obtain ⟨k, hk, rfl⟩ := hrel
      by_cases hlt : k < E.size
      · obtain ⟨n60, n62, n34⟩ := es_at HE.out k hlt
        have f60 : ((E[k].toNat : Int) == 60) = false := by rw [beq_eq_false_iff_ne]; exact fun e => n60 (u8i.1 e)
        have f62 : ((E[k].toNat : Int) == 62) = false := by rw [beq_eq_false_iff_ne]; exact fun e => n62 (u8i.1 e)
        cases attr
        · clear n60 n62 n34
          go_wp2
          go_round
          case rel => exact ⟨k + 1, by omega, by go_num⟩
          case measure => simp [intOf]; omega
        · have f34 : ((E[k].toNat : Int) == 34) = false := by rw [beq_eq_false_iff_ne]; exact fun e => n34 rfl (u8i.1 e)
          clear n60 n62 n34
          go_wp2
          go_round
          case rel => exact ⟨k + 1, by omega, by go_num⟩
          case measure => simp [intOf]; omega
      · go_wp2_with fail
        refine (IU.out E (by omega) _ B3).mono ?_
        rw [HBk.out.1, HBk.out.2]
        rintro e w4 ⟨rfl, hb4⟩
        have B4 := hide (B3.out.trans (hb4.mono B3.out.size))
        clear hb4
        go_wp2_with fail
        refine (DU.out _ B4).mono ?_
        rintro e w5 ⟨x, hx, rfl, hb5⟩
        have B5 := hide (B4.out.trans (hb5.mono B4.out.size))
        clear hb5
        have hx1 : x.size ≤ 1048576 := by omega
        have C6 := hide (IU.out x hx1 w5 B5)
        have C7 := hide (fun (w : World) => s_unescape x w hx1)
        obtain ⟨V, hV⟩ : ∃ V, unV x = V := ⟨_, rfl⟩
        obtain ⟨K, hK⟩ : ∃ K, unOk x = K := ⟨_, rfl⟩
        rw [hV, hK] at C6 C7
        clear hV hK
        go_wp2_with fail
        refine C6.out.mono ?_
        rintro e w6 ⟨rfl, hb6⟩
        have B6 := hide (B5.out.trans (hb6.mono B5.out.size))
        clear hb6
        go_wp2_with fail
        refine (C7.out _).mono ?_
        rintro e w7 ⟨rfl, hb7⟩
        have B7 := hide (B6.out.trans (hb7.mono B6.out.size))
        clear hb7
        go_wp2
        go_ret
        exact ⟨by simp, B7.out⟩
end Go.Proofs.YtficncjpdboenaaDoor
