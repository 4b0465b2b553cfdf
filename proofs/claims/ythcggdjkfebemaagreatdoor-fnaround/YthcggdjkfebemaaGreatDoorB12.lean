/-
  Texts put together: UnW, Gen.
-/
import Derived.Test.YthcggdjkfebemaaGreatDoorB8
import Derived.Test.YthcggdjkfebemaaGreatDoorB10
import Derived.Test.YthcggdjkfebemaaGreatDoorB11
import Derived.Test.YthcggdjkfebemaaGreatDoorB1
import Derived.Lib.IndexLaws
import Derived.Test.YthcggdjkfebemaaGreatDoorB2
import Derived.Below
import Derived.OwnWalk
import Derived.Laws.OwnMore
/-
  Contracts: the program's Unescape; the walk of FnExactUnescape.
-/
namespace Go.Proofs.YthcggdjkfebemaaGreatDoor
open Go.RowKit
set_option linter.unusedVariables false
set_option linter.unusedSimpArgs false
theorem un_tabs {w w' : World} (h : Tabs w) (hb : Below w.heap.size w w') : Tabs w' := by
  refine ⟨fun c hc => ?_, fun i hi => ⟨?_, ?_⟩⟩
  · exact (hb.cell (p := ⟨_, c, none⟩) (World.block_lt_of_cell? w _ (h.1 c hc))).trans (h.1 c hc)
  · exact (hb.cell (p := ⟨_, 2 * i, none⟩) (World.block_lt_of_cell? w _ (h.2 i hi).1)).trans (h.2 i hi).1
  · exact (hb.cell (p := ⟨_, 2 * i + 1, none⟩) (World.block_lt_of_cell? w _ (h.2 i hi).2)).trans (h.2 i hi).2
theorem un_drew {b : Nat} {w w1 : World} (h : Below b w w1) (q : Nat) : Below b w (w1.drewN q) := h.trans ⟨rfl, rfl, rfl, Nat.le_refl _, fun _ _ => rfl⟩
theorem bd_drew {T e : TypeId} {B b : Nat} {bs : List Value} {w : World} (h : Lib.IsBuilder T e B b bs w) (q : Nat) : Lib.IsBuilder T e B b bs (w.drewN q) := h
theorem un_ne (s : ByteArray) (h : s.size ≠ 0) : s.toList.isEmpty = false := by
  rw [ByteArray.toList_eq]
  cases hq : s.data.toList with
  | nil => have hl := size_list s; rw [hq] at hl; simp at hl; omega
  | cons a l => rfl
theorem un_nil (s : ByteArray) (h : s.size = 0) : s.toList.isEmpty = true := by
  rw [ByteArray.toList_eq]
  cases hq : s.data.toList with
  | nil => rfl
  | cons a l => have hl := size_list s; rw [hq] at hl; simp at hl; omega
theorem str_cells (l : List UInt8) : Lib.strCells (⟨l.toArray⟩ : ByteArray) = Lib.byteCells l := rfl
theorem has_lt {l : List UInt8} (h : decide (0 ≤ Lib.indexByte l 60) = true) : (60 : UInt8) ∈ l := by
  have h1 := of_decide_eq_true h
  have := Lib.indexByte_some (l := l) (c := 60) (o := (Lib.indexByte l 60).toNat) (by omega)
  exact List.mem_of_getElem? this.1
theorem no_lt {l : List UInt8} (h : decide (0 ≤ Lib.indexByte l 60) = false) : ∀ b ∈ l, b ≠ 60 := by
  have h1 := of_decide_eq_false h
  have h2 := Lib.indexByte_ge l 60
  intro b hb e
  obtain ⟨j, hj, hq⟩ := List.mem_iff_getElem.1 hb
  exact Lib.indexByte_none (l := l) (c := 60) (by omega) j (by rw [List.getElem?_eq_getElem hj, hq, e])
theorem i_cut (t : ByteArray) (c : UInt8) (m : Int) (w : World) (ht : t.size ≤ 1048576) (hm : w.cell? ⟨2, 0, none⟩ = some (.int .i64 m)) (x : List UInt8 × List UInt8 × Bool) (hx : cut1 c t.data.toList = x) :
    Calls Tryz.prog 94 #[.string t, .string ⟨#[c]⟩] w fun e w' => e = .returned (.tuple #[.string ⟨x.1.toArray⟩, .string ⟨x.2.1.toArray⟩, .bool x.2.2]) ∧ ∃ n, w' = w.drewN n := by
  have h := Any.strings_Cut { Tryz.laysM145 with } t ⟨#[c]⟩ m w (by omega) hm
  have e : Lib.cut t.data.toList (⟨#[c]⟩ : ByteArray).data.toList = x := (cut1_eq c t.data.toList).trans hx
  rw [e] at h
  exact h
def strN : Value → Nat
  | .string t => t.size
  | _ => 0
/-- What holds at each round: L is written, t is left. -/
def UnRel (s t : ByteArray) (L : List UInt8) : Prop := unesc s.data.toList = (unesc t.data.toList).map (L ++ ·) ∧ L.length + t.size ≤ s.size ∧ ∀ b ∈ t.data.toList, b ≠ 60
theorem un_break {s t : ByteArray} {L h r : List UInt8} (H : UnRel s t L) (hx : cut1 38 t.data.toList = (h, r, false)) : unesc s.data.toList = some (L ++ h) := by
  have h1 := cut1_no 38 t.data.toList (by rw [hx])
  have h2 := cut1_free 38 t.data.toList
  rw [hx] at h1 h2
  simp only at h1 h2
  have h3 := unesc_head [] h (by rw [h1]; exact H.2.2) h2
  rw [List.append_nil, unesc_nil] at h3
  rw [H.1, ← h1, h3]
  simp
theorem un_head {s t : ByteArray} {L h r : List UInt8} (H : UnRel s t L) (hx : cut1 38 t.data.toList = (h, r, true)) : unesc s.data.toList = (unesc (38 :: r)).map ((L ++ h) ++ ·) ∧ L.length + h.length + 1 + r.length ≤ s.size ∧ (∀ b ∈ r, b ≠ 60) ∧ h.length + 1 + r.length = t.size := by
  have h1 := cut1_yes 38 t.data.toList (by rw [hx])
  have h2 := cut1_free 38 t.data.toList
  rw [hx] at h1 h2
  simp only at h1 h2
  have hl := congrArg List.length h1
  rw [size_list, List.length_append, List.length_cons] at hl
  have hm := H.2.2
  rw [h1] at hm
  have h3 := unesc_head (38 :: r) h (fun b hb => hm b (List.mem_append_left _ hb)) h2
  refine ⟨?_, ?_, fun b hb => hm b (List.mem_append_right _ (List.mem_cons_of_mem _ hb)), by omega⟩
  · rw [H.1, h1, h3]
    exact map_app _ _ rfl
  · have := H.2.1; omega
theorem un_next {s : ByteArray} {L r m b x : List UInt8} (hu : unesc s.data.toList = (unesc (38 :: r)).map (L ++ ·)) (hl : L.length + 1 + r.length ≤ s.size) (hn : ∀ b ∈ r, b ≠ 60) (hc : cut1 59 r = (m, b, true)) (hr : refB m = some x) : UnRel s ⟨b.toArray⟩ (L ++ x) ∧ b.length < r.length := by
  have h1 := cut1_yes 59 r (by rw [hc])
  have h2 := unesc_ref (t := r) (x := x) (by rw [hc]) (by rw [hc]; exact hr)
  rw [hc] at h1 h2
  simp only at h1 h2
  have hlen := congrArg List.length h1
  rw [List.length_append, List.length_cons] at hlen
  have hb := refB_len hr
  refine ⟨⟨?_, ?_, ?_⟩, by omega⟩
  · rw [hu, h2]; exact map_app _ _ rfl
  · have : (⟨b.toArray⟩ : ByteArray).size = b.length := by simp [ByteArray.size]
    rw [this, List.length_append]; omega
  · intro y hy
    exact hn y (by rw [h1]; exact List.mem_append_right _ (List.mem_cons_of_mem _ (by simpa using hy)))
theorem sz_arr (l : List UInt8) : (⟨l.toArray⟩ : ByteArray).size = l.length := by simp [ByteArray.size]
set_option maxHeartbeats 8000000 in
set_option maxRecDepth 100000 in
theorem i_unescape (s : ByteArray) (w : World) (m : Int) (hs : s.size ≤ 1048576) (hT : Tabs w) (hm : w.cell? ⟨2, 0, none⟩ = some (.int .i64 m)) :
    Calls Tryz.prog 123 #[.string s] w fun e w' => e = .returned (.tuple #[.string (unV s), .bool (unOk s)]) ∧ Below w.heap.size w w' := by
  have CP := hide (i_plain s w hs hT)
  have H2 := World.block_lt_of_cell? w _ hm
  have HM := hide hm
  clear hT hm
  cases hp : plainB s
  · have HV := hide (unV_no hp)
    rw [hp] at CP
    go_enter Tryz.func123, Tryz.ntmps123
    go_wp2_with (go_at_call 27; refine CP.out.mono ?_; rintro e w1 ⟨rfl, hb1⟩; have HB := hide hb1; clear hb1)
    go_ret2
    exact ⟨un_ret HV.out.1.symm HV.out.2.symm, HB.out⟩
  · have HP := hide hp
    rw [hp] at CP
    clear hp
    have CC := hide (fun (w : World) => Tryz.strings_Contains_one s 60 w)
    cases hc : decide (0 ≤ Lib.indexByte s.data.toList 60)
    · have HL := hide (no_lt hc)
      rw [hc] at CC
      clear hc
      go_enter Tryz.func123, Tryz.ntmps123
      go_wp2_with (first | (go_at_call 27; refine CP.out.mono ?_; rintro e w1 ⟨rfl, hb1⟩; have HB := hide hb1; clear hb1) | (go_at_call 100; refine (CC.out _).mono ?_; rintro e w2 ⟨rfl, hw2⟩; rw [hw2]; clear hw2))

      go_loopw [0] (fun sv wr => ∃ (t : ByteArray) (L : List UInt8), sv = .string t ∧ Hid (Lib.IsBuilder 38 5 w1.heap.size w1.heap.size (Lib.byteCells L) wr) ∧ Hid (Below w.heap.size w wr) ∧ Hid (UnRel s t L)) (fun sv _ => strN sv)
      case atStart => exact ⟨s, [], rfl, hide (Lib.fresh_isBuilder _ _ w1), hide (HB.out.alloc HB.out.size _), hide ⟨by simp, by simp, HL.out⟩⟩
      case round =>
        obtain ⟨t, L, rfl, HI, HBr, HU⟩ := hrel
        have hww := HB.out.size
        have hbl := bd_lt HI.out
        have hLs := HU.out.2.1
        have hbc := Lib.byteCells_length L
        by_cases h0 : t.size = 0
        · have f0 := un_nil t h0
          have HV := hide (un_done (l := L) HP.out (by
            have : t.data.toList = [] := List.length_eq_zero_iff.1 (by rw [size_list]; exact h0)
            rw [HU.out.1, this, unesc_nil]; simp))
          clear h0
          go_wp2_with (go_at_call 21; refine (Tryz.Builder_String_any w1.heap.size w1.heap.size L _ HI.out (by omega)).mono ?_; rintro e w3 ⟨rfl, hb3⟩; have HB3 := hide (HBr.out.trans (hb3.mono hww)); clear hb3)
          go_ret2
          exact ⟨un_ret HV.out.1.symm HV.out.2.symm, HB3.out⟩
        · have f0 := un_ne t h0
          have ht1 : t.size ≤ 1048576 := by omega
          have hmr : wr.cell? ⟨2, 0, none⟩ = some (.int .i64 m) := (HBr.out.cell (p := ⟨2, 0, none⟩) H2).trans HM.out
          obtain ⟨x, hx⟩ : ∃ x, cut1 38 t.data.toList = x := ⟨_, rfl⟩
          have C1 := hide (i_cut t 38 m wr ht1 hmr x hx)
          obtain ⟨h, r, f⟩ := x
          simp only at C1
          clear hmr
          cases f
          · have HV := hide (un_done (l := L ++ h) HP.out (un_break HU.out hx))
            have hh : h.length ≤ t.size := by
              have e := cut1_no 38 t.data.toList (by rw [hx])
              rw [hx] at e
              simp only at e
              rw [e, size_list]; exact Nat.le_refl _
            obtain ⟨H, hH⟩ : ∃ H : ByteArray, (⟨h.toArray⟩ : ByteArray) = H := ⟨_, rfl⟩
            have hHs : H.size ≤ t.size := by rw [← hH, sz_arr]; exact hh
            have HHc : Hid (Lib.strCells H = Lib.byteCells h) := hide (by rw [← hH]; rfl)
            rw [hH] at C1
            clear hx hh hH
            go_wp2_with (first
              | (go_at_call 21; refine (Tryz.Builder_String_any w1.heap.size w1.heap.size (L ++ h) _ HI3.out (by have := (bd_lt HI3.out); omega)).mono ?_; rintro e w4 ⟨rfl, hb4⟩; have HB4 := hide (HB3.out.trans (hb4.mono hww)); clear hb4)
              | (have _hh := HI2; clear _hh; go_at_call 17; refine (bd_str w1.heap.size w1.heap.size _ _ _ HI2.out (by omega) (by have := HB2.out.size; have := (bd_lt HI2.out); omega)).mono ?_; rintro e w3 ⟨rfl, hI3, hb3⟩; have HI3 := hide hI3; have HB3 := hide (HB2.out.trans (hb3.mono hww)); rw [HHc.out, ← bc_app] at HI3; clear hI3 hb3)
              | (go_at_call 94; refine C1.out.mono ?_; rintro e w2 ⟨rfl, q, hq⟩; have HI2 := hide (bd_drew HI.out q); have HB2 := hide (un_drew HBr.out q); rw [← hq] at HI2 HB2; clear hq))
            go_ret2
            exact ⟨un_ret HV.out.1.symm HV.out.2.symm, HB4.out⟩
          · obtain ⟨hu, hl, hn, htz⟩ := un_head HU.out hx
            obtain ⟨H, hH⟩ : ∃ H : ByteArray, (⟨h.toArray⟩ : ByteArray) = H := ⟨_, rfl⟩
            have hHs : H.size = h.length := by rw [← hH, sz_arr]
            have hHb : L.length + H.size ≤ 1048576 := by omega
            have HHc : Hid (Lib.strCells H = Lib.byteCells h) := hide (by rw [← hH]; rfl)
            obtain ⟨Rt, hRt⟩ : ∃ Rt : ByteArray, (⟨r.toArray⟩ : ByteArray) = Rt := ⟨_, rfl⟩
            have hRs : Rt.size ≤ 1048576 := by rw [← hRt, sz_arr]; omega
            have hRl : Rt.data.toList = r := by rw [← hRt]
            obtain ⟨y, hy⟩ : ∃ y, cut1 59 r = y := ⟨_, rfl⟩
            have C2 := hide (fun (w : World) (hm : w.cell? ⟨2, 0, none⟩ = some (.int .i64 m)) => i_cut Rt 59 m w hRs hm y (by rw [hRl]; exact hy))
            obtain ⟨mk, bh, f⟩ := y
            simp only at C2
            rw [hH, hRt] at C1
            have hmk : mk.length ≤ r.length := by
              cases f
              · have e := cut1_no 59 r (by rw [hy]); rw [hy] at e; simp only at e; rw [e]; exact Nat.le_refl _
              · have e := cut1_yes 59 r (by rw [hy]); rw [hy] at e; simp only at e; rw [e]; simp
            obtain ⟨Mk, hMk⟩ : ∃ Mk : ByteArray, (⟨mk.toArray⟩ : ByteArray) = Mk := ⟨_, rfl⟩
            have hMs : Mk.size ≤ 1048576 := by rw [← hMk, sz_arr]; omega
            have hMl : Mk.data.toList = mk := by rw [← hMk]
            have C3 := hide (fun (w : World) => i_charOf Mk hMs w)
            rw [hMl] at C3
            rw [hMk] at C2
            cases f
            · have HV := hide (un_fail HP.out (by rw [hu, unesc_open (by rw [hy])]; rfl))
              obtain ⟨ch, hch⟩ : ∃ ch, strO (refB mk) = ch := ⟨_, rfl⟩
              obtain ⟨kn, hkn⟩ : ∃ kn, (refB mk).isSome = kn := ⟨_, rfl⟩
              rw [hch, hkn] at C3
              clear hu hl hn htz hH hHs hRt hRl hy hMk hMl hch hkn hmk hx
              go_wp2_with (first
                | (have _hh := HM3; clear _hh; go_at_call 94; refine (C2.out _ HM3.out).mono ?_; rintro e w4 ⟨rfl, q, hq⟩; have HB4 := hide (un_drew HB3.out q); rw [← hq] at HB4; clear hq)
                | (go_at_call 132; refine (C3.out _).mono ?_; rintro e w5 ⟨rfl, rfl⟩)
                | (have _hh := HI2; clear _hh; go_at_call 17; refine (bd_str w1.heap.size w1.heap.size _ _ _ HI2.out (by omega) (by have := HB2.out.size; have := (bd_lt HI2.out); omega)).mono ?_; rintro e w3 ⟨rfl, hI3, hb3⟩; have HI3 := hide hI3; have HB3 := hide (HB2.out.trans (hb3.mono hww)); have HM3 := hide ((HB3.out.cell (p := ⟨2, 0, none⟩) H2).trans HM.out); clear hI3 hb3)
                | (go_at_call 94; refine C1.out.mono ?_; rintro e w2 ⟨rfl, q, hq⟩; have HI2 := hide (bd_drew HI.out q); have HB2 := hide (un_drew HBr.out q); rw [← hq] at HI2 HB2; clear hq))
              go_ret2
              exact ⟨un_ret HV.out.1.symm HV.out.2.symm, HB4.out⟩
            · cases hr : refB mk with
              | none =>
                have HV := hide (un_fail HP.out (by rw [hu, unesc_bad (by rw [hy]; exact hr)]; rfl))
                rw [hr] at C3
                simp only [Option.isSome_none] at C3
                obtain ⟨ch, hch⟩ : ∃ ch, strO none = ch := ⟨_, rfl⟩
                rw [hch] at C3
                clear hu hl hn htz hH hHs hRt hRl hy hMk hMl hch hmk hr hx
                go_wp2_with (first
                  | (have _hh := HM3; clear _hh; go_at_call 94; refine (C2.out _ HM3.out).mono ?_; rintro e w4 ⟨rfl, q, hq⟩; have HB4 := hide (un_drew HB3.out q); rw [← hq] at HB4; clear hq)
                  | (go_at_call 132; refine (C3.out _).mono ?_; rintro e w5 ⟨rfl, rfl⟩)
                  | (have _hh := HI2; clear _hh; go_at_call 17; refine (bd_str w1.heap.size w1.heap.size _ _ _ HI2.out (by omega) (by have := HB2.out.size; have := (bd_lt HI2.out); omega)).mono ?_; rintro e w3 ⟨rfl, hI3, hb3⟩; have HI3 := hide hI3; have HB3 := hide (HB2.out.trans (hb3.mono hww)); have HM3 := hide ((HB3.out.cell (p := ⟨2, 0, none⟩) H2).trans HM.out); clear hI3 hb3)
                  | (go_at_call 94; refine C1.out.mono ?_; rintro e w2 ⟨rfl, q, hq⟩; have HI2 := hide (bd_drew HI.out q); have HB2 := hide (un_drew HBr.out q); rw [← hq] at HI2 HB2; clear hq))
                go_ret2
                exact ⟨un_ret HV.out.1.symm HV.out.2.symm, HB4.out⟩
              | some x =>
                have hnx := un_next (L := L ++ h) hu (by rw [List.length_append]; omega) hn hy hr
                have hxl := refB_len hr
                rw [hr] at C3
                simp only [Option.isSome_some] at C3
                obtain ⟨ch, hch⟩ : ∃ ch, strO (some x) = ch := ⟨_, rfl⟩
                have HCc : Hid (Lib.strCells ch = Lib.byteCells x) := hide (by rw [← hch]; rfl)
                have hcs : ch.size = x.length := by rw [← hch]; exact sz_arr x
                rw [hch] at C3
                obtain ⟨Bh, hBh⟩ : ∃ Bh : ByteArray, (⟨bh.toArray⟩ : ByteArray) = Bh := ⟨_, rfl⟩
                have hBs : Bh.size = bh.length := by rw [← hBh, sz_arr]
                rw [hBh] at C2 hnx
                have hnl := hnx.1.2.1
                rw [List.length_append] at hnl
                have hcb : (L ++ h).length + ch.size ≤ 1048576 := by omega
                have hBt : Bh.size < t.size := by omega
                have HN := hide hnx.1
                have hbc2 := Lib.byteCells_length (L ++ h)
                clear hu hl hn htz hH hHs hRt hRl hy hMk hMl hch hmk hr hx hnx hxl hcs hBh hBs hnl
                go_wp2_with (first
                  | (have _hh := HI4; clear _hh; go_at_call 17; refine (bd_str w1.heap.size w1.heap.size _ ch _ HI4.out (by omega) (by have := HB4.out.size; have := (bd_lt HI4.out); omega)).mono ?_; rintro e w6 ⟨rfl, hI6, hb6⟩; have HI6 := hide hI6; have HB6 := hide (HB4.out.trans (hb6.mono hww)); rw [HCc.out, ← bc_app] at HI6; clear hI6 hb6)
                  | (have _hh := HM3; clear _hh; go_at_call 94; refine (C2.out _ HM3.out).mono ?_; rintro e w4 ⟨rfl, q, hq⟩; have HI4 := hide (bd_drew HI3.out q); have HB4 := hide (un_drew HB3.out q); rw [← hq] at HI4 HB4; clear hq)
                  | (go_at_call 132; refine (C3.out _).mono ?_; rintro e w5 ⟨rfl, rfl⟩)
                  | (have _hh := HI2; clear _hh; go_at_call 17; refine (bd_str w1.heap.size w1.heap.size _ H _ HI2.out (by omega) (by have := HB2.out.size; have := (bd_lt HI2.out); omega)).mono ?_; rintro e w3 ⟨rfl, hI3, hb3⟩; have HI3 := hide hI3; have HB3 := hide (HB2.out.trans (hb3.mono hww)); have HM3 := hide ((HB3.out.cell (p := ⟨2, 0, none⟩) H2).trans HM.out); rw [HHc.out, ← bc_app] at HI3; clear hI3 hb3)
                  | (go_at_call 94; refine C1.out.mono ?_; rintro e w2 ⟨rfl, q, hq⟩; have HI2 := hide (bd_drew HI.out q); have HB2 := hide (un_drew HBr.out q); rw [← hq] at HI2 HB2; clear hq))
                go_roundw
                case rel => exact ⟨Bh, L ++ h ++ x, rfl, HI6, HB6, HN⟩
                case measure => simp [strN]; omega
    · have HV := hide (un_fail HP.out (unesc_has _ _ (Nat.le_refl _) (has_lt hc)))
      rw [hc] at CC
      clear hc
      go_enter Tryz.func123, Tryz.ntmps123
      go_wp2_with (first | (go_at_call 27; refine CP.out.mono ?_; rintro e w1 ⟨rfl, hb1⟩; have HB := hide hb1; clear hb1) | (go_at_call 100; refine (CC.out _).mono ?_; rintro e w2 ⟨rfl, hw2⟩; rw [hw2]; clear hw2))
      go_ret2
      exact ⟨un_ret HV.out.1.symm HV.out.2.symm, HB.out⟩
end Go.Proofs.YthcggdjkfebemaaGreatDoor

/-
  Plain laws on rows of the call's own, of no program: their shape, what stays of them, what one more cell makes of the world.
-/
namespace Go.Proofs.YthcggdjkfebemaaGreatDoor
open Go.RowKit
set_option linter.unusedVariables false
theorem gOwn_shape {w : World} {B : Nat} {e : TypeId} {z : Nat} {v : Value} {n : Nat} {xs : List Value} (h : w.ownsRow B e z v n xs) : ∃ ad cap, v = .slice ad n cap := by
  rcases h.2 with ⟨rfl, rfl⟩ | ⟨g, cap, cur, rfl, _⟩
  · exact ⟨_, _, rfl⟩
  · exact ⟨_, _, rfl⟩
theorem gOwn_after {w w' : World} {B e size n : Nat} {v : Value} {xs : List Value} (h : w.ownsRow B e size v n xs) (hb : Below w.heap.size w w') : w'.ownsRow B e size v n xs := by
  obtain ⟨hl, h⟩ := h
  refine ⟨hl, ?_⟩
  rcases h with h | ⟨g, cap, cur, hv, hg, hh, h1, h2, h3, h4⟩
  · exact .inl h
  · have hlt : g < w.heap.size := (Array.getElem?_eq_some_iff.1 hh).1
    exact .inr ⟨g, cap, cur, hv, hg, (hb.block g hlt).trans hh, h1, h2, h3, h4⟩
theorem gOne_new (w : World) (v : Value) (t : TypeId) (j : Nat) (u : Value) (hj : [v][j]? = some u) : (w.alloc (.cells #[v] t)).cell? ((⟨w.heap.size, 0, none⟩ : Addr).add j) = some u := by
  have h0 : j = 0 := by
    rcases Nat.eq_zero_or_pos j with h | h
    · exact h
    · rw [List.getElem?_eq_none (by simp; omega)] at hj; simp at hj
  subst h0
  simp at hj
  subst hj
  simp [Addr.add]
theorem gStr_list (s : ByteArray) : ∀ u ∈ [Value.string s], u.oneCell' = true := by
  intro u hu
  simp at hu
  subst hu
  rfl
theorem gBelow_one {w wr w2 : World} {o : Obj} {e : TypeId} {z : Nat} {ad : Option Addr} {n c : Nat} {xs : List Value} (hb : Below w.heap.size w wr) (hown : wr.ownsRow w.heap.size e z (.slice ad n c) n xs)
    (hg : (wr.alloc o).grownBy w2 (Value.slice ad n c).ownBlock) : Below w.heap.size w w2 := by
  have h2 : Below w.heap.size w (wr.alloc o) := hb.alloc hb.size o
  refine h2.grown hg h2.size fun j hj => ?_
  rcases hown.2 with ⟨hv, h0⟩ | ⟨g, cap, cur, hv, hB, rest⟩
  · rw [hv] at hj
    simp [Value.ownBlock] at hj
  · rw [hv] at hj
    simp [Value.ownBlock] at hj
    omega
/-- A block of the call's own, with these cells. -/
def CellsAt (w : World) (G : Nat) (cs : Array Value) : Prop := ∃ T, w.heap[G]? = some (.cells cs T (0, 0))
theorem cellsAt_new (w : World) (cs : Array Value) (T : TypeId) : CellsAt (w.alloc (.cells cs T)) w.heap.size cs := ⟨T, heap_alloc_new w _⟩
theorem cellsAt_lt {w : World} {G : Nat} {cs : Array Value} (h : CellsAt w G cs) : G < w.heap.size := by
  obtain ⟨T, h⟩ := h
  exact (Array.getElem?_eq_some_iff.1 h).1
theorem cellsAt_go {w w' : World} {G B : Nat} {cs : Array Value} (h : CellsAt w G cs) (hb : Below B w w') (hB : G < B) : CellsAt w' G cs := by
  obtain ⟨T, h⟩ := h
  exact ⟨T, (hb.block G hB).trans h⟩
theorem cellsAt_cell {w : World} {G : Nat} {cs : Array Value} (h : CellsAt w G cs) (i : Nat) : w.cell? ⟨G, i, none⟩ = cs[i]? := by
  obtain ⟨T, h⟩ := h
  rw [cell_of_row w G i _ T (0, 0) h]
theorem cellsAt_frozen {w : World} {G : Nat} {cs : Array Value} (h : CellsAt w G cs) (i : Nat) : w.frozen? ⟨G, i, none⟩ = false := by
  obtain ⟨T, h⟩ := h
  simp [World.frozen?, h]
theorem cellsAt_set {w : World} {G i : Nat} {cs : Array Value} (h : CellsAt w G cs) (v : Value) : CellsAt (w.setCell ⟨G, i, none⟩ v) G (cs.setIfInBounds i v) := by
  obtain ⟨T, h⟩ := h
  have hl := (Array.getElem?_eq_some_iff.1 h).1
  refine ⟨T, ?_⟩
  simp [World.setCell, Array.getElem?_modify, h]
theorem cellsAt_far {w : World} {G : Nat} {p : Addr} {cs : Array Value} (h : CellsAt w G cs) (v : Value) (hne : p.block ≠ G) : CellsAt (w.setCell p v) G cs := by
  obtain ⟨T, h⟩ := h
  refine ⟨T, ?_⟩
  simp [World.setCell, Array.getElem?_modify, hne, h]
theorem gOwn_set {w : World} {B : Nat} {e : TypeId} {z : Nat} {v : Value} {n : Nat} {xs : List Value} (h : w.ownsRow B e z v n xs) (p : Addr) (u : Value) (hne : v.ownBlock ≠ some p.block) : (w.setCell p u).ownsRow B e z v n xs := by
  obtain ⟨hl, h⟩ := h
  refine ⟨hl, ?_⟩
  rcases h with h | ⟨g, cap, cur, hv, hg, hh, h1, h2, h3, h4⟩
  · exact .inl h
  · have hne2 : p.block ≠ g := fun e => hne (by rw [hv, e]; rfl)
    exact .inr ⟨g, cap, cur, hv, hg, by rw [← hh]; simp [World.setCell, Array.getElem?_modify, hne2], h1, h2, h3, h4⟩
theorem gBox_below {w w2 : World} {o : Obj} (k : Below (w.alloc o).heap.size (w.alloc o) w2) : Below w.heap.size w w2 :=
  ((Below.refl _ _).alloc (Nat.le_refl _) _).trans (k.mono (by simp))
theorem gOwn_lower {w : World} {B B' : Nat} {e : TypeId} {z : Nat} {v : Value} {n : Nat} {xs : List Value} (h : w.ownsRow B e z v n xs) (hB : B' ≤ B) : w.ownsRow B' e z v n xs := by
  obtain ⟨hl, h⟩ := h
  refine ⟨hl, ?_⟩
  rcases h with h | ⟨g, cap, cur, hv, hg, hh, h1, h2, h3, h4⟩
  · exact .inl h
  · exact .inr ⟨g, cap, cur, hv, Nat.le_trans hB hg, hh, h1, h2, h3, h4⟩
theorem gTwo_new (w : World) (x y : Value) (T : TypeId) (j : Nat) (u : Value) (hj : [x, y][j]? = some u) : (w.alloc (.cells #[x, y] T)).cell? ((⟨w.heap.size, 0, none⟩ : Addr).add j) = some u := by
  match j, hj with
  | 0, hj => simp at hj; subst hj; simp [Addr.add]
  | 1, hj => simp at hj; subst hj; simp [Addr.add]
theorem gStr_two (x y : ByteArray) : ∀ u ∈ [Value.string x, Value.string y], u.oneCell' = true := by
  intro u hu
  simp at hu
  rcases hu with rfl | rfl <;> rfl
end Go.Proofs.YthcggdjkfebemaaGreatDoor
