/-
  The walk of the law on dates and their texts.
-/
import Derived.Test.YtaigicdoepdhnaaDoorDrawRd
import Derived.Test.YtaigicdoepdhnaaDoorBackMath
import Derived.Test.YtaigicdoepdhnaaDoorRdD
import Derived.Test.YtaigicdoepdhnaaDoorRdS
import Derived.Test.YtaigicdoepdhnaaDoorDt4
namespace Go.Proofs.YtaigicdoepdhnaaDoor
open Go.RowKit Go.Joins
set_option linter.unusedVariables false
set_option linter.unusedSimpArgs false
theorem rdV_yes {s : ByteArray} (h : rdOk s = true) {y mo d hh mi sc : Int} {g : Bool} {z : Int} (h0 : f0 s = y) (h1 : f1 s = mo) (h2 : f2 s = d) (h3 : f3 s = hh) (h4 : f4 s = mi) (h5 : f5 s = sc) (hz : zI (tailA s) = (g, z, true)) :
    rdV s = .tuple #[.agg #[.int .i64 y, .int .i64 mo, .int .i64 d, .int .i64 hh, .int .i64 mi, .int .i64 sc, .bool g, .int .i64 z], .bool true] := by
  unfold rdV
  rw [if_pos h, h0, h1, h2, h3, h4, h5, hz]
theorem rd_right {s : ByteArray} (h : rdOk s = true) : dateB (f0 s) (f1 s) (f2 s) (f3 s) (f4 s) (f5 s) (zI (tailA s)).1 (zI (tailA s)).2.1 = true := by
  unfold rdOk at h
  simp only [Bool.and_eq_true] at h
  exact h.2.2
/-- What is read of a date's own text is that date; of a wrong one's, nothing. -/
theorem rd_dt (y mo d h mi s : Int) (g : Bool) (z : Int) {t : ByteArray} (ht : dtB y mo d h mi s g z = t) :
    (dateB y mo d h mi s g z = true ∧ rdV t = .tuple #[.agg #[.int .i64 y, .int .i64 mo, .int .i64 d, .int .i64 h, .int .i64 mi, .int .i64 s, .bool g, .int .i64 z], .bool true]) ∨
    (dateB y mo d h mi s g z = false ∧ rdV t = .tuple #[.agg #[.int .i64 0, .int .i64 0, .int .i64 0, .int .i64 0, .int .i64 0, .int .i64 0, .bool false, .int .i64 0], .bool false]) := by
  cases hd : dateB y mo d h mi s g z
  · refine .inr ⟨rfl, ?_⟩
    rw [← ht, none_back hd]
    exact rdV_no (by decide)
  · obtain ⟨h1, q0, q1, q2, q3, q4, q5, qz, _⟩ := date_back hd ht
    exact .inl ⟨rfl, rdV_yes h1 q0 q1 q2 q3 q4 q5 qz⟩
/-- What is read of any text: a right date, or nothing. -/
theorem rd_any (t : ByteArray) : (∃ (y mo d h mi s : Int) (g : Bool) (z : Int), dateB y mo d h mi s g z = true ∧ rdV t = .tuple #[.agg #[.int .i64 y, .int .i64 mo, .int .i64 d, .int .i64 h, .int .i64 mi, .int .i64 s, .bool g, .int .i64 z], .bool true]) ∨
    rdV t = .tuple #[.agg #[.int .i64 0, .int .i64 0, .int .i64 0, .int .i64 0, .int .i64 0, .int .i64 0, .bool false, .int .i64 0], .bool false] := by
  cases hr : rdOk t
  · exact .inr (rdV_no hr)
  · refine .inl ⟨_, _, _, _, _, _, _, _, rd_right hr, ?_⟩
    unfold rdV
    rw [if_pos hr]
theorem src_belowD {w w' : World} {a : Option Addr} {zs : List Int} (h : SrcAt w a zs w.heap.size) (hb : Below w.heap.size w w') : SrcAt w' a zs w'.heap.size := by
  intro hne
  obtain ⟨b, off, rfl, hlt, hc⟩ := h hne
  exact ⟨b, off, rfl, Nat.lt_of_lt_of_le hlt hb.size, fun j hj => (hb.cell (p := ⟨b, off + j, none⟩) hlt).trans (hc j hj)⟩
set_option maxRecDepth 100000 in
set_option maxHeartbeats 8000000 in
theorem dates_walk (a : Option Addr) (n cap : Nat) (zs : List Int) (w : World) (hl : zs.length = n) (hz : ∀ x ∈ zs, 0 ≤ x ∧ x ≤ 255) (hn : n ≤ 1048576) (hs : SrcAt w a zs w.heap.size) (ht : MTab 0 w) (htab : Lib.TabIs Tryd.prog w "internal/strconv.uint64pow10" .u64 Lib.pow10Tab) :
    Calls Tryd.prog 3 #[.slice a n cap] w fun e w' => e = .returned (.bool true) ∧ Below w.heap.size w w' := by
  have hn' : ¬ (1048576 : Int) < (n : Int) := by omega
  have HS := hide hs
  have HL := hide hl
  have HZ := hide hz
  have HT := hide ht
  have HP := hide htab
  clear hs hl hz ht htab
  go_enter Tryd.func3, Tryd.ntmps3
  go_wp2_with (go_at_call 4; go_in)
  refine (d_one a n cap zs _ HL.out HZ.out hn HS.out).mono ?_
  rintro e w1 ⟨y, mo, d, h, mi, s, g, z, rfl, hb⟩
  have B1 := hide hb
  clear hb
  obtain ⟨t, htt⟩ : ∃ t, dtB y mo d h mi s g z = t := ⟨_, rfl⟩
  have HTT := hide htt
  have htz : t.size ≤ 1048576 := by rw [← htt]; have := dtB_size y mo d h mi s g z; omega
  have HR := hide (rd_dt y mo d h mi s g z htt)
  clear htt
  have hal := (Below.refl w1.heap.size w1).alloc (Nat.le_refl _) (.cells #[.int .i64 y, .int .i64 mo, .int .i64 d, .int .i64 h, .int .i64 mi, .int .i64 s, .bool g, .int .i64 z] 25)
  have D2 := hide (dbox_new w1 y mo d h mi s g z 25)
  have B2 := hide (below_go B1.out hal)
  clear hal
  go_wp2_with fail
  refine (i_dtext y mo d h mi s g z _ (mtab_go HT.out B2.out) (tab_go HP.out B2.out)).mono ?_
  rintro e w3 ⟨rfl, hb⟩
  rw [HTT.out]
  have D3 := hide (dbox_go D2.out hb)
  have B3 := hide (below_go B2.out hb)
  clear hb
  go_wp2_with fail
  refine (i_rdate t _ htz (mtab_go HT.out B3.out)).mono ?_
  rintro e w4 ⟨rfl, hb⟩
  have D4 := hide (dbox_go D3.out hb)
  have B4 := hide (below_go B3.out hb)
  clear hb
  rcases HR.out with ⟨hd, hv⟩ | ⟨hd, hv⟩
  · rw [hv]
    clear hv
    have HD := hide hd
    clear hd
    have hal := (Below.refl w4.heap.size w4).alloc (Nat.le_refl _) (.cells #[.int .i64 y, .int .i64 mo, .int .i64 d, .int .i64 h, .int .i64 mi, .int .i64 s, .bool g, .int .i64 z] 25)
    have D5 := hide (dbox_go D4.out hal)
    have E5 := hide (dbox_new w4 y mo d h mi s g z 25)
    have B5 := hide (below_go B4.out hal)
    clear hal
    obtain ⟨k0, k1, k2, k3, k4, k5, k6, k7, k8⟩ := D5.out
    clear k0
    go_wp2_with fail
    refine (s_dtext y mo d h mi s g z _).mono ?_
    rintro e w6 ⟨rfl, hb⟩
    rw [HTT.out]
    have D6 := hide (dbox_go D5.out hb)
    have E6 := hide (dbox_go E5.out hb)
    have B6 := hide (below_go B5.out hb)
    clear hb
    clear k1 k2 k3 k4 k5 k6 k7 k8
    obtain ⟨k0, k1, k2, k3, k4, k5, k6, k7, k8⟩ := D6.out
    clear k0
    go_wp2_with fail
    refine (i_dateok y mo d h mi s g z _ (mtab_go HT.out B6.out)).mono ?_
    rintro e w7 ⟨rfl, hb⟩
    rw [HD.out]
    have D7 := hide (dbox_go D6.out hb)
    have E7 := hide (dbox_go E6.out hb)
    have B7 := hide (below_go B6.out hb)
    clear hb
    clear k1 k2 k3 k4 k5 k6 k7 k8
    obtain ⟨k0, k1, k2, k3, k4, k5, k6, k7, k8⟩ := D7.out
    clear k0
    obtain ⟨l0, l1, l2, l3, l4, l5, l6, l7, l8⟩ := E7.out
    clear l0
    go_wp2_with fail
    refine (d_rdtext a n cap zs _ HL.out HZ.out hn (src_belowD HS.out B7.out)).mono ?_
    rintro e v0 ⟨t2, ht2, rfl, hb⟩
    have C0 := hide (below_go B7.out hb)
    clear hb
    have ht3 : t2.size ≤ 1048576 := by omega
    have HR2 := hide (rd_any t2)
    go_wp2_with fail
    refine (i_rdate t2 _ ht3 (mtab_go HT.out C0.out)).mono ?_
    rintro e v1 ⟨rfl, hb⟩
    have C1 := hide (below_go C0.out hb)
    clear hb
    rcases HR2.out with ⟨y', m', d', h', n', s', g', z', hdx, hv2⟩ | hv2
    · rw [hv2]
      have HV2 := hide hv2
      clear hv2
      have HDX := hide hdx
      clear hdx
      have hal := (Below.refl v1.heap.size v1).alloc (Nat.le_refl _) (.cells #[.int .i64 y', .int .i64 m', .int .i64 d', .int .i64 h', .int .i64 n', .int .i64 s', .bool g', .int .i64 z'] 25)
      have X2 := hide (dbox_new v1 y' m' d' h' n' s' g' z' 25)
      have C2 := hide (below_go C1.out hal)
      clear hal
      go_wp2_with fail
      refine (s_rdate t2 _ ht3).mono ?_
      rintro e v3 ⟨rfl, hb⟩
      rw [HV2.out]
      have X3 := hide (dbox_go X2.out hb)
      have C3 := hide (below_go C2.out hb)
      clear hb
      have hal := (Below.refl v3.heap.size v3).alloc (Nat.le_refl _) (.cells #[.int .i64 y', .int .i64 m', .int .i64 d', .int .i64 h', .int .i64 n', .int .i64 s', .bool g', .int .i64 z'] 25)
      have X4 := hide (dbox_go X3.out hal)
      have C4 := hide (below_go C3.out hal)
      clear hal
      obtain ⟨t4, ht4⟩ : ∃ t4, dtB y' m' d' h' n' s' g' z' = t4 := ⟨_, rfl⟩
      have HT4 := hide ht4
      have hz4 : t4.size ≤ 1048576 := by rw [← ht4]; have := dtB_size y' m' d' h' n' s' g' z'; omega
      have HR4 := hide (rd_dt y' m' d' h' n' s' g' z' ht4)
      clear ht4
      obtain ⟨k0, k1, k2, k3, k4, k5, k6, k7, k8⟩ := X4.out
      clear k0
      go_wp2_with fail
      refine (i_dtext y' m' d' h' n' s' g' z' _ (mtab_go HT.out C4.out) (tab_go HP.out C4.out)).mono ?_
      rintro e v5 ⟨rfl, hb⟩
      rw [HT4.out]
      have X5 := hide (dbox_go X4.out hb)
      have C5 := hide (below_go C4.out hb)
      clear hb
      clear k1 k2 k3 k4 k5 k6 k7 k8
      go_wp2_with fail
      refine (i_rdate t4 _ hz4 (mtab_go HT.out C5.out)).mono ?_
      rintro e v6 ⟨rfl, hb⟩
      have X6 := hide (dbox_go X5.out hb)
      have C6 := hide (below_go C5.out hb)
      clear hb
      rcases HR4.out with ⟨hd4, hv4⟩ | ⟨hd4, hv4⟩
      · rw [hv4]
        clear hv4
        have hal := (Below.refl v6.heap.size v6).alloc (Nat.le_refl _) (.cells #[.int .i64 y', .int .i64 m', .int .i64 d', .int .i64 h', .int .i64 n', .int .i64 s', .bool g', .int .i64 z'] 25)
        have X7 := hide (dbox_go X6.out hal)
        have Y7 := hide (dbox_new v6 y' m' d' h' n' s' g' z' 25)
        have C7 := hide (below_go C6.out hal)
        clear hal
        obtain ⟨k0, k1, k2, k3, k4, k5, k6, k7, k8⟩ := X7.out
        clear k0
        obtain ⟨l0, l1, l2, l3, l4, l5, l6, l7, l8⟩ := Y7.out
        clear l0
        go_wp2
        go_ret
        exact ⟨rfl, C7.out⟩
      · rw [HDX.out] at hd4; cases hd4
    · rw [hv2]
      have HV2 := hide hv2
      clear hv2
      have hal := (Below.refl v1.heap.size v1).alloc (Nat.le_refl _) (.cells #[.int .i64 0, .int .i64 0, .int .i64 0, .int .i64 0, .int .i64 0, .int .i64 0, .bool false, .int .i64 0] 25)
      have X2 := hide (dbox_new v1 0 0 0 0 0 0 false 0 25)
      have C2 := hide (below_go C1.out hal)
      clear hal
      go_wp2_with fail
      refine (s_rdate t2 _ ht3).mono ?_
      rintro e v3 ⟨rfl, hb⟩
      rw [HV2.out]
      have X3 := hide (dbox_go X2.out hb)
      have C3 := hide (below_go C2.out hb)
      clear hb
      have hal := (Below.refl v3.heap.size v3).alloc (Nat.le_refl _) (.cells #[.int .i64 0, .int .i64 0, .int .i64 0, .int .i64 0, .int .i64 0, .int .i64 0, .bool false, .int .i64 0] 25)
      have X4 := hide (dbox_go X3.out hal)
      have C4 := hide (below_go C3.out hal)
      clear hal
      obtain ⟨t4, ht4⟩ : ∃ t4, dtB 0 0 0 0 0 0 false 0 = t4 := ⟨_, rfl⟩
      have HT4 := hide ht4
      have hz4 : t4.size ≤ 1048576 := by rw [← ht4]; have := dtB_size 0 0 0 0 0 0 false 0; omega
      have HR4 := hide (rd_dt 0 0 0 0 0 0 false 0 ht4)
      clear ht4
      obtain ⟨k0, k1, k2, k3, k4, k5, k6, k7, k8⟩ := X4.out
      clear k0
      go_wp2_with fail
      refine (i_dtext 0 0 0 0 0 0 false 0 _ (mtab_go HT.out C4.out) (tab_go HP.out C4.out)).mono ?_
      rintro e v5 ⟨rfl, hb⟩
      rw [HT4.out]
      have X5 := hide (dbox_go X4.out hb)
      have C5 := hide (below_go C4.out hb)
      clear hb
      clear k1 k2 k3 k4 k5 k6 k7 k8
      go_wp2_with fail
      refine (i_rdate t4 _ hz4 (mtab_go HT.out C5.out)).mono ?_
      rintro e v6 ⟨rfl, hb⟩
      have X6 := hide (dbox_go X5.out hb)
      have C6 := hide (below_go C5.out hb)
      clear hb
      rcases HR4.out with ⟨hd4, hv4⟩ | ⟨hd4, hv4⟩
      · exact absurd hd4 (by decide)
      · rw [hv4]
        clear hv4
        have hal := (Below.refl v6.heap.size v6).alloc (Nat.le_refl _) (.cells #[.int .i64 0, .int .i64 0, .int .i64 0, .int .i64 0, .int .i64 0, .int .i64 0, .bool false, .int .i64 0] 25)
        have X7 := hide (dbox_go X6.out hal)
        have Y7 := hide (dbox_new v6 0 0 0 0 0 0 false 0 25)
        have C7 := hide (below_go C6.out hal)
        clear hal
        obtain ⟨k0, k1, k2, k3, k4, k5, k6, k7, k8⟩ := X7.out
        clear k0
        obtain ⟨l0, l1, l2, l3, l4, l5, l6, l7, l8⟩ := Y7.out
        clear l0
        go_wp2
        go_ret
        exact ⟨rfl, C7.out⟩
  · rw [hv]
    clear hv
    have HD := hide hd
    clear hd
    have hal := (Below.refl w4.heap.size w4).alloc (Nat.le_refl _) (.cells #[.int .i64 0, .int .i64 0, .int .i64 0, .int .i64 0, .int .i64 0, .int .i64 0, .bool false, .int .i64 0] 25)
    have D5 := hide (dbox_go D4.out hal)
    have E5 := hide (dbox_new w4 0 0 0 0 0 0 false 0 25)
    have B5 := hide (below_go B4.out hal)
    clear hal
    obtain ⟨k0, k1, k2, k3, k4, k5, k6, k7, k8⟩ := D5.out
    clear k0
    go_wp2_with fail
    refine (s_dtext y mo d h mi s g z _).mono ?_
    rintro e w6 ⟨rfl, hb⟩
    rw [HTT.out]
    have D6 := hide (dbox_go D5.out hb)
    have E6 := hide (dbox_go E5.out hb)
    have B6 := hide (below_go B5.out hb)
    clear hb
    clear k1 k2 k3 k4 k5 k6 k7 k8
    obtain ⟨k0, k1, k2, k3, k4, k5, k6, k7, k8⟩ := D6.out
    clear k0
    go_wp2_with fail
    refine (i_dateok y mo d h mi s g z _ (mtab_go HT.out B6.out)).mono ?_
    rintro e w7 ⟨rfl, hb⟩
    rw [HD.out]
    have D7 := hide (dbox_go D6.out hb)
    have E7 := hide (dbox_go E6.out hb)
    have B7 := hide (below_go B6.out hb)
    clear hb
    clear k1 k2 k3 k4 k5 k6 k7 k8
    obtain ⟨k0, k1, k2, k3, k4, k5, k6, k7, k8⟩ := D7.out
    clear k0
    obtain ⟨l0, l1, l2, l3, l4, l5, l6, l7, l8⟩ := E7.out
    clear l0
    go_wp2_with fail
    refine (d_rdtext a n cap zs _ HL.out HZ.out hn (src_belowD HS.out B7.out)).mono ?_
    rintro e v0 ⟨t2, ht2, rfl, hb⟩
    have C0 := hide (below_go B7.out hb)
    clear hb
    have ht3 : t2.size ≤ 1048576 := by omega
    have HR2 := hide (rd_any t2)
    go_wp2_with fail
    refine (i_rdate t2 _ ht3 (mtab_go HT.out C0.out)).mono ?_
    rintro e v1 ⟨rfl, hb⟩
    have C1 := hide (below_go C0.out hb)
    clear hb
    rcases HR2.out with ⟨y', m', d', h', n', s', g', z', hdx, hv2⟩ | hv2
    · rw [hv2]
      have HV2 := hide hv2
      clear hv2
      have HDX := hide hdx
      clear hdx
      have hal := (Below.refl v1.heap.size v1).alloc (Nat.le_refl _) (.cells #[.int .i64 y', .int .i64 m', .int .i64 d', .int .i64 h', .int .i64 n', .int .i64 s', .bool g', .int .i64 z'] 25)
      have X2 := hide (dbox_new v1 y' m' d' h' n' s' g' z' 25)
      have C2 := hide (below_go C1.out hal)
      clear hal
      go_wp2_with fail
      refine (s_rdate t2 _ ht3).mono ?_
      rintro e v3 ⟨rfl, hb⟩
      rw [HV2.out]
      have X3 := hide (dbox_go X2.out hb)
      have C3 := hide (below_go C2.out hb)
      clear hb
      have hal := (Below.refl v3.heap.size v3).alloc (Nat.le_refl _) (.cells #[.int .i64 y', .int .i64 m', .int .i64 d', .int .i64 h', .int .i64 n', .int .i64 s', .bool g', .int .i64 z'] 25)
      have X4 := hide (dbox_go X3.out hal)
      have C4 := hide (below_go C3.out hal)
      clear hal
      obtain ⟨t4, ht4⟩ : ∃ t4, dtB y' m' d' h' n' s' g' z' = t4 := ⟨_, rfl⟩
      have HT4 := hide ht4
      have hz4 : t4.size ≤ 1048576 := by rw [← ht4]; have := dtB_size y' m' d' h' n' s' g' z'; omega
      have HR4 := hide (rd_dt y' m' d' h' n' s' g' z' ht4)
      clear ht4
      obtain ⟨k0, k1, k2, k3, k4, k5, k6, k7, k8⟩ := X4.out
      clear k0
      go_wp2_with fail
      refine (i_dtext y' m' d' h' n' s' g' z' _ (mtab_go HT.out C4.out) (tab_go HP.out C4.out)).mono ?_
      rintro e v5 ⟨rfl, hb⟩
      rw [HT4.out]
      have X5 := hide (dbox_go X4.out hb)
      have C5 := hide (below_go C4.out hb)
      clear hb
      clear k1 k2 k3 k4 k5 k6 k7 k8
      go_wp2_with fail
      refine (i_rdate t4 _ hz4 (mtab_go HT.out C5.out)).mono ?_
      rintro e v6 ⟨rfl, hb⟩
      have X6 := hide (dbox_go X5.out hb)
      have C6 := hide (below_go C5.out hb)
      clear hb
      rcases HR4.out with ⟨hd4, hv4⟩ | ⟨hd4, hv4⟩
      · rw [hv4]
        clear hv4
        have hal := (Below.refl v6.heap.size v6).alloc (Nat.le_refl _) (.cells #[.int .i64 y', .int .i64 m', .int .i64 d', .int .i64 h', .int .i64 n', .int .i64 s', .bool g', .int .i64 z'] 25)
        have X7 := hide (dbox_go X6.out hal)
        have Y7 := hide (dbox_new v6 y' m' d' h' n' s' g' z' 25)
        have C7 := hide (below_go C6.out hal)
        clear hal
        obtain ⟨k0, k1, k2, k3, k4, k5, k6, k7, k8⟩ := X7.out
        clear k0
        obtain ⟨l0, l1, l2, l3, l4, l5, l6, l7, l8⟩ := Y7.out
        clear l0
        go_wp2
        go_ret
        exact ⟨rfl, C7.out⟩
      · rw [HDX.out] at hd4; cases hd4
    · rw [hv2]
      have HV2 := hide hv2
      clear hv2
      have hal := (Below.refl v1.heap.size v1).alloc (Nat.le_refl _) (.cells #[.int .i64 0, .int .i64 0, .int .i64 0, .int .i64 0, .int .i64 0, .int .i64 0, .bool false, .int .i64 0] 25)
      have X2 := hide (dbox_new v1 0 0 0 0 0 0 false 0 25)
      have C2 := hide (below_go C1.out hal)
      clear hal
      go_wp2_with fail
      refine (s_rdate t2 _ ht3).mono ?_
      rintro e v3 ⟨rfl, hb⟩
      rw [HV2.out]
      have X3 := hide (dbox_go X2.out hb)
      have C3 := hide (below_go C2.out hb)
      clear hb
      have hal := (Below.refl v3.heap.size v3).alloc (Nat.le_refl _) (.cells #[.int .i64 0, .int .i64 0, .int .i64 0, .int .i64 0, .int .i64 0, .int .i64 0, .bool false, .int .i64 0] 25)
      have X4 := hide (dbox_go X3.out hal)
      have C4 := hide (below_go C3.out hal)
      clear hal
      obtain ⟨t4, ht4⟩ : ∃ t4, dtB 0 0 0 0 0 0 false 0 = t4 := ⟨_, rfl⟩
      have HT4 := hide ht4
      have hz4 : t4.size ≤ 1048576 := by rw [← ht4]; have := dtB_size 0 0 0 0 0 0 false 0; omega
      have HR4 := hide (rd_dt 0 0 0 0 0 0 false 0 ht4)
      clear ht4
      obtain ⟨k0, k1, k2, k3, k4, k5, k6, k7, k8⟩ := X4.out
      clear k0
      go_wp2_with fail
      refine (i_dtext 0 0 0 0 0 0 false 0 _ (mtab_go HT.out C4.out) (tab_go HP.out C4.out)).mono ?_
      rintro e v5 ⟨rfl, hb⟩
      rw [HT4.out]
      have X5 := hide (dbox_go X4.out hb)
      have C5 := hide (below_go C4.out hb)
      clear hb
      clear k1 k2 k3 k4 k5 k6 k7 k8
      go_wp2_with fail
      refine (i_rdate t4 _ hz4 (mtab_go HT.out C5.out)).mono ?_
      rintro e v6 ⟨rfl, hb⟩
      have X6 := hide (dbox_go X5.out hb)
      have C6 := hide (below_go C5.out hb)
      clear hb
      rcases HR4.out with ⟨hd4, hv4⟩ | ⟨hd4, hv4⟩
      · exact absurd hd4 (by decide)
      · rw [hv4]
        clear hv4
        have hal := (Below.refl v6.heap.size v6).alloc (Nat.le_refl _) (.cells #[.int .i64 0, .int .i64 0, .int .i64 0, .int .i64 0, .int .i64 0, .int .i64 0, .bool false, .int .i64 0] 25)
        have X7 := hide (dbox_go X6.out hal)
        have Y7 := hide (dbox_new v6 0 0 0 0 0 0 false 0 25)
        have C7 := hide (below_go C6.out hal)
        clear hal
        obtain ⟨k0, k1, k2, k3, k4, k5, k6, k7, k8⟩ := X7.out
        clear k0
        obtain ⟨l0, l1, l2, l3, l4, l5, l6, l7, l8⟩ := Y7.out
        clear l0
        go_wp2
        go_ret
        exact ⟨rfl, C7.out⟩
end Go.Proofs.YtaigicdoepdhnaaDoor
