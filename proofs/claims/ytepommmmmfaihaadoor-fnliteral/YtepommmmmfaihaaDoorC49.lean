/-
  Texts put together: ShX, DmA.
-/
import Derived.Test.YtepommmmmfaihaaDoorC47
import Derived.Test.YtepommmmmfaihaaDoorC48
import Derived.Test.YtepommmmmfaihaaDoorC24
import Derived.Test.YtepommmmmfaihaaDoorC4
import Derived.Test.YtepommmmmfaihaaDoorC30
import Derived.Test.YtepommmmmfaihaaDoorC43
import Derived.Test.YtepommmmmfaihaaDoorC32
/-
  Contracts: the shortest text of an expression, by the specification and by the program.
-/
namespace Go.Proofs.YtepommmmmfaihaaDoor
open Go.RowKit Go.Joins
set_option linter.unusedVariables false
set_option linter.unusedSimpArgs false
set_option maxHeartbeats 1000000 in
theorem s_of0 (a : Option Addr) (cap : Nat) (w : World) :
    Calls Tryd.prog 33 #[.slice a 0 cap] w fun e w' => e = .returned (.tuple #[.string (resT (goR [] [])), .bool (resB (goR [] []))]) ∧ Below w.heap.size w w' := by
  have hown := World.ownsRow_made (base := w.heap.size) (e := 5) (size := 1) w #[] 0 (Nat.le_refl _) (Nat.zero_le _) rfl
  have hcv := conv_own (acc := []) hown
  simp only [List.length_nil] at hcv
  clear hown
  go_enter Tryd.func33, Tryd.ntmps33
  go_wp2
  go_loopw [4, 5] (fun v i wr => v = .slice (some ⟨w.heap.size, 0, none⟩) 0 0 ∧ i = .int .i64 0 ∧ wr = w.alloc (.cells #[] 5)) (fun _ _ _ => 0)
  case atStart => exact ⟨rfl, rfl, rfl⟩
  case round =>
    obtain ⟨rfl, rfl, rfl⟩ := hrel
    go_wp2
    go_ret2
    exact ⟨rfl, (Below.refl _ _).alloc (Nat.le_refl _) _⟩
theorem s_of_row (a : Option Addr) (n cap : Nat) (xs : List Int) (w : World) (hx : xs.length = n) (hn : n ≤ 1048576) (hr : RowAt .i64 w a xs w.heap.size) :
    Calls Tryd.prog 33 #[.slice a n cap] w fun e w' => e = .returned (.tuple #[.string (resT (goR [] xs)), .bool (resB (goR [] xs))]) ∧ Below w.heap.size w w' := by
  by_cases h0 : xs = []
  · subst h0
    subst hx
    exact s_of0 a cap w
  · obtain ⟨b, off, rfl, hb, hc⟩ := hr h0
    exact s_of b off n cap xs w hx hn hb (fun j hj => hc j (by omega))
theorem rx_ok {X : Rx} (h : rxB X = true) : (1 ≤ X.len ∧ X.len ≤ 120) ∧ NdOk X X.len ∧ trX X (X.len - 1) = some 0 := by
  unfold rxB at h
  rw [Bool.and_eq_true, Bool.and_eq_true, Bool.and_eq_true, decide_eq_true_iff, decide_eq_true_iff, decide_eq_true_iff, List.all_eq_true] at h
  obtain ⟨h1, h2, h3, h4⟩ := h
  refine ⟨h1, fun j hj => ?_, h3⟩
  have hn := h2 j (by simpa using hj)
  refine ⟨fun h5 => node_cnt hn h5, fun k2 => ?_, ?_⟩
  · unfold nodeX nodeB at hn
    rw [if_neg (by omega), if_pos k2, Bool.and_eq_true] at hn
    have hr := hn.1
    unfold rowB at hr
    rw [Bool.and_eq_true, decide_eq_true_iff] at hr
    refine ⟨hr.1.1, hr.1.2, fun i hi => ?_⟩
    have hg := hr.2
    unfold rgsB at hg
    rw [List.all_eq_true] at hg
    have hx := hg i (by simpa using hi)
    unfold rgB at hx
    rw [Bool.and_eq_true, Bool.and_eq_true, decide_eq_true_iff] at hx
    exact ⟨hx.1, hx.2.1, hx.2.2⟩
  · unfold nodeX nodeB at hn
    by_cases k1 : X.K j = 1
    · exact .inl k1
    · rw [if_neg k1] at hn
      by_cases k2 : X.K j = 2
      · exact .inr (.inl k2)
      · rw [if_neg k2] at hn
        by_cases k3 : X.K j = 3 ∨ X.K j = 4
        · rcases k3 with k | k
          · exact .inr (.inr (.inl k))
          · exact .inr (.inr (.inr (.inl k)))
        · rw [if_neg k3] at hn
          by_cases k5 : X.K j = 5
          · exact .inr (.inr (.inr (.inr k5)))
          · rw [if_neg k5] at hn
            cases hn
theorem rx_nd {X : Rx} (h : rxB X = true) : ∀ j, j < X.len → nodeX X j = true := by
  unfold rxB at h
  rw [Bool.and_eq_true, Bool.and_eq_true, Bool.and_eq_true, decide_eq_true_iff, decide_eq_true_iff, decide_eq_true_iff, List.all_eq_true] at h
  exact fun j hj => h.2.1 j (by simpa using hj)
/-- The shortest text of an expression. -/
noncomputable def shT (X : Rx) : ByteArray := if rxB X = true then (match shX X (X.len - 1) with | some p => resT (goR [] p) | none => ⟨#[]⟩) else ⟨#[]⟩
noncomputable def shB (X : Rx) : Bool := if rxB X = true then (match shX X (X.len - 1) with | some p => resB (goR [] p) | none => false) else false
theorem sh_wrong {X : Rx} (h : rxB X = false) : shT X = ⟨#[]⟩ ∧ shB X = false := by unfold shT shB; rw [h]; exact ⟨rfl, rfl⟩
theorem sh_none {X : Rx} (h : rxB X = true) (h2 : shX X (X.len - 1) = none) : shT X = ⟨#[]⟩ ∧ shB X = false := by unfold shT shB; rw [h, h2]; exact ⟨rfl, rfl⟩
theorem sh_some {X : Rx} {p : List Int} (h : rxB X = true) (h2 : shX X (X.len - 1) = some p) : shT X = resT (goR [] p) ∧ shB X = resB (goR [] p) := by unfold shT shB; rw [h, h2]; exact ⟨rfl, rfl⟩
theorem ret_2s {a b : ByteArray} {x y : Bool} (h : a = b) (h2 : x = y) : Ending.returned (.tuple #[.string a, .bool x]) = .returned (.tuple #[.string b, .bool y]) := by rw [h, h2]
theorem ir_rowAt {B : Nat} {w : World} {ad : Option Addr} {c : Nat} {L : List Int} (h : IR B w ad c L) : RowAt .i64 w ad L w.heap.size := by
  intro hne
  have h0 : 0 < L.length := List.length_pos_iff.2 hne
  obtain ⟨g, rfl, hg, -⟩ := ir_at h 0 h0
  refine ⟨g, 0, rfl, hg, fun j hj => ?_⟩
  obtain ⟨g2, e, -, hc⟩ := ir_at h j hj
  simp only [Option.some.injEq, Addr.mk.injEq] at e
  rw [e.1, Nat.zero_add]
  exact hc
set_option maxHeartbeats 4000000 in
theorem s_shortest (X : Rx) (len : Nat) (a : Option Addr) (cap : Nat) (w : World) (hX : X.len = len) (hlen : len ≤ maxLen) (hnr : ∀ j, j < len → X.NR j ≤ maxLen) (hr : RxAt w a X w.heap.size) :
    Calls Tryd.prog 20 #[.slice a len cap] w fun e w' => e = .returned (.tuple #[.string (shT X), .bool (shB X)]) ∧ Below w.heap.size w w' := by
  have C := hide (s_regex X len a cap w hX hlen hnr hr)
  have HR := hide hr
  have HX := hide hX
  cases hb : rxB X
  · have HV := hide (sh_wrong hb)
    rw [hb] at C
    clear hr hnr hX hb hlen
    go_enter Tryd.func20, Tryd.ntmps20
    go_wp2_with (go_at_call 31; refine C.out.mono ?_; rintro e w2 ⟨rfl, hb2⟩; have HB2 := hide hb2; clear hb2)
    go_ret2
    exact ⟨ret_2s HV.out.1.symm HV.out.2.symm, HB2.out⟩
  · obtain ⟨h1, h2, h3⟩ := rx_ok hb
    have h4 := rx_nd hb
    rw [hX] at h1 h2 h3 h4
    have HV0 := hide (sh_none hb)
    have HV1 := hide (fun p => sh_some (p := p) hb)
    rw [hX] at HV0 HV1
    obtain ⟨b, off, rfl, hbw, hrow⟩ := hr (by omega)
    have hi : (len : Int) - 1 = ((len - 1 : Nat) : Int) := by omega
    have CT : Hid (∀ w2, Below w.heap.size w w2 → Calls Tryd.prog 32 #[.slice (some ⟨b, off, none⟩) len cap, .int .i64 ((len : Int) - 1)] w2 (ShAns X (len - 1) 40000 w2)) := hide (fun w2 h => by
      rw [hi]
      exact sp_more (s_short X len hX h1.2 h2 h4 b off cap len (len - 1) 0 (by omega) (by omega) h3 w2 (Nat.lt_of_lt_of_le hbw h.size) (rxRow_up (rxRow_go hrow hbw h) h.size)) (by omega))
    rw [hb] at C
    have hl1 : (1 : Int) ≤ len := by omega
    have hl2 : (len : Int) ≤ 120 := by omega
    clear hr hnr hX hb hrow hi h3 h2 hlen h4
    go_enter Tryd.func20, Tryd.ntmps20
    go_wp2_with (go_at_call 31; refine C.out.mono ?_; rintro e w2 ⟨rfl, hb2⟩; have HB2 := hide hb2; clear hb2)
    refine (CT.out _ HB2.out).mono ?_
    rintro e w3 ⟨a3, c3, m3, M3, o3, rfl, hm3, hv3, hl3, hi3, hb3⟩
    have HB3 := hide (HB2.out.trans (hb3.mono HB2.out.size))
    have HI3 := hide (ir_rowAt hi3)
    have HV3 := hide hv3
    have HM3 := hide hm3
    clear hi3 hb3 hv3 hm3
    cases o3
    · have HF := hide (HV0.out (shv_f HV3.out))
      go_wp2
      go_ret2
      exact ⟨ret_2s HF.out.1.symm HF.out.2.symm, HB3.out⟩
    · have HF := hide (HV1.out _ (shv_t HV3.out))
      have CO := hide (s_of_row a3 m3 c3 M3 w3 HM3.out.symm (by omega) HI3.out)
      go_wp2_with (go_at_call 33; refine CO.out.mono ?_; rintro e w4 ⟨rfl, hb4⟩; have HB4 := hide (HB3.out.trans (hb4.mono HB3.out.size)); clear hb4)
      go_ret2
      exact ⟨ret_2s HF.out.1.symm HF.out.2.symm, HB4.out⟩
end Go.Proofs.YtepommmmmfaihaaDoor

/-
  Contracts of the draws: an expression; an expression and a text.
-/
namespace Go.Proofs.YtepommmmmfaihaaDoor
open Go.RowKit Go.Joins
set_option linter.unusedVariables false
set_option linter.unusedSimpArgs false
theorem rg_sM : RgS := fun s w hs => by
  refine (s_readRegex s _ _ w (by omega) rfl rfl).mono ?_
  unfold LtAns
  rintro e w' ⟨ad, c, rfl, hx, hb⟩
  exact ⟨_, _, ad, c, rgV_len _ _, rfl, hx, hb⟩
theorem resT_le (p : List Int) : (resT (goR [] p)).size ≤ 20000 := by
  cases h : goR [] p with
  | none => exact Nat.zero_le _
  | some bs =>
    have h2 := (goR_enc p [] bs h).2.2 (Nat.zero_le _)
    show (strOfNums bs).size ≤ 20000
    have e : (strOfNums bs).size = bs.length := by simp [strOfNums, ByteArray.size]
    omega
theorem shT_le (X : Rx) : (shT X).size ≤ 20000 := by
  unfold shT
  split
  · split
    · exact resT_le _
    · exact Nat.zero_le _
  · exact Nat.zero_le _
theorem xo_nrM {B : Nat} {W : World} {ad : Option Addr} {c : Nat} {V : List Nd} {vn : Nat} (hvn : V.length = vn) (h : XO B (fun j => B ≤ j) W ad c V) : ∀ j, j < vn → (rxOf V).NR j ≤ maxLen := fun j hj => by
  have h9 := xo_at5 h (show j < V.length by rw [hvn]; exact hj)
  show (ndAt V j).L.length ≤ maxLen
  unfold maxLen
  omega
theorem src_goM {w w' : World} {a : Option Addr} {zs : List Int} (h : SrcAt w a zs w.heap.size) (hb : Below w.heap.size w w') : SrcAt w' a zs w'.heap.size := by
  have h2 := src_grown (row := none) h (Nat.le_refl _) ⟨hb.os, hb.tape, hb.output, hb.size, fun k hk _ => hb.block k hk⟩ (fun k e => by cases e)
  intro hne
  obtain ⟨b, off, e, hb2, hc⟩ := h2 hne
  exact ⟨b, off, e, Nat.lt_of_lt_of_le hb2 hb.size, hc⟩
theorem l_bigM (a : Option Addr) (n cap : Nat) (w : World) (h : n ≤ 1048576) : Calls Tryd.prog 4 #[.slice a n cap] w fun e w' => e = .returned (.bool false) ∧ w' = w := by
  have h' : ¬ (1048576 : Int) < (n : Int) := by omega
  go_enter Tryd.func4, Tryd.ntmps4
  go_wp2
  go_ret
  exact ⟨rfl, rfl⟩
set_option maxRecDepth 100000 in
set_option maxHeartbeats 8000000 in
theorem d_drawMatches (a : Option Addr) (n cap : Nat) (zs : List Int) (w : World) (hl : zs.length = n) (hz : ∀ x ∈ zs, 0 ≤ x ∧ x ≤ 255) (hn : n ≤ 1048576) (hs : SrcAt w a zs w.heap.size) :
    Calls Tryd.prog 9 #[.slice a n cap] w fun e w' => ∃ (V : List Nd) (B : Nat) (ad : Option Addr) (c : Nat) (t : ByteArray), V.length ≤ 120 ∧ t.size ≤ 20000 ∧ e = .returned (.tuple #[.slice ad V.length c, .string t]) ∧ XO B (fun j => B ≤ j) w' ad c V ∧ Below w.heap.size w w' := by
  obtain ⟨G, hG⟩ : ∃ G, w.heap.size = G := ⟨_, rfl⟩
  have HS1 := hide hs
  have HL := hide hl
  have HZ := hide hz
  have HG := hide hG
  clear hs hl hz hG
  go_enter Tryd.func9, Tryd.ntmps9
  go_wp2_with fail
  refine (d_open a n cap zs _ HL.out HZ.out hn HS1.out).mono ?_
  rintro e w1 ⟨rfl, hr1, hb1⟩
  rw [HG.out] at hr1 hb1 ⊢
  have R1 := hide hr1
  have B1 := hide hb1
  clear hr1 hb1
  go_wp2_with fail
  refine (d_regex G a n cap zs _ rg_sM R1.out).mono ?_
  rintro e w2 ⟨V, B, ad, c, hv, hgb, rfl, hx, hd⟩
  have B2 := hide (below_drewG B1.out hd (Nat.le_of_lt (rd_lt R1.out)))
  have R2 := hide hd.1
  have X2 := hide hx
  obtain ⟨vn, hvn⟩ : ∃ vn, V.length = vn := ⟨_, rfl⟩
  have HVN := hide hvn
  rw [hvn] at hv ⊢
  clear hx hd hvn
  have hgw : G < w2.heap.size := rd_lt R2.out
  go_wp2_with fail
  refine (d_once G a n cap zs 2 _ (by omega) (by omega) R2.out).mono ?_
  rintro e w3 ⟨ob, rfl, hd⟩
  have X3 := hide (xo_drew X2.out hd hgb (fun j hj => Nat.lt_of_lt_of_le hgb hj))
  have B3 := hide (below_drewG B2.out hd (Nat.le_of_lt hgw))
  have R3 := hide hd.1
  clear hd X2 B2 R2
  cases ob
  · have hgw3 : G < w3.heap.size := rd_lt R3.out
    go_wp2_with fail
    refine (d_below G a n cap zs 7 _ (by omega) (by omega) R3.out).mono ?_
    rintro e w4 ⟨k0, hk0, hk1, rfl, hd⟩
    have X4 := hide (xo_drew X3.out hd hgb (fun j hj => Nat.lt_of_lt_of_le hgb hj))
    have B4 := hide (below_drewG B3.out hd (Nat.le_of_lt hgw3))
    have R4 := hide hd.1
    clear hd X3 B3 R3
    obtain ⟨kk, rfl⟩ : ∃ kk : Nat, k0 = (kk : Int) := ⟨k0.toNat, by omega⟩
    go_wp2
    go_loopw [8, 9] (fun tv kv wr => ∃ (k : Nat) (t : ByteArray), k ≤ 6 ∧ kv = .int .i64 k ∧ tv = .string t ∧ t.size + 2 * k ≤ 14 ∧ Hid (XO B (fun j => B ≤ j) wr ad c V) ∧ Hid (Below G w wr) ∧ Hid (RdAt wr G a n cap zs)) (fun _ kv _ => (intOf kv).toNat)
    case atStart => exact ⟨kk, ⟨#[]⟩, by omega, rfl, rfl, by show 0 + 2 * kk ≤ 14; omega, X4, B4, R4⟩
    case round =>
      clear X4 B4 R4
      obtain ⟨k, t, hk6, rfl, rfl, hts, X, Bl, R⟩ := hrel
      by_cases h0 : 0 < k
      · have h0' : (0 : Int) < (k : Int) := by omega
        have hgwr : G < wr.heap.size := rd_lt R.out
        have hk1 : IntKind.i64.wrap ((k : Int) - 1) = (k : Int) - 1 := by rw [IntKind.wrap_i64]; omega
        go_wp2_with fail
        refine (d_below G a n cap zs 6 _ (by omega) (by omega) (rd_alloc R.out _)).mono ?_
        rintro e w5 ⟨x, hx0, hx1, rfl, hd⟩
        obtain ⟨u, hu, hus⟩ := str_cellG 2 hd.2 hx0 hx1 rfl hgwr (fun q hq => by
          have hq' : q < 6 := hq
          rcases (show q = 0 ∨ q = 1 ∨ q = 2 ∨ q = 3 ∨ q = 4 ∨ q = 5 by omega) with e | e | e | e | e | e <;> subst e <;> exact ⟨_, rfl, by decide⟩)
        have X5 := hide (xo_drew X.out (drew_alloc _ hd) hgb (fun j hj => Nat.lt_of_lt_of_le hgb hj))
        have B5 := hide (below_drewG Bl.out (drew_alloc _ hd) (Nat.le_of_lt hgwr))
        have R5 := hide hd.1
        have hx6 : x < 6 := hx1
        clear hd
        go_wp2
        go_roundw
        case rel => exact ⟨k - 1, t ++ u, by omega, by go_num, rfl, by rw [te_size]; omega, X5, B5, R5⟩
        case measure => simp [intOf]; omega
      · have hkz : k = 0 := by omega
        subst hkz
        go_wp2
        go_ret2
        exact ⟨V, B, ad, c, t, by rw [HVN.out]; exact hv, by omega, by rw [HVN.out] <;> rfl, X.out, by rw [HG.out]; exact Bl.out⟩
  · have hgw3 : G < w3.heap.size := rd_lt R3.out
    have CS := hide (s_shortest (rxOf V) vn ad c w3 HVN.out (by unfold maxLen; omega) (xo_nrM HVN.out X3.out) (xo_rx X3.out))
    have hsz := shT_le (rxOf V)
    obtain ⟨t, ht⟩ : ∃ t, shT (rxOf V) = t := ⟨_, rfl⟩
    rw [ht] at CS hsz
    clear ht
    go_wp2_with (go_at_call 20; refine CS.out.mono ?_; rintro e w4 ⟨rfl, hb4⟩; have X4 := hide (xo_below X3.out hb4); have B4 := hide (B3.out.trans (hb4.mono (Nat.le_of_lt hgw3))); clear hb4)
    go_ret2
    exact ⟨V, B, ad, c, t, by rw [HVN.out]; exact hv, hsz, by rw [HVN.out] <;> rfl, X4.out, by rw [HG.out]; exact B4.out⟩
end Go.Proofs.YtepommmmmfaihaaDoor
