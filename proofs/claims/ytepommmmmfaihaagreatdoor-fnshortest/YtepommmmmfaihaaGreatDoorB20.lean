/-
  Texts put together: Class5, RxEq, ShX.
-/
import Derived.Test.YtepommmmmfaihaaGreatDoorB4
import Derived.Test.YtepommmmmfaihaaGreatDoorB2
import Derived.Test.YtepommmmmfaihaaGreatDoorB11
import Derived.Test.YtepommmmmfaihaaGreatDoorB13
import Derived.Test.YtepommmmmfaihaaGreatDoorB18
import Derived.Test.YtepommmmmfaihaaGreatDoorB19
/-
  Contracts: the program's ClassHas; a node and its copy are told as alike.
-/
namespace Go.Proofs.YtepommmmmfaihaaGreatDoor
open Go.RowKit Go.Joins
set_option linter.unusedVariables false
set_option linter.unusedSimpArgs false
theorem two_nodes {w w2 : World} {kd kd' : Int} {nt nt' : Bool} {a a' : Option Addr} {n c n' c' : Nat} {A B mn mx A' B' mn' mx' : Int} {T U : TypeId}
    (k : Below ((w.alloc (.cells #[.int .i64 kd, .bool nt, .slice a n c, .int .i64 A, .int .i64 B, .int .i64 mn, .int .i64 mx] T)).alloc (.cells #[.int .i64 kd', .bool nt', .slice a' n' c', .int .i64 A', .int .i64 B', .int .i64 mn', .int .i64 mx'] U)).heap.size
      ((w.alloc (.cells #[.int .i64 kd, .bool nt, .slice a n c, .int .i64 A, .int .i64 B, .int .i64 mn, .int .i64 mx] T)).alloc (.cells #[.int .i64 kd', .bool nt', .slice a' n' c', .int .i64 A', .int .i64 B', .int .i64 mn', .int .i64 mx'] U)) w2) :
    NodeAt w2 w.heap.size kd nt a n c A B mn mx ∧ NodeAt w2 (w.heap.size + 1) kd' nt' a' n' c' A' B' mn' mx' ∧ Below w.heap.size w w2 := by
  have h1 := nodeAt_new w kd nt a n c A B mn mx T
  have h2 := nodeAt_new (w.alloc (.cells #[.int .i64 kd, .bool nt, .slice a n c, .int .i64 A, .int .i64 B, .int .i64 mn, .int .i64 mx] T)) kd' nt' a' n' c' A' B' mn' mx' U
  have st : ∀ (x : World) (o : Obj), Below x.heap.size x (x.alloc o) := fun x o => (Below.refl _ _).alloc (Nat.le_refl _) _
  refine ⟨nodeAt_go (nodeAt_go h1 (st _ _)) k, ?_, ?_⟩
  · have := nodeAt_go h2 k
    simpa using this
  · exact (((Below.refl w.heap.size w).alloc (Nat.le_refl _) _).alloc (by simp) _).trans (k.mono (by simp; omega))
end Go.Proofs.YtepommmmmfaihaaGreatDoor

/-
  Contracts: two rows of nodes that are alike are told so.
-/
namespace Go.Proofs.YtepommmmmfaihaaGreatDoor
open Go.RowKit Go.Joins
set_option linter.unusedVariables false
set_option linter.unusedSimpArgs false
def EQN (w w' : World) (b o b' o' : Nat) (X : Rx) (k : Nat) (ad : Option Addr) (cp : Nat) (ad' : Option Addr) (cp' : Nat) : Prop := Below w.heap.size w w' ∧ (b < w.heap.size ∧ b' < w.heap.size) ∧
  RxCells w' b o X k ad cp ∧ RxCells w' b' o' X k ad' cp' ∧ RngAt w' ad (X.NR k) (X.L k) (X.H k) w.heap.size ∧ RngAt w' ad' (X.NR k) (X.L k) (X.H k) w.heap.size
section
variable {w w1 w2 : World} {b o b' o' : Nat} {X : Rx} {k : Nat} {ad : Option Addr} {cp : Nat} {ad' : Option Addr} {cp' : Nat}
theorem eqn_go (x : EQN w w1 b o b' o' X k ad cp ad' cp') (h : Below w1.heap.size w1 w2) : EQN w w2 b o b' o' X k ad cp ad' cp' := by
  obtain ⟨hb, ⟨h1, h2⟩, c1, c2, r1, r2⟩ := x
  have hh := h.mono hb.size
  exact ⟨hb.trans hh, ⟨h1, h2⟩, rxCells_go c1 h1 hh, rxCells_go c2 h2 hh, rngAt_go r1 hh, rngAt_go r2 hh⟩
theorem eqn_drew (x : EQN w w1 b o b' o' X k ad cp ad' cp') : EQN w w1.drew b o b' o' X k ad cp ad' cp' := eqn_go x ⟨rfl, rfl, rfl, Nat.le_refl _, fun _ _ => rfl⟩
theorem eqn_all (x : EQN w w1 b o b' o' X k ad cp ad' cp') : EQN w w1 b o b' o' X k ad cp ad' cp' ∧ (w1.cell? ⟨b, o, none⟩ = some (.int .i64 (X.K k)) ∧ w1.cell? ⟨b, o + 1, none⟩ = some (.bool (X.NT k)) ∧ w1.cell? ⟨b, o + 2, none⟩ = some (.slice ad (X.NR k) cp) ∧ w1.cell? ⟨b, o + 3, none⟩ = some (.int .i64 (X.A k)) ∧ w1.cell? ⟨b, o + 4, none⟩ = some (.int .i64 (X.B k)) ∧ w1.cell? ⟨b, o + 5, none⟩ = some (.int .i64 (X.MN k)) ∧ w1.cell? ⟨b, o + 6, none⟩ = some (.int .i64 (X.MX k))) ∧ w1.cell? ⟨b', o', none⟩ = some (.int .i64 (X.K k)) ∧ w1.cell? ⟨b', o' + 1, none⟩ = some (.bool (X.NT k)) ∧ w1.cell? ⟨b', o' + 2, none⟩ = some (.slice ad' (X.NR k) cp') ∧ w1.cell? ⟨b', o' + 3, none⟩ = some (.int .i64 (X.A k)) ∧ w1.cell? ⟨b', o' + 4, none⟩ = some (.int .i64 (X.B k)) ∧ w1.cell? ⟨b', o' + 5, none⟩ = some (.int .i64 (X.MN k)) ∧ w1.cell? ⟨b', o' + 6, none⟩ = some (.int .i64 (X.MX k)) := ⟨x, x.2.2.1, x.2.2.2.1⟩
theorem eqn_r1 (x : EQN w w1 b o b' o' X k ad cp ad' cp') : RngAt w1 ad (X.NR k) (X.L k) (X.H k) w1.heap.size := rngAt_up x.2.2.2.2.1 x.1.size
theorem eqn_r2 (x : EQN w w1 b o b' o' X k ad cp ad' cp') : RngAt w1 ad' (X.NR k) (X.L k) (X.H k) w1.heap.size := rngAt_up x.2.2.2.2.2 x.1.size
end
end Go.Proofs.YtepommmmmfaihaaGreatDoor

/-
  Contracts: the shortest text of an expression, by the specification and by the program.
-/
namespace Go.Proofs.YtepommmmmfaihaaGreatDoor
open Go.RowKit Go.Joins
set_option linter.unusedVariables false
set_option linter.unusedSimpArgs false
set_option maxHeartbeats 1000000 in
theorem s_of0 (a : Option Addr) (cap : Nat) (w : World) :
    Calls Tryz.prog 14 #[.slice a 0 cap] w fun e w' => e = .returned (.tuple #[.string (resT (goR [] [])), .bool (resB (goR [] []))]) ∧ Below w.heap.size w w' := by
  have hown := World.ownsRow_made (base := w.heap.size) (e := 5) (size := 1) w #[] 0 (Nat.le_refl _) (Nat.zero_le _) rfl
  have hcv := conv_own (acc := []) hown
  simp only [List.length_nil] at hcv
  clear hown
  go_enter Tryz.func14, Tryz.ntmps14
  go_wp2
  go_loopw [4, 5] (fun v i wr => v = .slice (some ⟨w.heap.size, 0, none⟩) 0 0 ∧ i = .int .i64 0 ∧ wr = w.alloc (.cells #[] 5)) (fun _ _ _ => 0)
  case atStart => exact ⟨rfl, rfl, rfl⟩
  case round =>
    obtain ⟨rfl, rfl, rfl⟩ := hrel
    go_wp2
    go_ret2
    exact ⟨rfl, (Below.refl _ _).alloc (Nat.le_refl _) _⟩
theorem s_of_row (a : Option Addr) (n cap : Nat) (xs : List Int) (w : World) (hx : xs.length = n) (hn : n ≤ 1048576) (hr : RowAt .i64 w a xs w.heap.size) :
    Calls Tryz.prog 14 #[.slice a n cap] w fun e w' => e = .returned (.tuple #[.string (resT (goR [] xs)), .bool (resB (goR [] xs))]) ∧ Below w.heap.size w w' := by
  by_cases h0 : xs = []
  · subst h0
    subst hx
    exact s_of0 a cap w
  · obtain ⟨b, off, rfl, hb, hc⟩ := hr h0
    exact s_of b off n cap xs w hx hn hb (fun j hj => hc j (by omega))
theorem rx_ok {X : Rx} (h : rxB X = true) : (1 ≤ X.len ∧ X.len ≤ 120) ∧ NdOk X X.len ∧ trX X (X.len - 1) = some 0 := by
  unfold rxB at h
  rw [Bool.and_eq_true, Bool.and_eq_true, Bool.and_eq_true, decide_eq_true_iff, decide_eq_true_iff, decide_eq_true_iff, List.all_eq_true] at h
  obtain ⟨h1, h2, h3, h4⟩ := h
  refine ⟨h1, fun j hj => ?_, h3⟩
  have hn := h2 j (by simpa using hj)
  refine ⟨fun h5 => node_cnt hn h5, fun k2 => ?_, ?_⟩
  · unfold nodeX nodeB at hn
    rw [if_neg (by omega), if_pos k2, Bool.and_eq_true] at hn
    have hr := hn.1
    unfold rowB at hr
    rw [Bool.and_eq_true, decide_eq_true_iff] at hr
    refine ⟨hr.1.1, hr.1.2, fun i hi => ?_⟩
    have hg := hr.2
    unfold rgsB at hg
    rw [List.all_eq_true] at hg
    have hx := hg i (by simpa using hi)
    unfold rgB at hx
    rw [Bool.and_eq_true, Bool.and_eq_true, decide_eq_true_iff] at hx
    exact ⟨hx.1, hx.2.1, hx.2.2⟩
  · unfold nodeX nodeB at hn
    by_cases k1 : X.K j = 1
    · exact .inl k1
    · rw [if_neg k1] at hn
      by_cases k2 : X.K j = 2
      · exact .inr (.inl k2)
      · rw [if_neg k2] at hn
        by_cases k3 : X.K j = 3 ∨ X.K j = 4
        · rcases k3 with k | k
          · exact .inr (.inr (.inl k))
          · exact .inr (.inr (.inr (.inl k)))
        · rw [if_neg k3] at hn
          by_cases k5 : X.K j = 5
          · exact .inr (.inr (.inr (.inr k5)))
          · rw [if_neg k5] at hn
            cases hn
theorem rx_nd {X : Rx} (h : rxB X = true) : ∀ j, j < X.len → nodeX X j = true := by
  unfold rxB at h
  rw [Bool.and_eq_true, Bool.and_eq_true, Bool.and_eq_true, decide_eq_true_iff, decide_eq_true_iff, decide_eq_true_iff, List.all_eq_true] at h
  exact fun j hj => h.2.1 j (by simpa using hj)
/-- The shortest text of an expression. -/
noncomputable def shT (X : Rx) : ByteArray := if rxB X = true then (match shX X (X.len - 1) with | some p => resT (goR [] p) | none => ⟨#[]⟩) else ⟨#[]⟩
noncomputable def shB (X : Rx) : Bool := if rxB X = true then (match shX X (X.len - 1) with | some p => resB (goR [] p) | none => false) else false
theorem sh_wrong {X : Rx} (h : rxB X = false) : shT X = ⟨#[]⟩ ∧ shB X = false := by unfold shT shB; rw [h]; exact ⟨rfl, rfl⟩
theorem sh_none {X : Rx} (h : rxB X = true) (h2 : shX X (X.len - 1) = none) : shT X = ⟨#[]⟩ ∧ shB X = false := by unfold shT shB; rw [h, h2]; exact ⟨rfl, rfl⟩
theorem sh_some {X : Rx} {p : List Int} (h : rxB X = true) (h2 : shX X (X.len - 1) = some p) : shT X = resT (goR [] p) ∧ shB X = resB (goR [] p) := by unfold shT shB; rw [h, h2]; exact ⟨rfl, rfl⟩
theorem ret_2s {a b : ByteArray} {x y : Bool} (h : a = b) (h2 : x = y) : Ending.returned (.tuple #[.string a, .bool x]) = .returned (.tuple #[.string b, .bool y]) := by rw [h, h2]
theorem ir_rowAt {B : Nat} {w : World} {ad : Option Addr} {c : Nat} {L : List Int} (h : IR B w ad c L) : RowAt .i64 w ad L w.heap.size := by
  intro hne
  have h0 : 0 < L.length := List.length_pos_iff.2 hne
  obtain ⟨g, rfl, hg, -⟩ := ir_at h 0 h0
  refine ⟨g, 0, rfl, hg, fun j hj => ?_⟩
  obtain ⟨g2, e, -, hc⟩ := ir_at h j hj
  simp only [Option.some.injEq, Addr.mk.injEq] at e
  rw [e.1, Nat.zero_add]
  exact hc
set_option maxHeartbeats 4000000 in
theorem s_shortest (X : Rx) (len : Nat) (a : Option Addr) (cap : Nat) (w : World) (hX : X.len = len) (hlen : len ≤ maxLen) (hnr : ∀ j, j < len → X.NR j ≤ maxLen) (hr : RxAt w a X w.heap.size) :
    Calls Tryz.prog 17 #[.slice a len cap] w fun e w' => e = .returned (.tuple #[.string (shT X), .bool (shB X)]) ∧ Below w.heap.size w w' := by
  have C := hide (s_regex X len a cap w hX hlen hnr hr)
  have HR := hide hr
  have HX := hide hX
  cases hb : rxB X
  · have HV := hide (sh_wrong hb)
    rw [hb] at C
    clear hr hnr hX hb hlen
    go_enter Tryz.func17, Tryz.ntmps17
    go_wp2_with (go_at_call 25; refine C.out.mono ?_; rintro e w2 ⟨rfl, hb2⟩; have HB2 := hide hb2; clear hb2)
    go_ret2
    exact ⟨ret_2s HV.out.1.symm HV.out.2.symm, HB2.out⟩
  · obtain ⟨h1, h2, h3⟩ := rx_ok hb
    have h4 := rx_nd hb
    rw [hX] at h1 h2 h3 h4
    have HV0 := hide (sh_none hb)
    have HV1 := hide (fun p => sh_some (p := p) hb)
    rw [hX] at HV0 HV1
    obtain ⟨b, off, rfl, hbw, hrow⟩ := hr (by omega)
    have hi : (len : Int) - 1 = ((len - 1 : Nat) : Int) := by omega
    have CT : Hid (∀ w2, Below w.heap.size w w2 → Calls Tryz.prog 36 #[.slice (some ⟨b, off, none⟩) len cap, .int .i64 ((len : Int) - 1)] w2 (ShAns X (len - 1) 40000 w2)) := hide (fun w2 h => by
      rw [hi]
      exact sp_more (s_short X len hX h1.2 h2 h4 b off cap len (len - 1) 0 (by omega) (by omega) h3 w2 (Nat.lt_of_lt_of_le hbw h.size) (rxRow_up (rxRow_go hrow hbw h) h.size)) (by omega))
    rw [hb] at C
    have hl1 : (1 : Int) ≤ len := by omega
    have hl2 : (len : Int) ≤ 120 := by omega
    clear hr hnr hX hb hrow hi h3 h2 hlen h4
    go_enter Tryz.func17, Tryz.ntmps17
    go_wp2_with (go_at_call 25; refine C.out.mono ?_; rintro e w2 ⟨rfl, hb2⟩; have HB2 := hide hb2; clear hb2)
    refine (CT.out _ HB2.out).mono ?_
    rintro e w3 ⟨a3, c3, m3, M3, o3, rfl, hm3, hv3, hl3, hi3, hb3⟩
    have HB3 := hide (HB2.out.trans (hb3.mono HB2.out.size))
    have HI3 := hide (ir_rowAt hi3)
    have HV3 := hide hv3
    have HM3 := hide hm3
    clear hi3 hb3 hv3 hm3
    cases o3
    · have HF := hide (HV0.out (shv_f HV3.out))
      go_wp2
      go_ret2
      exact ⟨ret_2s HF.out.1.symm HF.out.2.symm, HB3.out⟩
    · have HF := hide (HV1.out _ (shv_t HV3.out))
      have CO := hide (s_of_row a3 m3 c3 M3 w3 HM3.out.symm (by omega) HI3.out)
      go_wp2_with (go_at_call 14; refine CO.out.mono ?_; rintro e w4 ⟨rfl, hb4⟩; have HB4 := hide (HB3.out.trans (hb4.mono HB3.out.size)); clear hb4)
      go_ret2
      exact ⟨ret_2s HF.out.1.symm HF.out.2.symm, HB4.out⟩
set_option maxHeartbeats 4000000 in
theorem i_shortest (X : Rx) (len : Nat) (a : Option Addr) (cap : Nat) (w : World) (hX : X.len = len) (hlen : len ≤ maxLen) (hnr : ∀ j, j < len → X.NR j ≤ maxLen) (hr : RxAt w a X w.heap.size) :
    Calls Tryz.prog 16 #[.slice a len cap] w fun e w' => e = .returned (.tuple #[.string (shT X), .bool (shB X)]) ∧ Below w.heap.size w w' := by
  have C := hide (i_regex X len a cap w hX hlen hnr hr)
  have HR := hide hr
  have HX := hide hX
  cases hb : rxB X
  · have HV := hide (sh_wrong hb)
    rw [hb] at C
    clear hr hnr hX hb hlen
    go_enter Tryz.func16, Tryz.ntmps16
    go_wp2_with (go_at_call 22; refine C.out.mono ?_; rintro e w2 ⟨rfl, hb2⟩; have HB2 := hide hb2; clear hb2)
    go_ret2
    exact ⟨ret_2s HV.out.1.symm HV.out.2.symm, HB2.out⟩
  · obtain ⟨h1, h2, h3⟩ := rx_ok hb
    have h4 := rx_nd hb
    rw [hX] at h1 h2 h3 h4
    have HV0 := hide (sh_none hb)
    have HV1 := hide (fun p => sh_some (p := p) hb)
    rw [hX] at HV0 HV1
    obtain ⟨b, off, rfl, hbw, hrow⟩ := hr (by omega)
    have hi : (len : Int) - 1 = ((len - 1 : Nat) : Int) := by omega
    have CT : Hid (∀ w2, Below w.heap.size w w2 → Calls Tryz.prog 34 #[.slice (some ⟨b, off, none⟩) len cap, .int .i64 ((len : Int) - 1)] w2 (ShAns X (len - 1) 40000 w2)) := hide (fun w2 h => by
      rw [hi]
      exact sp_more (i_short X len hX h1.2 h2 b off cap len (len - 1) 0 (by omega) (by omega) h3 w2 (Nat.lt_of_lt_of_le hbw h.size) (rxRow_up (rxRow_go hrow hbw h) h.size)) (by omega))
    rw [hb] at C
    have hl1 : (1 : Int) ≤ len := by omega
    have hl2 : (len : Int) ≤ 120 := by omega
    clear hr hnr hX hb hrow hi h3 h2 hlen h4
    go_enter Tryz.func16, Tryz.ntmps16
    go_wp2_with (go_at_call 22; refine C.out.mono ?_; rintro e w2 ⟨rfl, hb2⟩; have HB2 := hide hb2; clear hb2)
    refine (CT.out _ HB2.out).mono ?_
    rintro e w3 ⟨a3, c3, m3, M3, o3, rfl, hm3, hv3, hl3, hi3, hb3⟩
    have HB3 := hide (HB2.out.trans (hb3.mono HB2.out.size))
    have HI3 := hide (ir_rowAt hi3)
    have HV3 := hide hv3
    have HM3 := hide hm3
    clear hi3 hb3 hv3 hm3
    cases o3
    · have HF := hide (HV0.out (shv_f HV3.out))
      go_wp2
      go_ret2
      exact ⟨ret_2s HF.out.1.symm HF.out.2.symm, HB3.out⟩
    · have HF := hide (HV1.out _ (shv_t HV3.out))
      have CO := hide (i_of_row a3 m3 c3 M3 w3 HM3.out.symm (by omega) HI3.out)
      go_wp2_with (go_at_call 35; refine CO.out.mono ?_; rintro e w4 ⟨rfl, hb4⟩; have HB4 := hide (HB3.out.trans (hb4.mono HB3.out.size)); clear hb4)
      go_ret2
      exact ⟨ret_2s HF.out.1.symm HF.out.2.symm, HB4.out⟩
end Go.Proofs.YtepommmmmfaihaaGreatDoor
