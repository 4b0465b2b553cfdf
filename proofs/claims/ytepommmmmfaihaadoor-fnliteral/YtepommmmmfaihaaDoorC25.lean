/-
  Contract: the machine of an expression; does an expression take a text, by the program?
-/
import Derived.Test.YtepommmmmfaihaaDoorC19
import Derived.Test.YtepommmmmfaihaaDoorC22
import Derived.Test.YtepommmmmfaihaaDoorC24
namespace Go.Proofs.YtepommmmmfaihaaDoor
open Go.RowKit Go.Joins Go.Maps
set_option linter.unusedVariables false
set_option linter.unusedSimpArgs false
theorem ma_two {B R : Nat} {w : World} {v0 v2 v3 : Value} {M : List Sp} (h : MA B w R v0 v2 v3 M) : w.cell? ⟨R, 2, none⟩ = some v2 ∧ w.cell? ⟨R, 3, none⟩ = some v3 := by
  obtain ⟨sa, sc, d0, d1, d2, d3, -⟩ := ma_at h
  exact ⟨d2, d3⟩
theorem ma_nil {w : World} {R B : Nat} {v0 v2 v3 : Value} (hB : B ≤ R) (h : w.heap[R]? = some (.cells #[v0, .slice none 0 0, v2, v3] 61 (0, 0))) : MA B w R v0 v2 v3 [] := ⟨hB, none, 0, h, World.ownsRow_nil _ _ _ _⟩
theorem ma_end {w : World} {R B : Nat} {v0 v2 v3 : Value} {M : List Sp} (h : MA B w R v0 v2 v3 M) (v : Value) : MA B (w.setCell ⟨R, 3, none⟩ v) R v0 v2 v M ∧ Bf B R w (w.setCell ⟨R, 3, none⟩ v) ∧ w.frozen? ⟨R, 3, none⟩ = false := by
  have hl := ma_lt h
  obtain ⟨h0, sa, sc, h1, h2⟩ := h
  have ks : Kp (fun j => j = R) w (w.setCell ⟨R, 3, none⟩ v) := kp_set (S := fun j => j = R) _ _ _ rfl
  refine ⟨⟨h0, sa, sc, heap_setCell_same w R 3 _ _ v h1, own_kp h2 ks (fun j hj => type_ne h2 hj h1 (by decide))⟩, ⟨kp_below ks hl.1 (fun j hj => by have hj' : j = R := hj; omega), ⟨ks.os, ks.tape, ks.output, ks.size, fun j hj hs => ks.block j hj (fun e => hs (.inl e))⟩⟩, mx_frozen h1 3⟩
theorem bf_ps {B R b K : Nat} {w w' : World} {S : Nat → Bool} (h : Bf B R w w') (hp : PS w b S K) (hR : b ≠ R) : PS w' b S K := by
  obtain ⟨es, cl, hm⟩ := ps_map hp
  refine ps_kp hp h.2 ?_
  rintro (e | ⟨cur, hc⟩)
  · exact hR e
  · rw [hm] at hc; cases hc
def RB (w : World) (G : Nat) : Prop := w.heap[G]? = some (.cells #[.slice none 0 0, .slice none 0 0, .map none, .int .i64 0] 61 (0, 0))
theorem rb_bf {B R G : Nat} {w w' : World} (h : Bf B R w w') (hp : RB w G) (hR : G ≠ R) : RB w' G := by
  unfold RB at hp ⊢
  refine (h.2.block G (Array.getElem?_eq_some_iff.1 hp).1 ?_).trans hp
  rintro (e | ⟨cur, hc⟩)
  · exact hR e
  · rw [hp] at hc
    simp only [Option.some.injEq, Obj.cells.injEq] at hc
    exact absurd hc.2.1 (by decide)
theorem rb_kp {G b : Nat} {w w' : World} (h : Kp (fun j => j = b) w w') (hp : RB w G) (hb : ∃ es cl, w.heap[b]? = some (.map es cl)) : RB w' G := by
  unfold RB at hp ⊢
  obtain ⟨es, cl, hb⟩ := hb
  refine (h.block G (Array.getElem?_eq_some_iff.1 hp).1 (fun e => ?_)).trans hp
  have e' : G = b := e
  subst e'
  rw [hp] at hb; cases hb
theorem rb_cells {w : World} {G : Nat} (h : RB w G) : (w.cell? ⟨G, 0, none⟩ = some (.slice none 0 0) ∧ w.cell? ⟨G, 1, none⟩ = some (.slice none 0 0) ∧ w.cell? ⟨G, 2, none⟩ = some (.map none) ∧ w.cell? ⟨G, 3, none⟩ = some (.int .i64 0)) ∧ ∀ i, w.frozen? ⟨G, i, none⟩ = false := by
  have e : ∀ i, w.cell? ⟨G, i, none⟩ = (#[.slice none 0 0, .slice none 0 0, .map none, .int .i64 0] : Array Value)[i]? := fun i => by rw [cell_of_row w G i _ _ (0, 0) h]
  exact ⟨⟨e 0, e 1, e 2, e 3⟩, fun i => frozen_of_row w G i _ _ h⟩
/-- A machine, told: it is that of the expression. -/
def MoA (X : Rx) (v0 : Value) (n : Nat) (w : World) (e : Ending) (w' : World) : Prop := ∃ (p : Nat) (M : List Sp) (sa : Option Addr) (sc : Nat) (S : Nat → Bool), e = .returned (.agg #[v0, .slice sa M.length sc, .map (some (w.heap.size + 1)), .int .i64 0]) ∧ w'.ownsRow (w.heap.size + 2) 97 4 (.slice sa M.length sc) M.length (spV M) ∧ Ent X [⟨true, 0, 0, 0⟩] (fun c => tkX X c n) 0 p M ∧ M.length ≤ 300000 ∧ PS w' (w.heap.size + 1) S M.length ∧ Clo M S ∧ (∀ x, S x = true ↔ Rch M p x) ∧ Below w.heap.size w w' ∧ w.heap.size + 2 ≤ w'.heap.size
set_option maxRecDepth 100000 in
set_option maxHeartbeats 8000000 in
theorem i_machine (X : Rx) (len : Nat) (hX : X.len = len) (hlen : len ≤ 120) (hl1 : 1 ≤ len) (b off cap : Nat) (w : World) (CE : ∀ B, EnC X len b off cap B (len - 1)) (hts : 1 + tsX X (len - 1) ≤ 300000) (hr : RxRow w b off X w.heap.size) (hb : b < w.heap.size) :
    Calls Tryd.prog 23 #[.slice (some ⟨b, off, none⟩) len cap] w (MoA X (.slice (some ⟨b, off, none⟩) len cap) (len - 1) w) := by
  have hmm := @run_makeMap Tryd.prog
  have HR := hide hr
  have HCE := hide CE
  have e1 : ((w.alloc (.cells #[.slice none 0 0, .slice none 0 0, .map none, .int .i64 0] 61)).alloc (.map #[] 0)).heap.size = w.heap.size + 2 := by simp
  have e0 : (w.alloc (.cells #[.slice none 0 0, .slice none 0 0, .map none, .int .i64 0] 61)).heap.size = w.heap.size + 1 := by simp
  have HA0 := hide (((((Below.refl w.heap.size w).alloc (Nat.le_refl _) (.cells #[.slice none 0 0, .slice none 0 0, .map none, .int .i64 0] 61)).alloc (by simp) (.map #[] 0)).alloc (by simp; omega) (.cells #[.slice (some ⟨b, off, none⟩) len cap, .slice none 0 0, .map (some (w.heap.size + 1)), .int .i64 0] 61)))
  have HM0 : Hid (MA (w.heap.size + 2) (((w.alloc (.cells #[.slice none 0 0, .slice none 0 0, .map none, .int .i64 0] 61)).alloc (.map #[] 0)).alloc (.cells #[.slice (some ⟨b, off, none⟩) len cap, .slice none 0 0, .map (some (w.heap.size + 1)), .int .i64 0] 61)) (w.heap.size + 2) (.slice (some ⟨b, off, none⟩) len cap) (.map (some (w.heap.size + 1))) (.int .i64 0) []) := hide (ma_nil (Nat.le_refl _) (by
    have := heap_alloc_new ((w.alloc (.cells #[.slice none 0 0, .slice none 0 0, .map none, .int .i64 0] 61)).alloc (.map #[] 0)) (.cells #[.slice (some ⟨b, off, none⟩) len cap, .slice none 0 0, .map (some (w.heap.size + 1)), .int .i64 0] 61)
    rw [e1] at this
    exact this))
  have HP0 : Hid (∀ K, PS (((w.alloc (.cells #[.slice none 0 0, .slice none 0 0, .map none, .int .i64 0] 61)).alloc (.map #[] 0)).alloc (.cells #[.slice (some ⟨b, off, none⟩) len cap, .slice none 0 0, .map (some (w.heap.size + 1)), .int .i64 0] 61)) (w.heap.size + 1) (fun _ => false) K) := hide (fun K => by
    have := World.ownsMap_made (H := Unit) (w.alloc (.cells #[.slice none 0 0, .slice none 0 0, .map none, .int .i64 0] 61)) Tryd.prog 2 unitElem
    rw [e0] at this
    exact ps_kp (ps_made this) (kp_alloc (S := fun _ => False) _ _) (fun e => e))
  have HX0 : Hid ((((w.alloc (.cells #[.slice none 0 0, .slice none 0 0, .map none, .int .i64 0] 61)).alloc (.map #[] 0)).alloc (.cells #[.slice (some ⟨b, off, none⟩) len cap, .slice none 0 0, .map (some (w.heap.size + 1)), .int .i64 0] 61)).heap[w.heap.size]? = some (.cells #[.slice none 0 0, .slice none 0 0, .map none, .int .i64 0] 61 (0, 0))) := hide (by
    have h1 := heap_alloc_new w (.cells #[.slice none 0 0, .slice none 0 0, .map none, .int .i64 0] 61)
    exact (((kp_alloc (S := fun _ => False) _ _).trans (kp_alloc (S := fun _ => False) _ _) (fun _ _ e => e)).block w.heap.size (by simp) (fun e => e)).trans h1)
  clear e1 e0 hr CE
  obtain ⟨B, hBe⟩ : ∃ B, w.heap.size + 2 = B := ⟨_, rfl⟩
  have HBe := hide hBe
  rw [hBe] at HM0
  clear hBe
  go_enter Tryd.func23, Tryd.ntmps23
  go_wp2_with fail
  rw [show w.heap.size + 1 + 1 = w.heap.size + 2 from rfl, HBe.out]
  refine (i_addFork B B _ _ _ [] 0 _ rfl (by omega) HM0.out).mono ?_
  rintro e w1 ⟨rfl, hm1, hb1⟩
  have hBw := HBe.out
  have HP1 := hide (fun K => bf_ps hb1 (HP0.out K) (by omega))
  have HX1 := hide (rb_bf hb1 HX0.out (by omega))
  have HM1 := hide hm1
  have HB1 := hide (HA0.out.trans (hb1.1.mono (by omega)))
  obtain ⟨d2, d3⟩ := ma_two hm1
  obtain ⟨hm2, hb2, hf2⟩ := ma_end hm1 (.int .i64 0)
  have HM2 := hide hm2
  have HB2 := hide (HB1.out.trans (hb2.1.mono (by omega)))
  have HP2 := hide (fun K => bf_ps hb2 (HP1.out K) (by omega))
  have HX2 := hide (rb_bf hb2 HX1.out (by omega))
  have hlw : w1.heap.size = w1.heap.size := rfl
  clear hm1 hb1 hm2 hb2 hmm hlw
  go_wp2_with fail
  obtain ⟨W2, hW2⟩ : ∃ W2, w1.setCell ⟨B, 3, none⟩ (.int .i64 0) = W2 := ⟨_, rfl⟩
  rw [hW2] at HM2 HB2 HP2 HX2
  rw [hW2]
  clear hW2 hf2 d2 d3
  have hbB : b < B := by omega
  have hBW : B ≤ W2.heap.size := (ma_lt HM2.out).1
  have hi : (len : Int) - 1 = ((len - 1 : Nat) : Int) := by omega
  have CEN : Hid (∀ W, Bf B B W2 W → MA B W B (.slice (some ⟨b, off, none⟩) len cap) (.map (some (w.heap.size + 1))) (.int .i64 0) [⟨true, 0, 0, 0⟩] → Calls Tryd.prog 39 #[.pointer (some ⟨B, 0, none⟩), .int .i64 ((len : Int) - 1), .int .i64 0] W (EnA X B B (.slice (some ⟨b, off, none⟩) len cap) (.map (some (w.heap.size + 1))) (.int .i64 0) [⟨true, 0, 0, 0⟩] (len - 1) 0 W)) := hide (fun W h1 h2 => by
    rw [hi]
    exact HCE.out B B _ _ _ 0 W (rxRow_go (rxRow_up (rxRow_go HR.out hb HB2.out) (by omega)) hbB h1.1) hbB h2 (by simp) (by simp) (by simp; omega))
  have CRE := hide (fun M K hM hK hW p W (hp : p < K) (hm : MA B W B (.slice (some ⟨b, off, none⟩) len cap) (.map (some (w.heap.size + 1))) (.int .i64 0) M) (hps : PS W (w.heap.size + 1) (fun _ => false) K) => i_reach X B B _ _ _ M K (w.heap.size + 1) hM hK hW (K + 1) (fun _ => false) p W (by rw [nf_none]; omega) hp hm hps)
  have HS0 := hide (ma_two HM2.out)
  have HD := hide (bf_drew (bf_refl B B W2))
  have hwz : IntKind.i64.wrap ((len : Int) - 1) = (len : Int) - 1 := by rw [IntKind.wrap_i64]; omega
  have hl1i : (1 : Int) ≤ (len : Int) := by omega
  have hl2i : (len : Int) ≤ 120 := by omega
  clear hi hBw
  go_region_held3 (fun w' => w'.cell? ⟨B, 2, none⟩ = some (.map (some (w.heap.size + 1))) ∧ w'.cell? ⟨B, 3, none⟩ = some (.int .i64 0)) (first | assumption | exact HS5.out | exact HS4.out | exact HS0.out) (first | (go_at_call 39; refine (CEN.out _ HD.out (ma_drew HM2.out)).mono ?_; rintro e w4 ⟨p4, M4, rfl, he4, hl4, hm4, hb4⟩; have hq4 := (ent_len he4).2; have HE4 := hide he4; have HL4 := hide hl4; have HM4 := hide hm4; have HS4 := hide (ma_two hm4); have HB4 := hide (bf_trans HD.out hb4); have HP4 := hide (fun K => bf_ps HB4.out (HP2.out K) (by have := HBe.out; omega)); have HX4 := hide (rb_bf HB4.out HX2.out (by have := HBe.out; omega)); clear he4 hl4 hm4 hb4) | (go_at_call 38; refine (CRE.out M4 M4.length rfl (by have := HL4.out; simp at this; omega) (HE4.out.2.2.2 (by simp) (wf_one X)) p4 _ hq4 HM4.out (HP4.out _)).mono ?_; rintro e w5 ⟨rfl, S5, hp5, hr5, hk5⟩; have HP5 := hide hp5; have HR5 := hide (rc_clo (clo_none M4) hr5); have HM5 := hide (ma_map HM4.out (ps_map (HP4.out 0)) hk5); have HS5 := hide (ma_two HM5.out); have HX5 := hide (rb_kp hk5 HX4.out (ps_map (HP4.out 0))); have HK5 := hide hk5; clear hp5 hr5 hk5))
  all_goals
    obtain ⟨h0, sa, sc, hm1, hm2⟩ := HM5.out
    obtain ⟨q0, q1, q2, q3⟩ := mx_cells hm1
    obtain ⟨⟨r0, r1, r2, r3⟩, rf⟩ := rb_cells HX5.out
    have rf0 := rf 0
    have rf1 := rf 1
    have rf2 := rf 2
    have rf3 := rf 3
    have HO5 := hide hm2
    have hne : w.heap.size ≠ B := by have := HBe.out; omega
    have hlt5 : B < w5.heap.size := mx_lt hm1
    clear rf hm1 hm2
    go_wp2
    have ks : ∀ (u : World) (i : Nat) (v : Value), Kp (fun j => j = w.heap.size) u (u.setCell ⟨w.heap.size, i, none⟩ v) := fun u i v => kp_set (S := fun j => j = w.heap.size) _ _ _ rfl
    have kk := (((ks w5 0 (.slice (some ⟨b, off, none⟩) len cap)).trans (ks _ 1 (.slice sa M4.length sc)) (fun _ _ e => e)).trans (ks _ 2 (.map (some (w.heap.size + 1)))) (fun _ _ e => e)).trans (ks _ 3 (.int .i64 0)) (fun _ _ e => e)
    have HKK := hide kk
    clear ks kk
    refine bodyPost_ret (v := .agg #[.slice (some ⟨b, off, none⟩) len cap, .slice sa M4.length sc, .map (some (w.heap.size + 1)), .int .i64 0]) (by simp [results, Tryd.results23, go_sem, r0, r1, r2, r3]) rfl ?_
    have hBw := HBe.out
    refine ⟨p4, M4, sa, sc, S5, rfl, ?_, HE4.out, by have := HL4.out; simp at this; omega, ps_kp HP5.out HKK.out (fun e => by have e' : w.heap.size + 1 = w.heap.size := e; omega), HR5.out.1, fun x => ?_, ?_, ?_⟩
    · rw [hBw]
      exact own_kp HO5.out HKK.out (fun j hj e => by have h9 := (HO5.out.lt j hj).1; have e' : j = w.heap.size := e; omega)
    · rw [HR5.out.2 x]
      exact ⟨fun h => h.elim (fun e => by cases e) (fun e => e), fun h => .inr h⟩
    · have b4 := HB2.out.trans (HB4.out.1.mono (by omega))
      have b5 := b4.trans (kp_below HK5.out b4.size (fun j e => by have e' : j = w.heap.size + 1 := e; omega))
      exact b5.trans (kp_below HKK.out b5.size (fun j e => by have e' : j = w.heap.size := e; omega))
    · have := HKK.out.size
      omega
theorem rx_okM {X : Rx} (h : rxB X = true) : (1 ≤ X.len ∧ X.len ≤ 120) ∧ NdOk X X.len ∧ trX X (X.len - 1) = some 0 ∧ wtX X (X.len - 1) ≤ 2000 ∧ (∀ j, j < X.len → nodeX X j = true) ∧ ∀ j, j < X.len → X.K j = 5 → X.MX j = -1 ∨ X.MN j ≤ X.MX j := by
  unfold rxB at h
  rw [Bool.and_eq_true, Bool.and_eq_true, Bool.and_eq_true, decide_eq_true_iff, decide_eq_true_iff, decide_eq_true_iff, List.all_eq_true] at h
  obtain ⟨h1, h2, h3, h4⟩ := h
  refine ⟨h1, fun j hj => ?_, h3, h4, fun j hj => h2 j (by simpa using hj), fun j hj k5 => ?_⟩
  · have hn := h2 j (by simpa using hj)
    refine ⟨fun h5 => node_cnt hn h5, fun k2 => ?_, ?_⟩
    · unfold nodeX nodeB at hn
      rw [if_neg (by omega), if_pos k2, Bool.and_eq_true] at hn
      have hr := hn.1
      unfold rowB at hr
      rw [Bool.and_eq_true, decide_eq_true_iff] at hr
      refine ⟨hr.1.1, hr.1.2, fun i hi => ?_⟩
      have hg := hr.2
      unfold rgsB at hg
      rw [List.all_eq_true] at hg
      have hx := hg i (by simpa using hi)
      unfold rgB at hx
      rw [Bool.and_eq_true, Bool.and_eq_true, decide_eq_true_iff] at hx
      exact ⟨hx.1, hx.2.1, hx.2.2⟩
    · unfold nodeX nodeB at hn
      by_cases k1 : X.K j = 1
      · exact .inl k1
      · rw [if_neg k1] at hn
        by_cases k2 : X.K j = 2
        · exact .inr (.inl k2)
        · rw [if_neg k2] at hn
          by_cases k3 : X.K j = 3 ∨ X.K j = 4
          · rcases k3 with k | k
            · exact .inr (.inr (.inl k))
            · exact .inr (.inr (.inr (.inl k)))
          · rw [if_neg k3] at hn
            by_cases k5 : X.K j = 5
            · exact .inr (.inr (.inr (.inr k5)))
            · rw [if_neg k5] at hn
              cases hn
  · have hn := h2 j (by simpa using hj)
    unfold nodeX at hn
    rw [k5] at hn
    simp [nodeB] at hn
    omega
/-- What Matches answers. -/
def MtP (X : Rx) (C : List Int) (bb : Bool) : Prop := rxB X = true ∧ bb = true ∧ C.length ≤ 300 ∧ tkX X (clX X C) (X.len - 1) 0 C.length
def MtA (X : Rx) (C : List Int) (bb : Bool) (w : World) (e : Ending) (w' : World) : Prop := ∃ z, e = .returned (.bool z) ∧ (z = true ↔ MtP X C bb) ∧ Below w.heap.size w w'
theorem ma_of {B R : Nat} {w : World} {v0 v2 v3 : Value} {sa : Option Addr} {sc : Nat} {M : List Sp} (hB : B ≤ R) (h : w.heap[R]? = some (.cells #[v0, .slice sa M.length sc, v2, v3] 61 (0, 0))) (ho : w.ownsRow B 97 4 (.slice sa M.length sc) M.length (spV M)) : MA B w R v0 v2 v3 M := ⟨hB, sa, sc, h, ho⟩
set_option maxRecDepth 100000 in
set_option maxHeartbeats 8000000 in
theorem i_matches (X : Rx) (len : Nat) (a : Option Addr) (cap : Nat) (s : ByteArray) (C : List Int) (bb : Bool) (w : World) (hX : X.len = len) (hlen : len ≤ maxLen) (hnr : ∀ j, j < len → X.NR j ≤ maxLen) (hr : RxAt w a X w.heap.size) (hs : s.size ≤ 1048576) (hT : Tabs w) (hC : outL (rns s) = C) (hbb : (rns s).isSome = bb) :
    Calls Tryd.prog 11 #[.slice a len cap, .string s] w (MtA X C bb w) := by
  have CO := hide (i_regex X len a cap w hX hlen hnr hr)
  cases hb : rxB X
  · have HV : Hid (rxB X = false) := hide hb
    rw [hb] at CO
    clear hr hnr hX hb hlen hT hC hbb
    go_enter Tryd.func11, Tryd.ntmps11
    go_wp2_with (go_at_call 10; refine CO.out.mono ?_; rintro e w2 ⟨rfl, hb2⟩; have HB2 := hide hb2; clear hb2)
    go_ret
    exact ⟨false, rfl, ⟨fun e => (by cases e), fun e => (by have := e.1; rw [HV.out] at this; cases this)⟩, HB2.out⟩
  · obtain ⟨h1, h2, h3, h4, h5, h6⟩ := rx_okM hb
    have HV : Hid (rxB X = true) := hide hb
    rw [hX] at h1 h2 h3 h4 h5 h6
    obtain ⟨b, off, rfl, hbw, hrow⟩ := hr (by omega)
    obtain ⟨t1, -, -⟩ := ts_le X len h2 len (len - 1) 0 (by omega) (by omega) h3 h4
    have hts : 1 + tsX X (len - 1) ≤ 300000 := by
      have q1 : (wtX X (len - 1)).toNat ≤ 2000 := by omega
      have q2 := Nat.mul_le_mul q1 (show len - 1 + 1 - 0 ≤ 120 by omega)
      omega
    have HCE := hide (fun B => i_enter X len hX h1.2 h2 h6 b off cap B len (len - 1) 0 (by omega) (by omega) h3)
    have HRW := hide hrow
    have HXL := hide hX
    have HNR := hide hnr
    have HTb := hide hT
    have HC := hide hC
    have HBB := hide hbb
    have CM := hide (fun w2 (h : Below w.heap.size w w2) => i_machine X len hX h1.2 h1.1 b off cap w2 HCE.out hts (rxRow_up (rxRow_go HRW.out hbw h) h.size) (Nat.lt_of_lt_of_le hbw h.size))
    rw [hb] at CO
    have hl120 := h1.2
    clear hr hnr hX hb hlen hT hC hbb hrow h2 h3 h4 h5 h6 t1 hts h1
    go_enter Tryd.func11, Tryd.ntmps11
    go_wp2_with (go_at_call 10; refine CO.out.mono ?_; rintro e w2 ⟨rfl, hb2⟩; have HB2 := hide hb2; clear hb2)
    refine (CM.out _ HB2.out).mono ?_
    rintro e w3 ⟨p, M, sa, sc, S, rfl, ho3, he3, hl3, hp3, hc3, hs3, hb3, hz3⟩
    have HB3 := hide (HB2.out.trans (hb3.mono HB2.out.size))
    have HO3 := hide ho3
    have HE3 := hide he3
    have HP3 := hide hp3
    have HC3 := hide hc3
    have HS3 := hide hs3
    have hq3 := ent_len he3
    have hb23 := HB2.out.size
    have CT := hide (fun o (ho : o = (.cells #[.slice (some ⟨b, off, none⟩) len cap, .slice sa M.length sc, .map (some (w2.heap.size + 1)), .int .i64 0] 61 : Obj)) => i_takes X len HXL.out hl120 HNR.out b off cap (w2.heap.size + 2) w3.heap.size M M.length (w2.heap.size + 1) s C C.length bb hs HC.out HBB.out rfl rfl (by omega) (by omega) (he3.2.2.2 (by simp) (wf_one X)) S hc3 (w3.alloc o) (tabs_below (tabs_below HTb.out HB3.out) ((Below.refl _ _).alloc (Nat.le_refl _) _)) (rxRow_up (rxRow_go (rxRow_go HRW.out hbw HB3.out) hbw (((Below.refl _ _).alloc (Nat.le_refl _) o).mono HB3.out.size)) (by omega)) (by omega) (ma_of hz3 (by subst ho; exact heap_alloc_new w3 _) (ho3.alloc _)) (ps_kp hp3 (kp_alloc (S := fun _ => False) _ _) (fun e => e)))
    clear ho3 he3 hp3 hc3 hs3 hb3 hz3
    go_wp2_with (go_at_call 24; refine (CT.out _ rfl).mono ?_; rintro e w4 ⟨z, rfl, hz, hb4⟩; have HZ := hide hz; have HB4 := hide ((HB3.out.alloc HB3.out.size _).trans (hb4.mono (HB3.out.alloc HB3.out.size _).size)); clear hz hb4)
    go_ret
    refine ⟨z, rfl, ?_, HB4.out⟩
    rw [HZ.out, hr_start HS3.out, ent_takes _ _ HE3.out]
    unfold MtP
    rw [HXL.out]
    exact ⟨fun e => ⟨HV.out, e⟩, fun e => e.2⟩
end Go.Proofs.YtepommmmmfaihaaDoor
