/-
  Contract: a place and those to which forks lead from it, added to a set.
-/
import Derived.Test.YtepommmmmfaihaaDoorC11
import Derived.Test.YtepommmmmfaihaaDoorC12
import Derived.Maps.Own
import Derived.Maps.OwnOps
import Derived.Maps.OwnSet
import Derived.Maps.Views
import Derived.Maps.RangeWalk
namespace Go.Proofs.YtepommmmmfaihaaDoor
open Go.RowKit Go.Joins Go.Maps
set_option linter.unusedVariables false
set_option linter.unusedSimpArgs false
theorem lawI : Keyed Tryd.prog 2 := int_keyed Tryd.underlying2
theorem zeroU (w : World) : (zeroValue 79).run Tryd.prog w = .ok (.agg #[]) w := by kernel_rfl
/-- A set of places, in memory. -/
def PS (w : World) (b : Nat) (S : Nat → Bool) (K : Nat) : Prop := ∃ (n : Nat) (D : DataW Unit), w.ownsMap Tryd.prog 2 unitElem b n D ∧ n + nf S K ≤ K ∧ IsMap D ∧ (∀ x : Int, Maps.has D (.int .i64 x) = true ↔ ∃ q : Nat, x = q ∧ S q = true) ∧ ∀ q, S q = true → q < K
theorem keyI {p : Nat} (h : p ≤ 400000) : keyOf Tryd.prog 2 (.int .i64 (p : Int)) = some (.int .i64 (p : Int)) := keyOf_int_mk Tryd.underlying2 (WalkArith.wf_i64 (by omega))
theorem lit_ne {x y : Int} (h : x ≠ y) : Lit.int .i64 x ≠ Lit.int .i64 y := fun e => h (by injection e)
theorem ps_has {D : DataW Unit} {S : Nat → Bool} (h : ∀ x : Int, Maps.has D (.int .i64 x) = true ↔ ∃ q : Nat, x = q ∧ S q = true) (p : Nat) : Maps.has D (.int .i64 (p : Int)) = S p := by
  cases e : S p
  · cases e2 : Maps.has D (.int .i64 (p : Int))
    · rfl
    · obtain ⟨q, h1, h2⟩ := (h p).1 e2
      have : p = q := by omega
      subst this
      rw [e] at h2; cases h2
  · exact (h p).2 ⟨p, rfl, e⟩
theorem ps_put {w : World} {b p K n : Nat} {S : Nat → Bool} {D : DataW Unit} (h : w.ownsMap Tryd.prog 2 unitElem b (n + 1) (D.put (.int .i64 (p : Int)) (.agg []))) (hn : n + nf S K ≤ K) (hm : IsMap D) (hh : ∀ x : Int, Maps.has D (.int .i64 x) = true ↔ ∃ q : Nat, x = q ∧ S q = true) (hK : ∀ q, S q = true → q < K) (hp : S p = false) (hpK : p < K) : PS w b (put1 S p) K := by
  refine ⟨n + 1, _, h, ?_, ?_, fun x => ?_, fun q hq => ?_⟩
  · have := nf_lt (S := S) (S' := put1 S p) (fun x hx => put1_old hx) hp (put1_self _ _) K hpK
    omega
  · obtain ⟨es, rfl⟩ := hm
    exact ⟨_, rfl⟩
  · by_cases e : x = p
    · subst e
      rw [has_put_same hm (by trivial)]
      exact ⟨fun _ => ⟨p, rfl, put1_self _ _⟩, fun _ => rfl⟩
    · rw [has_put_other (lit_ne e), hh x]
      constructor
      · rintro ⟨q, h1, h2⟩; exact ⟨q, h1, put1_old h2⟩
      · rintro ⟨q, rfl, h2⟩
        rcases put1_inv h2 with h2 | rfl
        · exact ⟨q, rfl, h2⟩
        · exact absurd rfl e
  · rcases put1_inv hq with h2 | rfl
    · exact hK q h2
    · exact hpK
theorem ps_made {w : World} {b : Nat} {K : Nat} (h : w.ownsMap (H := Unit) Tryd.prog 2 unitElem b 0 (.map [])) : PS w b (fun _ => false) K := ⟨0, _, h, by rw [nf_none]; omega, isMap_empty, fun x => ⟨fun h => (by cases h), fun h => (by obtain ⟨q, -, h⟩ := h; cases h)⟩, fun q h => (by cases h)⟩
theorem kp_grownBy {S : Nat → Prop} {w w' : World} (h : Kp S w w') {b : Nat} (hS : ∀ j, S j → j = b) : w.grownBy w' (some b) := ⟨h.os, h.tape, h.output, h.size, fun i hi hne => h.block i hi (fun hs => hne (by rw [hS i hs]))⟩
theorem ps_kp {w w' : World} {b K : Nat} {S : Nat → Bool} {T : Nat → Prop} (h : PS w b S K) (k : Kp T w w') (hb : ¬ T b) : PS w' b S K := by
  obtain ⟨n, D, h1, h2⟩ := h
  have hlt := h1.lt
  obtain ⟨es, clock, hb1, F, hs, hD⟩ := h1
  exact ⟨n, D, ⟨es, clock, (k.block b hlt hb).trans hb1, F, hs, hD⟩, h2⟩
theorem ps_lt {w : World} {b K : Nat} {S : Nat → Bool} (h : PS w b S K) : b < w.heap.size := by obtain ⟨n, D, h1, h2⟩ := h; exact h1.lt
/-- The block of a set is no row. -/
theorem ps_map {w : World} {b K : Nat} {S : Nat → Bool} (h : PS w b S K) : ∃ es cl, w.heap[b]? = some (.map es cl) := by
  obtain ⟨n, D, ⟨es, clock, hb1, -⟩, -⟩ := h
  exact ⟨es, clock, hb1⟩
theorem ma_map {B R b : Nat} {w w' : World} {v0 v2 v3 : Value} {M : List Sp} (h : MA B w R v0 v2 v3 M) (hb : ∃ es cl, w.heap[b]? = some (.map es cl)) (k : Kp (fun j => j = b) w w') : MA B w' R v0 v2 v3 M := by
  obtain ⟨es, cl, hb⟩ := hb
  refine ma_kp h k ?_ ?_
  · intro e
    have e' : R = b := e
    obtain ⟨h0, sa, sc, h1, h2⟩ := h
    subst e'
    unfold MX at h1
    rw [hb] at h1
    cases h1
  · intro j cur e hc
    have e' : j = b := e
    subst e'
    rw [hb] at hc
    cases hc
/-- A place's box. -/
def SXm (w : World) (G : Nat) (fk : Bool) (cs nx ot : Nat) : Prop := w.heap[G]? = some (.cells #[.bool fk, .int .i64 cs, .int .i64 nx, .int .i64 ot] 97 (0, 0))
theorem sx_new (w : World) (fk : Bool) (cs nx ot : Nat) : SXm (w.alloc (.cells #[.bool fk, .int .i64 cs, .int .i64 nx, .int .i64 ot] 97)) w.heap.size fk cs nx ot := heap_alloc_new w _
theorem sx_cellsM {w : World} {G : Nat} {fk : Bool} {cs nx ot : Nat} (h : SXm w G fk cs nx ot) : w.cell? ⟨G, 0, none⟩ = some (.bool fk) ∧ w.cell? ⟨G, 1, none⟩ = some (.int .i64 cs) ∧ w.cell? ⟨G, 2, none⟩ = some (.int .i64 nx) ∧ w.cell? ⟨G, 3, none⟩ = some (.int .i64 ot) := by
  have e : ∀ i, w.cell? ⟨G, i, none⟩ = (#[.bool fk, .int .i64 cs, .int .i64 nx, .int .i64 ot] : Array Value)[i]? := fun i => by rw [cell_of_row w G i _ _ (0, 0) h]
  exact ⟨e 0, e 1, e 2, e 3⟩
theorem sx_kp {w w' : World} {G : Nat} {fk : Bool} {cs nx ot : Nat} {T : Nat → Prop} (h : SXm w G fk cs nx ot) (k : Kp T w w') (hT : ¬ T G) : SXm w' G fk cs nx ot := (k.block G (Array.getElem?_eq_some_iff.1 h).1 hT).trans h
def RcA (M : List Sp) (K b : Nat) (S : Nat → Bool) (p : Nat) (w : World) (e : Ending) (w' : World) : Prop := e = .returned (.tuple #[]) ∧ ∃ S', PS w' b S' K ∧ RcP M S p S' ∧ Kp (fun j => j = b) w w'
set_option maxRecDepth 100000 in
set_option maxHeartbeats 8000000 in
theorem i_reach (X : Rx) (B R : Nat) (v0 v2 v3 : Value) (M : List Sp) (K b : Nat) (hM : M.length = K) (hX : K ≤ 400000) (hW : Wf X M) : ∀ (m : Nat) (S : Nat → Bool) (p : Nat) (w : World), nf S K < m → p < K → MA B w R v0 v2 v3 M → PS w b S K →
    Calls Tryd.prog 38 #[.pointer (some ⟨R, 0, none⟩), .map (some b), .int .i64 p] w (RcA M K b S p w)
  | 0, S, p, w, hm, hp, h, hps => by omega
  | m + 1, S, p, w, hm, hp, h, hps => by
    have IH : Hid (∀ (S : Nat → Bool) (p : Nat) (w : World), nf S K < m → p < K → MA B w R v0 v2 v3 M → PS w b S K → Calls Tryd.prog 38 #[.pointer (some ⟨R, 0, none⟩), .map (some b), .int .i64 p] w (RcA M K b S p w)) := hide (fun S p w h1 h2 h3 h4 => i_reach X B R v0 v2 v3 M K b hM hX hW m S p w h1 h2 h3 h4)
    have HM := hide h
    obtain ⟨n, D, hown, hn, hmap, hh, hK⟩ := hps
    have HHas := ps_has hh p
    have HOW := hide hown
    have HI := hide hmap
    have HH := hide hh
    have HK := hide hK
    have hkey := keyI (show p ≤ 400000 by omega)
    have hnK : n + 1 < maxLen := by unfold maxLen; omega
    obtain ⟨s, hs⟩ : ∃ s, M[p]? = some s := ⟨_, List.getElem?_eq_getElem (by omega)⟩
    obtain ⟨w1', w2', w3⟩ := hW p s hs
    rw [hM] at w1' w2'
    obtain ⟨fk, cs, nx, ot⟩ := s
    simp only at w1' w2'
    have HS := hide hs
    have HMp : Hid (∃ es cl, w.heap[b]? = some (.map es cl)) := hide (by obtain ⟨es, clock, hb1, -⟩ := hown; exact ⟨es, clock, hb1⟩)
    have hnf : S p = false → nf (put1 S p) K < nf S K := fun hSp => nf_lt (S := S) (S' := put1 S p) (fun x hx => put1_old hx) hSp (put1_self _ _) K hp
    have HML := hide hM
    clear hW hown hmap hh hK hs w3 h hM
    have hi : (p : Int) < (K : Int) := by omega
    have hi0 : (0 : Int) ≤ (p : Int) := by omega
    cases hSp : S p
    · rw [hSp] at HHas
      have hnf := hnf hSp
      cases fk
      · go_enter Tryd.func38, Tryd.ntmps38
        go_wp2_with (first
          | (at_lookup; refine wpList_lookup_own_unit _ rfl _ _ 59 rfl 2 79 lawI Tryd.underlying59 (zeroU _) b n _ rfl HOW.out _ _ rfl hkey ?_; rw [HHas])
          | (at_mapUpdate; refine wpList_mapUpdate_own _ rfl _ _ _ 59 rfl 2 79 lawI Tryd.underlying59 (unitElem (H := Unit)) b n _ rfl (HOW.out.alloc _) (by omega) _ _ _ rfl rfl hkey _ [] unitElem_mk ?_; intro w1 hown1 hgrow1; have hk1 : Kp (fun j => j = b) w w1 := (kp_alloc w _).trans (kp_grown (S := fun j => j = b) hgrow1 (fun k hk => (Option.some.inj hk).symm)) (fun _ _ e => e); have HK1 := hide hk1; have HM1 := hide (ma_map HM.out HMp.out hk1); have HP1 := hide (ps_put hown1 hn HI.out HH.out HK.out hSp hp); obtain ⟨sa, sc, q0, q1, q2, q3, ha⟩ := ma_at HM1.out; rw [HML.out] at q1; obtain ⟨g, rfl, hg, s0, s1, s2, s3⟩ := ha p _ HS.out; simp only at s0 s1 s2 s3; clear hown1 hgrow1 hk1 ha))
        go_end0
        exact ⟨rfl, _, ps_kp HP1.out (kp_alloc (S := fun _ => False) _ _) (fun e => e), rc_leaf HS.out rfl, HK1.out.trans (kp_alloc (S := fun _ => False) _ _) (fun _ _ e => e.elim)⟩
      · go_enter Tryd.func38, Tryd.ntmps38
        go_wp2_with (first
          | (at_lookup; refine wpList_lookup_own_unit _ rfl _ _ 59 rfl 2 79 lawI Tryd.underlying59 (zeroU _) b n _ rfl HOW.out _ _ rfl hkey ?_; rw [HHas])
          | (at_mapUpdate; refine wpList_mapUpdate_own _ rfl _ _ _ 59 rfl 2 79 lawI Tryd.underlying59 (unitElem (H := Unit)) b n _ rfl (HOW.out.alloc _) (by omega) _ _ _ rfl rfl hkey _ [] unitElem_mk ?_; intro w1 hown1 hgrow1; have hk1 : Kp (fun j => j = b) w w1 := (kp_alloc w _).trans (kp_grown (S := fun j => j = b) hgrow1 (fun k hk => (Option.some.inj hk).symm)) (fun _ _ e => e); have HK1 := hide hk1; have HM1 := hide (ma_map HM.out HMp.out hk1); have HP1 := hide (ps_put hown1 hn HI.out HH.out HK.out hSp hp); obtain ⟨sa, sc, q0, q1, q2, q3, ha⟩ := ma_at HM1.out; rw [HML.out] at q1; obtain ⟨g, rfl, hg, s0, s1, s2, s3⟩ := ha p _ HS.out; simp only at s0 s1 s2 s3; clear hown1 hgrow1 hk1 ha))
        have hb1 := ps_lt HP1.out
        have HX1 := hide (sx_new w1 true cs nx ot)
        have HMa := fun o => hide (ma_go HM1.out ((Below.refl w1.heap.size w1).alloc (Nat.le_refl _) o))
        have HPa := fun o => hide (ps_kp HP1.out (kp_alloc (S := fun _ => False) w1 o) (fun e => e))
        have CA := hide (IH.out (put1 S p) nx _ (by omega) w1' (HMa _).out (HPa (.cells #[.bool true, .int .i64 cs, .int .i64 nx, .int .i64 ot] 97)).out)
        go_wp2_with fail
        refine CA.out.mono ?_
        rintro e w4 ⟨rfl, S4, hp4, hr4, hk4⟩
        have HP4 := hide hp4
        have HR4 := hide hr4
        have HK4 := hide hk4
        have HX4 := hide (sx_kp HX1.out hk4 (fun e => by have e' : w1.heap.size = b := e; omega))
        have HM4 := hide (ma_map (HMa _).out (ps_map (HPa _).out) hk4)
        obtain ⟨b0, b1, b2, b3⟩ := sx_cellsM HX4.out
        have CB := hide (IH.out S4 ot _ (by have := nf_mono hr4.1 K; omega) w2' HM4.out hp4)
        clear hp4 hr4 hk4
        go_wp2_with fail
        refine CB.out.mono ?_
        rintro e w5 ⟨rfl, S5, hp5, hr5, hk5⟩
        have HP5 := hide hp5
        have HR5 := hide hr5
        have HK5 := hide hk5
        clear hp5 hr5 hk5
        go_wp2
        go_end0
        exact ⟨rfl, S5, HP5.out, rc_fork HS.out rfl HR4.out HR5.out, (((HK1.out.trans (kp_alloc (S := fun _ => False) _ _) (fun _ _ e => e.elim)).trans HK4.out (fun _ _ e => e)).trans HK5.out (fun _ _ e => e))⟩
    · rw [hSp] at HHas
      go_enter Tryd.func38, Tryd.ntmps38
      go_wp2_with (first
        | (at_lookup; refine wpList_lookup_own_unit _ rfl _ _ 59 rfl 2 79 lawI Tryd.underlying59 (zeroU _) b n _ rfl HOW.out _ _ rfl hkey ?_; rw [HHas]))
      go_end0
      refine ⟨rfl, S, ⟨n, D, HOW.out.alloc _, hn, HI.out, HH.out, HK.out⟩, rc_met hSp, kp_alloc _ _⟩
end Go.Proofs.YtepommmmmfaihaaDoor
