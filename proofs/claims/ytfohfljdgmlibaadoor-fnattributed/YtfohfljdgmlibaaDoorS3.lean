/-
  Texts put together: TkI, PkMath.
-/
import Derived.Test.YtfohfljdgmlibaaDoorS1
import Derived.Test.YtfohfljdgmlibaaDoorS2
/-
  Contracts: ways through a model: one set of places is led to another one (the program's).
-/
namespace Go.Proofs.YtfohfljdgmlibaaDoor
open Go.RowKit
set_option linter.unusedVariables false
set_option linter.unusedSimpArgs false
/-- What the ways of a model hold: the model, what follows each place, where rows end. -/
def tkV (mv : Value) (F : Nat → Nat) (e i : Nat) : Value := if i = 0 then mv else if i = 42 then .int .u64 (e : Int) else .int .u64 (F (i - 1) : Int)
def tkC (mv : Value) (F : Nat → Nat) (e : Nat) : Array Value := (Array.range 43).map (tkV mv F e)
theorem tkC_size (mv : Value) (F : Nat → Nat) (e : Nat) : (tkC mv F e).size = 43 := by simp [tkC]
theorem tkC_get (mv : Value) (F : Nat → Nat) (e i : Nat) (hi : i < 43) : (tkC mv F e)[i]? = some (tkV mv F e i) := by
  unfold tkC
  rw [Array.getElem?_map, Array.getElem?_range, if_pos hi]
  rfl
theorem tkC_at (mv : Value) (F : Nat → Nat) (e p : Nat) (hp : p < 41) : (tkC mv F e)[1 + p]? = some (.int .u64 (F p : Int)) := by
  rw [tkC_get _ _ _ _ (by omega)]
  unfold tkV
  rw [if_neg (by omega), if_neg (by omega), show 1 + p - 1 = p by omega]
def upd (F : Nat → Nat) (p x : Nat) : Nat → Nat := fun j => if j = p then x else F j
theorem tkC_set (mv : Value) (F : Nat → Nat) (e p x : Nat) (hp : p < 41) : (tkC mv F e).setIfInBounds (1 + p) (.int .u64 (x : Int)) = tkC mv (upd F p x) e := by
  apply Array.ext_getElem?
  intro i
  rw [Array.getElem?_setIfInBounds]
  by_cases hi : 1 + p = i
  · subst hi
    rw [if_pos rfl, if_pos (by rw [tkC_size]; omega), tkC_at _ _ _ _ hp]
    simp [upd]
  · rw [if_neg hi]
    by_cases h1 : i < 43
    · rw [tkC_get _ _ _ _ h1, tkC_get _ _ _ _ h1]
      unfold tkV upd
      by_cases h0 : i = 0
      · rw [if_pos h0, if_pos h0]
      · rw [if_neg h0, if_neg h0, if_neg (show ¬ i - 1 = p by omega)]
    · rw [Array.getElem?_eq_none (by rw [tkC_size]; omega), Array.getElem?_eq_none (by rw [tkC_size]; omega)]
theorem tkC_congr {mv : Value} {F G : Nat → Nat} {e : Nat} (h : ∀ p, p < 41 → F p = G p) : tkC mv F e = tkC mv G e := by
  apply Array.ext_getElem?
  intro i
  by_cases h1 : i < 43
  · rw [tkC_get _ _ _ _ h1, tkC_get _ _ _ _ h1]
    unfold tkV
    by_cases h0 : i = 0
    · rw [if_pos h0, if_pos h0]
    · by_cases h2 : i = 42
      · rw [if_neg h0, if_neg h0, if_pos h2, if_pos h2]
      · rw [if_neg h0, if_neg h0, if_neg h2, if_neg h2, h (i - 1) (by omega)]
  · rw [Array.getElem?_eq_none (by rw [tkC_size]; omega), Array.getElem?_eq_none (by rw [tkC_size]; omega)]
/-- What follows, once one set is led to another one. -/
def lkU (F : Nat → Nat) (L : List Int) (too : Nat) : Nat → Nat := fun p => if (p : Int) ∈ L then F p ||| too else F p
theorem intR_cells {B : Nat} {w : World} {ad : Option Addr} {c : Nat} {L : List Int} (h : IntR B w ad c L) (h0 : 0 < L.length) : ∃ g, ad = some ⟨g, 0, none⟩ ∧ B ≤ g ∧ g < w.heap.size ∧ ∀ j, j < L.length → w.cell? ⟨g, j, none⟩ = some (.int .i64 (L[j]?.getD 0)) := by
  have hr := own_rowAt9 h
  rcases h.2 with ⟨-, hz⟩ | ⟨g, cap, cur, hv, hB, hh, -⟩
  · omega
  · simp only [Value.slice.injEq] at hv
    obtain ⟨rfl, -, -⟩ := hv
    obtain ⟨b, off, e, hb, hc⟩ := hr (fun e => by rw [e] at h0; simp at h0)
    simp only [Option.some.injEq, Addr.mk.injEq] at e
    obtain ⟨rfl, rfl, -⟩ := e
    exact ⟨g, rfl, hB, hb, fun j hj => by have := hc j hj; rwa [Nat.zero_add] at this⟩
theorem lkU_next (F : Nat → Nat) (L : List Int) (too m p : Nat) (hm : m < L.length) (hp : L[m]?.getD 0 = (p : Int)) (hs : L.Pairwise (· < ·)) : ∀ j, upd (lkU F (L.take m) too) p (lkU F (L.take m) too p ||| too) j = lkU F (L.take (m + 1)) too j := by
  intro j
  have hg : L[m] = (p : Int) := by rw [List.getElem?_eq_getElem hm] at hp; exact hp
  rw [List.take_succ_eq_append_getElem hm, hg]
  unfold upd
  by_cases hj : j = p
  · subst hj
    rw [if_pos rfl]
    unfold lkU
    rw [if_pos (show (j : Int) ∈ L.take m ++ [(j : Int)] by simp)]
    by_cases h9 : (j : Int) ∈ L.take m
    · rw [if_pos h9, Nat.or_assoc, Nat.or_self]
    · rw [if_neg h9]
  · rw [if_neg hj]
    unfold lkU
    have : ((j : Int) ∈ L.take m ++ [(p : Int)]) ↔ (j : Int) ∈ L.take m := by
      rw [List.mem_append]
      constructor
      · rintro (h | h)
        · exact h
        · simp at h; omega
      · exact .inl
    by_cases h : (j : Int) ∈ L.take m
    · rw [if_pos h, if_pos (this.2 h)]
    · rw [if_neg h, if_neg (fun h9 => h (this.1 h9))]
theorem lkU_lt {F : Nat → Nat} {L : List Int} {too p : Nat} (h1 : F p < 18446744073709551616) (h2 : too < 18446744073709551616) : lkU F L too p < 18446744073709551616 := by
  unfold lkU
  split
  · exact Nat.or_lt_two_pow (n := 64) h1 h2
  · exact h1
theorem grown_trans9 {w w1 w2 : World} {row : Option Nat} (h1 : w.grownBy w1 row) (h2 : w1.grownBy w2 row) : w.grownBy w2 row :=
  ⟨h2.os.trans h1.os, h2.tape.trans h1.tape, h2.output.trans h1.output, Nat.le_trans h1.size h2.size, fun k hk hne => (h2.block k (Nat.lt_of_lt_of_le hk h1.size) hne).trans (h1.block k hk hne)⟩
theorem grown_of {w w1 : World} {row : Option Nat} (h : Below w.heap.size w w1) : w.grownBy w1 row := ⟨h.os, h.tape, h.output, h.size, fun k hk _ => h.block k hk⟩
theorem grown_below {w w1 : World} {T B : Nat} (h : w.grownBy w1 (some T)) (hT : B ≤ T) (hB : B ≤ w.heap.size) : Below B w w1 := ⟨h.os, h.tape, h.output, h.size, fun k hk => h.block k (by omega) (by intro e; simp at e; omega)⟩
theorem grown_set (w : World) (T i : Nat) (v : Value) : w.grownBy (w.setCell ⟨T, i, none⟩ v) (some T) := ⟨rfl, rfl, rfl, by simp [World.setCell], fun k hk hne => Below.heap_setCell _ _ _ _ (by intro e; exact hne (by rw [e]))⟩
theorem grown_drew9 {w w1 : World} {row : Option Nat} (h : w.grownBy w1 row) : w.grownBy w1.drew row := ⟨h.os, h.tape, h.output, h.size, h.block⟩
set_option maxRecDepth 100000 in
set_option maxHeartbeats 4000000 in
theorem i_link (T a too : Nat) (mv : Value) (F : Nat → Nat) (e : Nat) (w : World) (ha : a < 2199023255552) (hto : too < 18446744073709551616) (hF : ∀ p, p < 41 → F p < 18446744073709551616) (hT : TzT w) (hC : CellsAt w T (tkC mv F e)) :
    Calls Tryd.prog 70 #[.pointer (some ⟨T, 0, none⟩), .int .u64 a, .int .u64 too] w fun r w' => r = .returned (.tuple #[]) ∧ CellsAt w' T (tkC mv (lkU F (bts a) too) e) ∧ w.grownBy w' (some T) := by
  have HT := hide hT
  have HC := hide hC
  clear hT hC
  go_enter Tryd.func70, Tryd.ntmps70
  have CL := hide (i_list a w (by omega) HT.out)
  go_wp2_with (first | (go_at_call 43; refine CL.out.mono ?_; rintro e w2 ⟨ad2, c2, rfl, ho2, hb2⟩; have HO2 := hide ho2; have HB2 := hide hb2; clear ho2 hb2))
  have hr := fun z hz => bts_range (n := 41) (x := a) (by omega) ha z hz
  have hlen := bts_len (x := a) (by omega)
  have HSO := hide (bts_sorted (a + 1) a (by omega) (by omega))
  obtain ⟨L, hL⟩ : ∃ L, bts a = L := ⟨_, rfl⟩
  rw [hL] at HO2 hr hlen HSO ⊢
  have HR := hide hr
  have HL := hide hL
  clear hL hr CL
  have HC2 : Hid (CellsAt w2 T (tkC mv F e)) := hide (cellsAt_go HC.out HB2.out (cellsAt_lt HC.out))
  go_loopw [11] (fun mv9 wr => ∃ (m : Nat), m ≤ L.length ∧ mv9 = .int .i64 m ∧ Hid (CellsAt wr T (tkC mv (lkU F (L.take m) too) e)) ∧ Hid (w2.grownBy wr (some T))) (fun mv9 _ => L.length - (intOf mv9).toNat)
  case atStart => exact ⟨0, Nat.zero_le _, rfl, hide (by rw [List.take_zero, tkC_congr (G := F) (fun p _ => by simp [lkU])]; exact HC2.out), hide ⟨rfl, rfl, rfl, Nat.le_refl _, fun _ _ _ => rfl⟩⟩
  case round =>
    obtain ⟨m, hm, rfl, HCr, HG⟩ := hrel
    by_cases hlt : m < L.length
    · obtain ⟨g, rfl, hg1, hg2, hgc⟩ := intR_cells HO2.out (by omega)
      have hTw := cellsAt_lt HC.out
      have k0 := HG.out.cell (hgc m hlt) (by intro e9; simp at e9; omega)
      have hz := HR.out (L[m]?.getD 0) (by rw [List.getElem?_eq_getElem hlt]; exact List.getElem_mem hlt)
      have HV := hide (rfl : L[m]?.getD 0 = L[m]?.getD 0)
      obtain ⟨v, hv⟩ : ∃ v, L[m]?.getD 0 = v := ⟨_, rfl⟩
      rw [hv] at k0 hz
      have HV := hide hv
      obtain ⟨p, rfl⟩ : ∃ p : Nat, v = (p : Int) := ⟨v.toNat, by omega⟩
      have hp41 : p < 41 := by omega
      have k1 := (cellsAt_cell HCr.out (1 + p)).trans (tkC_at _ _ _ _ hp41)
      have HNX := hide (lkU_next F L too m p hlt hv HSO.out)
      have hlf := lkU_lt (L := L.take m) (too := too) (hF p hp41) hto
      obtain ⟨x, hx⟩ : ∃ x, lkU F (L.take m) too p = x := ⟨_, rfl⟩
      rw [hx] at k1 HNX hlf
      have b1 : bits .or .u64 (x : Int) (too : Int) = ((x ||| too : Nat) : Int) := u64_or_nat x too hlf hto
      have kf := cellsAt_frozen HCr.out (1 + p)
      have hmi : (m : Int) < (L.length : Int) := by omega
      have hm0 : (0 : Int) ≤ (m : Int) := by omega
      have hpi : (p : Int) < 41 := by omega
      have hp0 : (0 : Int) ≤ (p : Int) := by omega
      clear hv hx hgc hz
      go_wp2
      go_region
      go_wp2
      go_roundw
      case rel =>
        refine ⟨m + 1, by omega, by go_num, hide ?_, hide ?_⟩
        · have h9 := cellsAt_set (i := 1 + p) (w := wr.drew) (show CellsAt wr.drew T _ from HCr.out) (.int .u64 ((x ||| too : Nat) : Int))
          rw [tkC_set _ _ _ _ _ hp41, tkC_congr (fun j _ => HNX.out j)] at h9
          exact h9
        · exact grown_drew9 (grown_trans9 HG.out (grown_set wr T (1 + p) _))
      case measure => simp [intOf]; omega
    · have hml : m = L.length := by omega
      subst hml
      rw [List.take_length] at HCr
      go_wp2
      go_end0
      exact ⟨rfl, by rw [HL.out]; exact HCr.out, grown_trans9 (grown_of HB2.out) HG.out⟩
theorem cellsAt_grown {w w' : World} {G T : Nat} {cs : Array Value} (h : CellsAt w G cs) (hg : w.grownBy w' (some T)) (hne : G ≠ T) : CellsAt w' G cs := by
  obtain ⟨t, h⟩ := h
  exact ⟨t, (hg.block G (Array.getElem?_eq_some_iff.1 h).1 (by intro e; simp at e; exact hne e)).trans h⟩
theorem grown_far {w w' : World} {T : Nat} {p : Addr} (h : w.grownBy w' (some T)) (v : Value) (hp : w.heap.size ≤ p.block) : w.grownBy (w'.setCell p v) (some T) := ⟨h.os, h.tape, h.output, by have := h.size; simp [World.setCell]; omega, fun k hk hne => (Below.heap_setCell _ _ _ _ (by omega)).trans (h.block k hk hne)⟩
theorem boxes3 (w : World) (a b c : Array Value) (t1 t2 t3 : TypeId) : CellsAt (((w.alloc (.cells a t1)).alloc (.cells b t2)).alloc (.cells c t3)) w.heap.size a ∧ CellsAt (((w.alloc (.cells a t1)).alloc (.cells b t2)).alloc (.cells c t3)) (w.heap.size + 1) b ∧ CellsAt (((w.alloc (.cells a t1)).alloc (.cells b t2)).alloc (.cells c t3)) (w.heap.size + 1 + 1) c ∧ Below w.heap.size w (((w.alloc (.cells a t1)).alloc (.cells b t2)).alloc (.cells c t3)) := by
  have b1 : Below (w.alloc (.cells a t1)).heap.size (w.alloc (.cells a t1)) ((w.alloc (.cells a t1)).alloc (.cells b t2)) := (Below.refl _ _).alloc (Nat.le_refl _) _
  have b2 : Below ((w.alloc (.cells a t1)).alloc (.cells b t2)).heap.size ((w.alloc (.cells a t1)).alloc (.cells b t2)) (((w.alloc (.cells a t1)).alloc (.cells b t2)).alloc (.cells c t3)) := (Below.refl _ _).alloc (Nat.le_refl _) _
  refine ⟨cellsAt_go (cellsAt_go (cellsAt_new w a t1) b1 (by simp)) b2 (by simp; omega), ?_, ?_, ?_⟩
  · have := cellsAt_go (cellsAt_new (w.alloc (.cells a t1)) b t2) b2 (by simp)
    simpa using this
  · have := cellsAt_new ((w.alloc (.cells a t1)).alloc (.cells b t2)) c t3
    simpa using this
  · iterate 3 (refine Below.alloc ?_ (by simp; try omega) _)
    exact Below.refl _ _
set_option maxRecDepth 100000 in
set_option maxHeartbeats 4000000 in
theorem i_joined (T : Nat) (e1 : Bool) (f1 l1 : Nat) (e2 : Bool) (f2 l2 : Nat) (mv : Value) (F : Nat → Nat) (e : Nat) (w : World) (h1 : f1 < 2199023255552) (h2 : l1 < 2199023255552) (h3 : f2 < 2199023255552) (h4 : l2 < 2199023255552) (hF : ∀ p, p < 41 → F p < 18446744073709551616) (hT : TzT w) (hC : CellsAt w T (tkC mv F e)) :
    Calls Tryd.prog 67 #[.pointer (some ⟨T, 0, none⟩), paV e1 f1 l1, paV e2 f2 l2] w fun r w' => r = .returned (paV (e1 && e2) (thF e1 f1 f2) (thL e2 l2 l1)) ∧ CellsAt w' T (tkC mv (lkU F (bts l1) f2) e) ∧ w.grownBy w' (some T) := by
  have HT := hide hT
  have HC := hide hC
  have HF := hide hF
  clear hT hC hF
  have CL := hide (fun (W : World) (hW : Below w.heap.size w W) => i_link T l1 f2 mv F e W h2 (by omega) HF.out (tzT_go HT.out hW (Nat.le_refl _)) (cellsAt_go HC.out hW (cellsAt_lt HC.out)))
  have CT := hide (fun (W : World) => i_then e1 f1 l1 e2 f2 l2 W (by omega) (by omega) (by omega) (by omega))
  unfold paV at CT ⊢
  go_enter Tryd.func67, Tryd.ntmps67
  have HX := hide (boxes3 w #[.bool e1, .int .u64 (f1 : Int), .int .u64 (l1 : Int)] #[.bool e2, .int .u64 (f2 : Int), .int .u64 (l2 : Int)] #[.bool false, .int .u64 0, .int .u64 0] 83 83 83)
  have hTl := cellsAt_lt HC.out
  go_wp2_with (first
    | (go_at_call 70; refine (CL.out _ HX.out.2.2.2).mono ?_; rintro r w2 ⟨rfl, hc2, hg2⟩; have HC2 := hide hc2; have HG2 := hide (grown_trans9 (grown_of HX.out.2.2.2) hg2); have hA := cellsAt_grown HX.out.1 hg2 (by omega); have hB := cellsAt_grown HX.out.2.1 hg2 (by omega); have hR := cellsAt_grown HX.out.2.2.1 hg2 (by omega); have a0 := cellsAt_cell hA 0; have a1 := cellsAt_cell hA 1; have a2 := cellsAt_cell hA 2; have d0 := cellsAt_cell hB 0; have d1 := cellsAt_cell hB 1; have d2 := cellsAt_cell hB 2; have r0 := cellsAt_cell hR 0; have r1 := cellsAt_cell hR 1; have r2 := cellsAt_cell hR 2; simp only [List.getElem?_toArray, List.getElem?_cons_zero, List.getElem?_cons_succ] at a0 a1 a2 d0 d1 d2 r0 r1 r2; have HRB := hide hR; clear hc2 hg2 hA hB hR)
    | (go_at_call 87; refine (CT.out _).mono ?_; rintro r w3 ⟨rfl, hb3⟩; have HC3 := hide (cellsAt_go HC2.out hb3 (cellsAt_lt HC2.out)); have HG3 := hide (grown_trans9 HG2.out (grown_of hb3)); have hR3 := cellsAt_go HRB.out hb3 (cellsAt_lt HRB.out); have r0 := cellsAt_cell hR3 0; have r1 := cellsAt_cell hR3 1; have r2 := cellsAt_cell hR3 2; have z0 := cellsAt_frozen hR3 0; have z1 := cellsAt_frozen hR3 1; have z2 := cellsAt_frozen hR3 2; simp only [List.getElem?_toArray, List.getElem?_cons_zero, List.getElem?_cons_succ] at r0 r1 r2; clear hb3 hR3))
  refine bodyPost_ret (v := .agg #[_, _, _]) (by simp [results, Tryd.results67, go_sem, r0, r1, r2]; first | done | exact ⟨rfl, rfl, rfl⟩) rfl ⟨rfl, ?_, ?_⟩
  · refine cellsAt_far (cellsAt_far (cellsAt_far HC3.out _ ?_) _ ?_) _ ?_ <;> (simp only []; omega)
  · refine grown_far (grown_far (grown_far HG3.out _ ?_) _ ?_) _ ?_ <;> (simp only []; omega)
end Go.Proofs.YtfohfljdgmlibaaDoor

/-
  Plain facts on models as rows of nodes, of no program's run: where a node's tree begins, how deep it is, which rows are right models.
-/
namespace Go.Proofs.YtfohfljdgmlibaaDoor
set_option linter.unusedVariables false
set_option linter.unusedSimpArgs false
/-- Kids, the last one first, each standing right ahead of what has been gone through; g: where a node's tree begins. -/
def fd (g : Nat → Option Nat) : List Int → Nat → Option Nat
  | [], a => some a
  | k :: ks, a => if 0 < a ∧ k = (a : Int) - 1 then (g (a - 1)).bind (fd g ks) else none
theorem fd_yes {g : Nat → Option Nat} {k : Int} {ks : List Int} {a b : Nat} (h : 0 < a ∧ k = (a : Int) - 1) (hg : g (a - 1) = some b) : fd g (k :: ks) a = fd g ks b := by rw [fd, if_pos h, hg]; rfl
theorem fd_none {g : Nat → Option Nat} {k : Int} {ks : List Int} {a : Nat} (h : 0 < a ∧ k = (a : Int) - 1) (hg : g (a - 1) = none) : fd g (k :: ks) a = none := by rw [fd, if_pos h, hg]; rfl
theorem fd_no {g : Nat → Option Nat} {k : Int} {ks : List Int} {a : Nat} (h : ¬ (0 < a ∧ k = (a : Int) - 1)) : fd g (k :: ks) a = none := by rw [fd, if_neg h]
theorem fd_congr {g h : Nat → Option Nat} : ∀ (ks : List Int) (a : Nat), (∀ j, j < a → g j = h j) → (∀ j b, j < a → g j = some b → b ≤ j) → fd g ks a = fd h ks a
  | [], a, _, _ => rfl
  | k :: ks, a, h1, h2 => by
    by_cases hc : 0 < a ∧ k = (a : Int) - 1
    · cases hg : g (a - 1) with
      | none => rw [fd_none hc hg, fd_none hc (by rw [← h1 _ (by omega)]; exact hg)]
      | some b =>
        have hb := h2 _ b (by omega) hg
        rw [fd_yes hc hg, fd_yes hc (by rw [← h1 _ (by omega)]; exact hg)]
        exact fd_congr ks b (fun j hj => h1 j (by omega)) (fun j c hj => h2 j c (by omega))
    · rw [fd_no hc, fd_no hc]
theorem fd_le {g : Nat → Option Nat} : ∀ (ks : List Int) (a b : Nat), (∀ j c, j < a → g j = some c → c ≤ j) → fd g ks a = some b → b ≤ a
  | [], a, b, _, h => by simp [fd] at h; omega
  | k :: ks, a, b, h2, h => by
    by_cases hc : 0 < a ∧ k = (a : Int) - 1
    · cases hg : g (a - 1) with
      | none => rw [fd_none hc hg] at h; cases h
      | some c =>
        have hb := h2 _ c (by omega) hg
        rw [fd_yes hc hg] at h
        have := fd_le ks c b (fun j d hj => h2 j d (by omega)) h
        omega
    · rw [fd_no hc] at h; cases h
def trF (D : Pn) : Nat → Nat → Option Nat
  | 0, _ => none
  | f + 1, i => fd (trF D f) (D.KL i).reverse i
theorem trF_le (D : Pn) : ∀ (f i b : Nat), trF D f i = some b → b ≤ i
  | 0, i, b, h => by cases h
  | f + 1, i, b, h => fd_le _ i b (fun j c _ hc => trF_le D f j c hc) h
theorem trF_more (D : Pn) : ∀ (f g i : Nat), i < f → i < g → trF D f i = trF D g i
  | 0, g, i, hf, hg => by omega
  | f + 1, 0, i, hf, hg => by omega
  | f + 1, g + 1, i, hf, hg => fd_congr _ i (fun j hj => trF_more D f g j (by omega) (by omega)) (fun j b _ h => trF_le D f j b h)
/-- Where the tree of a node begins, all its nodes standing one behind the other, each behind its kids; none: it is no tree. -/
def tr (D : Pn) (i : Nat) : Option Nat := trF D (i + 1) i
theorem tr_le {D : Pn} {i b : Nat} (h : tr D i = some b) : b ≤ i := trF_le D _ i b h
theorem tr_eq (D : Pn) (i : Nat) : tr D i = fd (tr D) (D.KL i).reverse i :=
  fd_congr _ i (fun j hj => trF_more D i (j + 1) j (by omega) (by omega)) (fun j b _ h => trF_le D i j b h)
/-- All nodes of a tree are trees, beginning within it; its kids stand ahead of it. -/
theorem fd_cover {D : Pn} : ∀ (ks : List Int) (a f : Nat), (∀ j b, j < a → tr D j = some b → ∀ i, b ≤ i → i ≤ j → ∃ c, tr D i = some c ∧ b ≤ c) → fd (tr D) ks a = some f → (∀ i, f ≤ i → i < a → ∃ c, tr D i = some c ∧ f ≤ c) ∧ (∀ k, k ∈ ks → 0 ≤ k ∧ k < (a : Int)) ∧ f ≤ a
  | [], a, f, _, h => by
    simp [fd] at h
    subst h
    exact ⟨fun i h1 h2 => by omega, fun k hk => absurd hk (List.not_mem_nil), Nat.le_refl _⟩
  | k :: ks, a, f, ih, h => by
    by_cases hc : 0 < a ∧ k = (a : Int) - 1
    · cases hg : tr D (a - 1) with
      | none => rw [fd_none hc hg] at h; cases h
      | some c =>
        have hca := tr_le hg
        rw [fd_yes hc hg] at h
        obtain ⟨h1, h2, h3⟩ := fd_cover ks c f (fun j b hj => ih j b (by omega)) h
        refine ⟨fun i hi1 hi2 => ?_, fun k' hk' => ?_, by omega⟩
        · by_cases e : i < c
          · exact h1 i hi1 e
          · obtain ⟨d, hd1, hd2⟩ := ih (a - 1) c (by omega) hg i (by omega) (by omega)
            exact ⟨d, hd1, by omega⟩
        · rcases List.mem_cons.1 hk' with rfl | hk'
          · omega
          · have := h2 k' hk'; omega
    · rw [fd_no hc] at h; cases h
theorem tr_cover {D : Pn} : ∀ (m r f : Nat), r < m → tr D r = some f → (∀ i, f ≤ i → i ≤ r → ∃ c, tr D i = some c ∧ f ≤ c) ∧ ∀ k, k ∈ D.KL r → 0 ≤ k ∧ k < (r : Int)
  | 0, r, f, hm, h => by omega
  | m + 1, r, f, hm, h => by
    have h0 := h
    rw [tr_eq] at h
    obtain ⟨h1, h2, h3⟩ := fd_cover _ r f (fun j b hj hb => (tr_cover m j b (by omega) hb).1) h
    refine ⟨fun i hi1 hi2 => ?_, fun k hk => h2 k (List.mem_reverse.2 hk)⟩
    by_cases e : i = r
    · subst e; exact ⟨f, h0, Nat.le_refl _⟩
    · exact h1 i hi1 (by omega)
/-- How deep a tree is. -/
def mx (g : Nat → Nat) (ks : List Int) : Nat := ks.foldl (fun d k => max d (g k.toNat)) 0
def dqF (D : Pn) : Nat → Nat → Nat
  | 0, _ => 0
  | f + 1, i => mx (dqF D f) (D.KL i) + 1
theorem mx_congr {g h : Nat → Nat} {ks : List Int} (hk : ∀ k, k ∈ ks → g k.toNat = h k.toNat) : mx g ks = mx h ks := by
  unfold mx
  suffices H : ∀ (d : Nat), ks.foldl (fun d k => max d (g k.toNat)) d = ks.foldl (fun d k => max d (h k.toNat)) d from H 0
  induction ks with
  | nil => intro d; rfl
  | cons k ks ih => intro d; rw [List.foldl_cons, List.foldl_cons, hk k (List.mem_cons_self ..), ih (fun k' hk' => hk k' (List.mem_cons_of_mem _ hk'))]
theorem mx_snoc (g : Nat → Nat) (ks : List Int) (k : Int) : mx g (ks ++ [k]) = max (mx g ks) (g k.toNat) := by unfold mx; rw [List.foldl_append]; rfl
theorem mx_le {g : Nat → Nat} {B : Nat} : ∀ (ks : List Int) (d : Nat), d ≤ B → (∀ k, k ∈ ks → g k.toNat ≤ B) → ks.foldl (fun d k => max d (g k.toNat)) d ≤ B
  | [], d, h, _ => h
  | k :: ks, d, h, hk => mx_le ks _ (by have := hk k (List.mem_cons_self ..); show max d (g k.toNat) ≤ B; omega) (fun k' hk' => hk k' (List.mem_cons_of_mem _ hk'))
theorem mx_ge {g : Nat → Nat} : ∀ (ks : List Int) (d : Nat), d ≤ ks.foldl (fun d k => max d (g k.toNat)) d
  | [], d => Nat.le_refl _
  | k :: ks, d => Nat.le_trans (by omega) (mx_ge ks (max d (g k.toNat)))
theorem mx_init {g : Nat → Nat} : ∀ (ks : List Int) (d : Nat), ks.foldl (fun d k => max d (g k.toNat)) d = max d (mx g ks)
  | [], d => by simp [mx]
  | k :: ks, d => by
    have h1 := mx_init (g := g) ks (max d (g k.toNat))
    have h2 := mx_init (g := g) ks (max 0 (g k.toNat))
    unfold mx
    rw [List.foldl_cons, List.foldl_cons, h1, h2]
    omega
theorem mx_rev (g : Nat → Nat) : ∀ ks : List Int, mx g ks.reverse = mx g ks
  | [] => rfl
  | k :: ks => by
    rw [List.reverse_cons, mx_snoc, mx_rev g ks]
    show _ = (k :: ks).foldl _ 0
    rw [List.foldl_cons, mx_init]
    omega
/-- The nodes up to i have kids ahead of them. -/
def Lo (D : Pn) (i : Nat) : Prop := ∀ j, j ≤ i → ∀ k, k ∈ D.KL j → 0 ≤ k ∧ k < (j : Int)
theorem lo_less {D : Pn} {i j : Nat} (h : Lo D i) (hj : j ≤ i) : Lo D j := fun k hk => h k (by omega)
theorem dqF_more {D : Pn} : ∀ (f g i : Nat), Lo D i → i < f → i < g → dqF D f i = dqF D g i
  | 0, g, i, hl, hf, hg => by omega
  | f + 1, 0, i, hl, hf, hg => by omega
  | f + 1, g + 1, i, hl, hf, hg => by
    rw [dqF, dqF, mx_congr (fun k hk => ?_)]
    have := hl i (Nat.le_refl _) k hk
    exact dqF_more f g k.toNat (lo_less hl (by omega)) (by omega) (by omega)
def dq (D : Pn) (i : Nat) : Nat := dqF D (i + 1) i
theorem dq_eq {D : Pn} {i : Nat} (hl : Lo D i) : dq D i = mx (dq D) (D.KL i) + 1 := by
  show mx (dqF D i) (D.KL i) + 1 = _
  rw [mx_congr (fun k hk => ?_)]
  have := hl i (Nat.le_refl _) k hk
  exact dqF_more i (k.toNat + 1) k.toNat (lo_less hl (by omega)) (by omega) (by omega)
theorem dqF_le (D : Pn) : ∀ (f i : Nat), dqF D f i ≤ f
  | 0, i => Nat.le_refl _
  | f + 1, i => by
    rw [dqF]
    have := mx_le (g := dqF D f) (B := f) (D.KL i) 0 (Nat.zero_le _) (fun k _ => dqF_le D f k.toNat)
    unfold mx
    omega
theorem dq_le (D : Pn) (i : Nat) : dq D i ≤ i + 1 := dqF_le D _ i
/-- A node is right by itself. -/
def ndB (k : Int) (nm : ByteArray) (n : Nat) (oc : Int) : Bool :=
  decide (0 ≤ oc ∧ oc ≤ 3) && (if k = 1 then nameB nm && decide (n = 0) else if k = 4 then nm.toList.isEmpty && decide (n = 0) else if k = 2 then nm.toList.isEmpty else if k = 3 then nm.toList.isEmpty && decide (2 ≤ n) else false)
def nodeB (D : Pn) (i : Nat) : Bool := ndB (D.K i) (D.NM i) (D.KL i).length (D.OC i)
def groupB (D : Pn) (i : Nat) : Bool := decide (D.K i = 2 ∨ D.K i = 3)
def pkB (D : Pn) : Bool := decide (1 ≤ D.n ∧ D.n ≤ 40) && ((List.range D.n).all (nodeB D) && (decide (tr D (D.n - 1) = some 0) && (groupB D (D.n - 1) && decide (dq D (D.n - 1) ≤ 10))))
theorem pk_size {D : Pn} (h : ¬ (1 ≤ D.n ∧ D.n ≤ 40)) : pkB D = false := by unfold pkB; rw [decide_eq_false h]; rfl
theorem pk_node {D : Pn} {k : Nat} (hk : k < D.n) (h : nodeB D k = false) : pkB D = false := by
  have : (List.range D.n).all (nodeB D) = false := by
    rw [List.all_eq_false]
    exact ⟨k, by simpa using hk, by simp [h]⟩
  unfold pkB
  rw [this]
  simp
theorem pk_all {D : Pn} (h0 : 1 ≤ D.n ∧ D.n ≤ 40) (h : ∀ j, j < D.n → nodeB D j = true) : pkB D = (decide (tr D (D.n - 1) = some 0) && (groupB D (D.n - 1) && decide (dq D (D.n - 1) ≤ 10))) := by
  have : (List.range D.n).all (nodeB D) = true := by
    rw [List.all_eq_true]
    intro j hj
    exact h j (by simpa using hj)
  unfold pkB
  rw [this, decide_eq_true h0]
  simp
theorem pk_tree {D : Pn} {k : Nat} (hk : k < D.n) (h : tr D k = none) : pkB D = false := by
  have : decide (tr D (D.n - 1) = some 0) = false := decide_eq_false (fun e => by
    obtain ⟨c, hc, -⟩ := (tr_cover D.n (D.n - 1) 0 (by omega) e).1 k (by omega) (by omega)
    rw [hc] at h; cases h)
  unfold pkB
  rw [this]
  simp
/-- A kid that does not stand ahead of its node makes no tree. -/
theorem pk_kid {D : Pn} {i : Nat} {k : Int} (hi : i < D.n) (hk : k ∈ D.KL i) (h : ¬ (0 ≤ k ∧ k < (i : Int))) : pkB D = false := by
  cases ht : tr D i with
  | none => exact pk_tree hi ht
  | some f => exact absurd ((tr_cover (i + 1) i f (by omega) ht).2 k hk) h
theorem pk_facts {D : Pn} (h : pkB D = true) : (1 ≤ D.n ∧ D.n ≤ 40) ∧ (∀ j, j < D.n → nodeB D j = true) ∧ tr D (D.n - 1) = some 0 ∧ groupB D (D.n - 1) = true ∧ dq D (D.n - 1) ≤ 10 := by
  unfold pkB at h
  simp only [Bool.and_eq_true, decide_eq_true_eq, List.all_eq_true, List.mem_range] at h
  exact ⟨h.1, h.2.1, h.2.2.1, h.2.2.2.1, h.2.2.2.2⟩
theorem pk_lo {D : Pn} (h : pkB D = true) : ∀ j, j < D.n → (∃ f, tr D j = some f) ∧ ∀ k, k ∈ D.KL j → 0 ≤ k ∧ k < (j : Int) := by
  obtain ⟨h1, -, h3, -⟩ := pk_facts h
  intro j hj
  obtain ⟨f, hf, -⟩ := (tr_cover D.n (D.n - 1) 0 (by omega) h3).1 j (by omega) (by omega)
  exact ⟨⟨f, hf⟩, (tr_cover (j + 1) j f (by omega) hf).2⟩
end Go.Proofs.YtfohfljdgmlibaaDoor
