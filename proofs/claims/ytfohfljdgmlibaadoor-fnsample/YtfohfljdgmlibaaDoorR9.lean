/-
  Texts put together: RegLast, TkI.
-/
import Derived.Test.YtfohfljdgmlibaaDoorR7
import Derived.Test.YtfohfljdgmlibaaDoorR8
import Derived.Test.YtfohfljdgmlibaaDoorR1
/-
  Plain facts, of no program: a region that draws its order and whose last operation is always the same: what holds ahead of it need not hold behind it; what one operation alone uses is given up when it came up.
-/
namespace Go.Proofs.YtfohfljdgmlibaaDoor
open Go.RowKit
set_option linter.unusedVariables false
set_option linter.unusedSimpArgs false
section
variable {P : Program} {ops : Array Oper} {Q : Exit → Act → World → Prop}
theorem getD_ff {l : Array Bool} {i : Nat} (h : l.getD i true = false) : l.getD i false = false := by
  rw [Array.getD_eq_getD_getElem?] at h ⊢
  cases hx : l[i]? with
  | none => rfl
  | some b => rw [hx] at h; exact h
theorem getD_self {l : Array Bool} {i : Nat} (h : i < l.size) : (l.setIfInBounds i true).getD i false = true := by
  rw [Array.getD_eq_getD_getElem?]
  simp [h]
theorem wp_region_last {id : Nat} {w : World} (hm : P.follows .mixedOrders = true)
    (hlow : (List.range ops.size).all (fun i => ((ops[i]?).map fun o => o.after.all fun e => !(Region.binds .any e) || decide (e.on < i)).getD true) = true)
    (A : (Nat → Value) → Act) (D : Nat → Nat) (V : Nat → Value → World → Prop) (J J' : World → Prop) (u0 : Nat → Value) (C : Nat → Option Nat) (need : Nat → Nat → Bool) (L : Nat) (hL : L < ops.size) (hJ : J { w with drawn := w.drawn + 1 })
    (hput : ∀ i o, ops[i]? = some o → ∀ u v, (A u).put o.dst v = A (fun k => if k = D i then v else u k))
    (hD : ∀ i k, i < ops.size → k < ops.size → i ≠ k → D i ≠ D k)
    (hall : ∀ l : Nat → Bool, (∀ i o, ops[i]? = some o → l i = true → ∀ e ∈ o.after, Region.binds .any e = true → l e.on = true) → l L = true → ∀ k, k < ops.size → l k = true)
    (hneed : ∀ l : Nat → Bool, (∀ i o, ops[i]? = some o → l i = true → ∀ e ∈ o.after, Region.binds .any e = true → l e.on = true) → ∀ i o, ops[i]? = some o → (∀ e ∈ o.after, Region.binds .any e = true → l e.on = true) → l i = false → ∀ k, k < ops.size → need k i = false → l k = true → ∃ j, C k = some j ∧ (l j = true ∨ j = i))
    (step : ∀ i o, ops[i]? = some o → i ≠ L → ∀ u w, J w → (∀ e ∈ o.after, Region.binds .any e = true → (C e.on = none ∨ C e.on = some i) → V e.on (u (D e.on)) w) →
      ∀ K : Act → World → Prop, (∀ v w', J w' → V i v w' → (∀ k x, need k i = true → V k x w → V k x w') → K ((A u).put o.dst v) w') →
        if Region.wanted o (yielded ops (A u).tmps) = true then Oper.wp P o (A u) w K Q else K ((A u).put o.dst undef) w)
    (last : ∀ o, ops[L]? = some o → ∀ u w, J w → (∀ k, k < ops.size → k ≠ L → (C k = none ∨ C k = some L) → V k (u (D k)) w) →
      ∀ K : Act → World → Prop, (∀ v w', J' w' → K ((A u).put o.dst v) w') →
        if Region.wanted o (yielded ops (A u).tmps) = true then Oper.wp P o (A u) w K Q else K ((A u).put o.dst undef) w)
    (done : ∀ u w, J' w → Q .normal (A u) w) :
    (Code.region id ops true).wp P Q (A u0) w := by
  refine wp_region_any hm ?_
  refine wpAny_inv (fun l a w => l.size = ops.size ∧ (∀ i o, ops[i]? = some o → l.getD i false = true → ∀ e ∈ o.after, Region.binds .any e = true → l.getD e.on false = true) ∧ (l.getD L false = true → J' w ∧ ∃ u, a = A u) ∧ (l.getD L false = false → J w ∧ ∃ u, a = A u ∧ ∀ k, k < ops.size → l.getD k false = true → (∀ j, C k = some j → l.getD j false = false) → V k (u (D k)) w)) ?_ ?_ _ _ _ _ ?_ ?_
  · rintro l a w ⟨hl, hcl, h1, h2⟩ hr
    have all : ∀ (n : Nat), n ≤ ops.size → ∀ k, k < n → l.getD k false = true := by
      intro n
      induction n with
      | zero => intro _ k hk; omega
      | succ n ih =>
        intro hn k hk
        by_cases e : k < n
        · exact ih (by omega) k e
        · have e : k = n := by omega
          subst e
          have hks : k < ops.size := by omega
          cases hb : l.getD k true with
          | true =>
            rw [Array.getD_eq_getD_getElem?, Array.getElem?_eq_getElem (by omega)] at hb ⊢
            simpa using hb
          | false =>
            exfalso
            have hmem : k ∈ Region.ready .any ops l := by
              refine mem_ready.2 ⟨hb, ops[k], Array.getElem?_eq_getElem hks, fun e he hbd => ?_⟩
              have h1 := List.all_eq_true.1 hlow k (List.mem_range.2 hks)
              rw [Array.getElem?_eq_getElem hks] at h1
              simp only [Option.map_some, Option.getD_some] at h1
              have h2 := Array.all_eq_true_iff_forall_mem.1 h1 e he
              rw [hbd] at h2
              exact ih (by omega) e.on (of_decide_eq_true (by simpa using h2))
            rw [hr] at hmem
            cases hmem
    obtain ⟨hj, u, rfl⟩ := h1 (all ops.size (Nat.le_refl _) L hL)
    exact done u w hj
  · rintro l a w i ⟨hl, hcl, h1, h2⟩ hi
    obtain ⟨h0, o, ho, hdep⟩ := mem_ready.1 hi
    have hilt := (Array.getElem?_eq_some_iff.1 ho).1
    have hif := getD_ff h0
    have hLf : l.getD L false = false := by
      cases hb : l.getD L false with
      | false => rfl
      | true =>
        have := hall (fun k => l.getD k false) hcl hb i hilt
        rw [hif] at this
        cases this
    obtain ⟨hj, u, rfl, hV⟩ := h2 hLf
    have hcl' : ∀ i' o', ops[i']? = some o' → (l.setIfInBounds i true).getD i' false = true → ∀ e ∈ o'.after, Region.binds .any e = true → (l.setIfInBounds i true).getD e.on false = true := by
      intro i' o' ho' hd e he hb
      have hk : l.getD e.on false = true := by
        by_cases e' : i = i'
        · subst e'
          rw [ho] at ho'
          cases ho'
          exact hdep e he hb
        · rw [getD_set_ne false e'] at hd
          exact hcl i' o' ho' hd e he hb
      by_cases e' : i = e.on
      · rw [← e'] at hk; rw [hif] at hk; cases hk
      · rw [getD_set_ne false e']; exact hk
    by_cases hiL : i = L
    · subst hiL
      refine wpOp_step ho (fun K' hK => ?_)
      have hallk : ∀ k, k < ops.size → (l.setIfInBounds i true).getD k false = true := hall (fun k => (l.setIfInBounds i true).getD k false) hcl' (getD_self (by omega))
      refine last o ho u w hj (fun k hk hkL hc => ?_) K' (fun v w' hj' => ?_)
      · have hkd := hallk k hk
        rw [getD_set_ne false (fun e => hkL e.symm)] at hkd
        refine hV k hk hkd (fun j hjc => ?_)
        rcases hc with hc | hc
        · rw [hc] at hjc; cases hjc
        · rw [hc] at hjc; cases hjc; exact hif
      · refine hK _ _ ⟨by simp [hl], hcl', fun _ => ⟨hj', _, hput i o ho u v⟩, fun hf => ?_⟩
        rw [getD_self (by omega)] at hf
        cases hf
    · refine wpOp_step ho (fun K' hK => ?_)
      refine step i o ho hiL u w hj (fun e he hb hc => ?_) K' (fun v w' hj' hv hmono => ?_)
      · have h1 := List.all_eq_true.1 hlow i (List.mem_range.2 hilt)
        rw [ho] at h1
        simp only [Option.map_some, Option.getD_some] at h1
        have h2 := Array.all_eq_true_iff_forall_mem.1 h1 e he
        rw [hb] at h2
        have h3 : e.on < i := of_decide_eq_true (by simpa using h2)
        refine hV e.on (by omega) (hdep e he hb) (fun j hjc => ?_)
        rcases hc with hc | hc
        · rw [hc] at hjc; cases hjc
        · rw [hc] at hjc; cases hjc; exact hif
      · refine hK _ _ ⟨by simp [hl], hcl', fun ht => ?_, fun _ => ⟨hj', _, hput i o ho u v, fun k hk hl' hcn => ?_⟩⟩
        · rw [getD_set_ne false hiL, hLf] at ht
          cases ht
        · by_cases e : i = k
          · subst e; simpa using hv
          · have hd := hD k i hk hilt (fun h => e h.symm)
            rw [if_neg hd]
            rw [getD_set_ne false e] at hl'
            refine hmono k _ ?_ (hV k hk hl' (fun j hjc => ?_))
            · cases hnd : need k i with
              | true => rfl
              | false =>
                exfalso
                obtain ⟨j, hjc, hj2⟩ := hneed (fun k => l.getD k false) hcl i o ho hdep hif k hk hnd hl'
                have hjn := hcn j hjc
                by_cases ej : i = j
                · subst ej
                  rw [getD_self (by omega)] at hjn
                  cases hjn
                · rw [getD_set_ne false ej] at hjn
                  rcases hj2 with hj2 | hj2
                  · have hj3 : l.getD j false = true := hj2
                    rw [hjn] at hj3; cases hj3
                  · exact ej hj2.symm
            · have hjn := hcn j hjc
              by_cases ej : i = j
              · subst ej; exact hif
              · rw [getD_set_ne false ej] at hjn; exact hjn
  · have : left ops.size (Array.replicate ops.size false) ≤ (List.range ops.size).length := List.length_filter_le _ _
    simpa using this
  · have hn : ∀ k, (Array.replicate ops.size false).getD k false = false := fun k => by
      rw [Array.getD_eq_getD_getElem?]
      by_cases hk : k < ops.size
      · simp [hk]
      · simp [hk]
    refine ⟨by simp, fun i o ho h => ?_, fun h => ?_, fun _ => ⟨hJ, u0, rfl, fun k hk h => ?_⟩⟩
    · rw [hn] at h; cases h
    · rw [hn] at h; cases h
    · rw [hn] at h; cases h
end
end Go.Proofs.YtfohfljdgmlibaaDoor

/-
  Contracts: ways through a model: one set of places is led to another one (the program's).
-/
namespace Go.Proofs.YtfohfljdgmlibaaDoor
open Go.RowKit
set_option linter.unusedVariables false
set_option linter.unusedSimpArgs false
/-- What the ways of a model hold: the model, what follows each place, where rows end. -/
def tkV (mv : Value) (F : Nat → Nat) (e i : Nat) : Value := if i = 0 then mv else if i = 42 then .int .u64 (e : Int) else .int .u64 (F (i - 1) : Int)
def tkC (mv : Value) (F : Nat → Nat) (e : Nat) : Array Value := (Array.range 43).map (tkV mv F e)
theorem tkC_size (mv : Value) (F : Nat → Nat) (e : Nat) : (tkC mv F e).size = 43 := by simp [tkC]
theorem tkC_get (mv : Value) (F : Nat → Nat) (e i : Nat) (hi : i < 43) : (tkC mv F e)[i]? = some (tkV mv F e i) := by
  unfold tkC
  rw [Array.getElem?_map, Array.getElem?_range, if_pos hi]
  rfl
theorem tkC_at (mv : Value) (F : Nat → Nat) (e p : Nat) (hp : p < 41) : (tkC mv F e)[1 + p]? = some (.int .u64 (F p : Int)) := by
  rw [tkC_get _ _ _ _ (by omega)]
  unfold tkV
  rw [if_neg (by omega), if_neg (by omega), show 1 + p - 1 = p by omega]
def upd (F : Nat → Nat) (p x : Nat) : Nat → Nat := fun j => if j = p then x else F j
theorem tkC_set (mv : Value) (F : Nat → Nat) (e p x : Nat) (hp : p < 41) : (tkC mv F e).setIfInBounds (1 + p) (.int .u64 (x : Int)) = tkC mv (upd F p x) e := by
  apply Array.ext_getElem?
  intro i
  rw [Array.getElem?_setIfInBounds]
  by_cases hi : 1 + p = i
  · subst hi
    rw [if_pos rfl, if_pos (by rw [tkC_size]; omega), tkC_at _ _ _ _ hp]
    simp [upd]
  · rw [if_neg hi]
    by_cases h1 : i < 43
    · rw [tkC_get _ _ _ _ h1, tkC_get _ _ _ _ h1]
      unfold tkV upd
      by_cases h0 : i = 0
      · rw [if_pos h0, if_pos h0]
      · rw [if_neg h0, if_neg h0, if_neg (show ¬ i - 1 = p by omega)]
    · rw [Array.getElem?_eq_none (by rw [tkC_size]; omega), Array.getElem?_eq_none (by rw [tkC_size]; omega)]
theorem tkC_congr {mv : Value} {F G : Nat → Nat} {e : Nat} (h : ∀ p, p < 41 → F p = G p) : tkC mv F e = tkC mv G e := by
  apply Array.ext_getElem?
  intro i
  by_cases h1 : i < 43
  · rw [tkC_get _ _ _ _ h1, tkC_get _ _ _ _ h1]
    unfold tkV
    by_cases h0 : i = 0
    · rw [if_pos h0, if_pos h0]
    · by_cases h2 : i = 42
      · rw [if_neg h0, if_neg h0, if_pos h2, if_pos h2]
      · rw [if_neg h0, if_neg h0, if_neg h2, if_neg h2, h (i - 1) (by omega)]
  · rw [Array.getElem?_eq_none (by rw [tkC_size]; omega), Array.getElem?_eq_none (by rw [tkC_size]; omega)]
/-- What follows, once one set is led to another one. -/
def lkU (F : Nat → Nat) (L : List Int) (too : Nat) : Nat → Nat := fun p => if (p : Int) ∈ L then F p ||| too else F p
theorem intR_cells {B : Nat} {w : World} {ad : Option Addr} {c : Nat} {L : List Int} (h : IntR B w ad c L) (h0 : 0 < L.length) : ∃ g, ad = some ⟨g, 0, none⟩ ∧ B ≤ g ∧ g < w.heap.size ∧ ∀ j, j < L.length → w.cell? ⟨g, j, none⟩ = some (.int .i64 (L[j]?.getD 0)) := by
  have hr := own_rowAt9 h
  rcases h.2 with ⟨-, hz⟩ | ⟨g, cap, cur, hv, hB, hh, -⟩
  · omega
  · simp only [Value.slice.injEq] at hv
    obtain ⟨rfl, -, -⟩ := hv
    obtain ⟨b, off, e, hb, hc⟩ := hr (fun e => by rw [e] at h0; simp at h0)
    simp only [Option.some.injEq, Addr.mk.injEq] at e
    obtain ⟨rfl, rfl, -⟩ := e
    exact ⟨g, rfl, hB, hb, fun j hj => by have := hc j hj; rwa [Nat.zero_add] at this⟩
theorem lkU_next (F : Nat → Nat) (L : List Int) (too m p : Nat) (hm : m < L.length) (hp : L[m]?.getD 0 = (p : Int)) (hs : L.Pairwise (· < ·)) : ∀ j, upd (lkU F (L.take m) too) p (lkU F (L.take m) too p ||| too) j = lkU F (L.take (m + 1)) too j := by
  intro j
  have hg : L[m] = (p : Int) := by rw [List.getElem?_eq_getElem hm] at hp; exact hp
  rw [List.take_succ_eq_append_getElem hm, hg]
  unfold upd
  by_cases hj : j = p
  · subst hj
    rw [if_pos rfl]
    unfold lkU
    rw [if_pos (show (j : Int) ∈ L.take m ++ [(j : Int)] by simp)]
    by_cases h9 : (j : Int) ∈ L.take m
    · rw [if_pos h9, Nat.or_assoc, Nat.or_self]
    · rw [if_neg h9]
  · rw [if_neg hj]
    unfold lkU
    have : ((j : Int) ∈ L.take m ++ [(p : Int)]) ↔ (j : Int) ∈ L.take m := by
      rw [List.mem_append]
      constructor
      · rintro (h | h)
        · exact h
        · simp at h; omega
      · exact .inl
    by_cases h : (j : Int) ∈ L.take m
    · rw [if_pos h, if_pos (this.2 h)]
    · rw [if_neg h, if_neg (fun h9 => h (this.1 h9))]
theorem lkU_lt {F : Nat → Nat} {L : List Int} {too p : Nat} (h1 : F p < 18446744073709551616) (h2 : too < 18446744073709551616) : lkU F L too p < 18446744073709551616 := by
  unfold lkU
  split
  · exact Nat.or_lt_two_pow (n := 64) h1 h2
  · exact h1
theorem grown_trans9 {w w1 w2 : World} {row : Option Nat} (h1 : w.grownBy w1 row) (h2 : w1.grownBy w2 row) : w.grownBy w2 row :=
  ⟨h2.os.trans h1.os, h2.tape.trans h1.tape, h2.output.trans h1.output, Nat.le_trans h1.size h2.size, fun k hk hne => (h2.block k (Nat.lt_of_lt_of_le hk h1.size) hne).trans (h1.block k hk hne)⟩
theorem grown_of {w w1 : World} {row : Option Nat} (h : Below w.heap.size w w1) : w.grownBy w1 row := ⟨h.os, h.tape, h.output, h.size, fun k hk _ => h.block k hk⟩
theorem grown_below {w w1 : World} {T B : Nat} (h : w.grownBy w1 (some T)) (hT : B ≤ T) (hB : B ≤ w.heap.size) : Below B w w1 := ⟨h.os, h.tape, h.output, h.size, fun k hk => h.block k (by omega) (by intro e; simp at e; omega)⟩
theorem grown_set (w : World) (T i : Nat) (v : Value) : w.grownBy (w.setCell ⟨T, i, none⟩ v) (some T) := ⟨rfl, rfl, rfl, by simp [World.setCell], fun k hk hne => Below.heap_setCell _ _ _ _ (by intro e; exact hne (by rw [e]))⟩
theorem grown_drew9 {w w1 : World} {row : Option Nat} (h : w.grownBy w1 row) : w.grownBy w1.drew row := ⟨h.os, h.tape, h.output, h.size, h.block⟩
set_option maxRecDepth 100000 in
set_option maxHeartbeats 4000000 in
theorem i_link (T a too : Nat) (mv : Value) (F : Nat → Nat) (e : Nat) (w : World) (ha : a < 2199023255552) (hto : too < 18446744073709551616) (hF : ∀ p, p < 41 → F p < 18446744073709551616) (hT : TzT w) (hC : CellsAt w T (tkC mv F e)) :
    Calls Tryd.prog 70 #[.pointer (some ⟨T, 0, none⟩), .int .u64 a, .int .u64 too] w fun r w' => r = .returned (.tuple #[]) ∧ CellsAt w' T (tkC mv (lkU F (bts a) too) e) ∧ w.grownBy w' (some T) := by
  have HT := hide hT
  have HC := hide hC
  clear hT hC
  go_enter Tryd.func70, Tryd.ntmps70
  have CL := hide (i_list a w (by omega) HT.out)
  go_wp2_with (first | (go_at_call 43; refine CL.out.mono ?_; rintro e w2 ⟨ad2, c2, rfl, ho2, hb2⟩; have HO2 := hide ho2; have HB2 := hide hb2; clear ho2 hb2))
  have hr := fun z hz => bts_range (n := 41) (x := a) (by omega) ha z hz
  have hlen := bts_len (x := a) (by omega)
  have HSO := hide (bts_sorted (a + 1) a (by omega) (by omega))
  obtain ⟨L, hL⟩ : ∃ L, bts a = L := ⟨_, rfl⟩
  rw [hL] at HO2 hr hlen HSO ⊢
  have HR := hide hr
  have HL := hide hL
  clear hL hr CL
  have HC2 : Hid (CellsAt w2 T (tkC mv F e)) := hide (cellsAt_go HC.out HB2.out (cellsAt_lt HC.out))
  go_loopw [11] (fun mv9 wr => ∃ (m : Nat), m ≤ L.length ∧ mv9 = .int .i64 m ∧ Hid (CellsAt wr T (tkC mv (lkU F (L.take m) too) e)) ∧ Hid (w2.grownBy wr (some T))) (fun mv9 _ => L.length - (intOf mv9).toNat)
  case atStart => exact ⟨0, Nat.zero_le _, rfl, hide (by rw [List.take_zero, tkC_congr (G := F) (fun p _ => by simp [lkU])]; exact HC2.out), hide ⟨rfl, rfl, rfl, Nat.le_refl _, fun _ _ _ => rfl⟩⟩
  case round =>
    obtain ⟨m, hm, rfl, HCr, HG⟩ := hrel
    by_cases hlt : m < L.length
    · obtain ⟨g, rfl, hg1, hg2, hgc⟩ := intR_cells HO2.out (by omega)
      have hTw := cellsAt_lt HC.out
      have k0 := HG.out.cell (hgc m hlt) (by intro e9; simp at e9; omega)
      have hz := HR.out (L[m]?.getD 0) (by rw [List.getElem?_eq_getElem hlt]; exact List.getElem_mem hlt)
      have HV := hide (rfl : L[m]?.getD 0 = L[m]?.getD 0)
      obtain ⟨v, hv⟩ : ∃ v, L[m]?.getD 0 = v := ⟨_, rfl⟩
      rw [hv] at k0 hz
      have HV := hide hv
      obtain ⟨p, rfl⟩ : ∃ p : Nat, v = (p : Int) := ⟨v.toNat, by omega⟩
      have hp41 : p < 41 := by omega
      have k1 := (cellsAt_cell HCr.out (1 + p)).trans (tkC_at _ _ _ _ hp41)
      have HNX := hide (lkU_next F L too m p hlt hv HSO.out)
      have hlf := lkU_lt (L := L.take m) (too := too) (hF p hp41) hto
      obtain ⟨x, hx⟩ : ∃ x, lkU F (L.take m) too p = x := ⟨_, rfl⟩
      rw [hx] at k1 HNX hlf
      have b1 : bits .or .u64 (x : Int) (too : Int) = ((x ||| too : Nat) : Int) := u64_or_nat x too hlf hto
      have kf := cellsAt_frozen HCr.out (1 + p)
      have hmi : (m : Int) < (L.length : Int) := by omega
      have hm0 : (0 : Int) ≤ (m : Int) := by omega
      have hpi : (p : Int) < 41 := by omega
      have hp0 : (0 : Int) ≤ (p : Int) := by omega
      clear hv hx hgc hz
      go_wp2
      go_region
      go_wp2
      go_roundw
      case rel =>
        refine ⟨m + 1, by omega, by go_num, hide ?_, hide ?_⟩
        · have h9 := cellsAt_set (i := 1 + p) (w := wr.drew) (show CellsAt wr.drew T _ from HCr.out) (.int .u64 ((x ||| too : Nat) : Int))
          rw [tkC_set _ _ _ _ _ hp41, tkC_congr (fun j _ => HNX.out j)] at h9
          exact h9
        · exact grown_drew9 (grown_trans9 HG.out (grown_set wr T (1 + p) _))
      case measure => simp [intOf]; omega
    · have hml : m = L.length := by omega
      subst hml
      rw [List.take_length] at HCr
      go_wp2
      go_end0
      exact ⟨rfl, by rw [HL.out]; exact HCr.out, grown_trans9 (grown_of HB2.out) HG.out⟩
theorem cellsAt_grown {w w' : World} {G T : Nat} {cs : Array Value} (h : CellsAt w G cs) (hg : w.grownBy w' (some T)) (hne : G ≠ T) : CellsAt w' G cs := by
  obtain ⟨t, h⟩ := h
  exact ⟨t, (hg.block G (Array.getElem?_eq_some_iff.1 h).1 (by intro e; simp at e; exact hne e)).trans h⟩
theorem grown_far {w w' : World} {T : Nat} {p : Addr} (h : w.grownBy w' (some T)) (v : Value) (hp : w.heap.size ≤ p.block) : w.grownBy (w'.setCell p v) (some T) := ⟨h.os, h.tape, h.output, by have := h.size; simp [World.setCell]; omega, fun k hk hne => (Below.heap_setCell _ _ _ _ (by omega)).trans (h.block k hk hne)⟩
theorem boxes3 (w : World) (a b c : Array Value) (t1 t2 t3 : TypeId) : CellsAt (((w.alloc (.cells a t1)).alloc (.cells b t2)).alloc (.cells c t3)) w.heap.size a ∧ CellsAt (((w.alloc (.cells a t1)).alloc (.cells b t2)).alloc (.cells c t3)) (w.heap.size + 1) b ∧ CellsAt (((w.alloc (.cells a t1)).alloc (.cells b t2)).alloc (.cells c t3)) (w.heap.size + 1 + 1) c ∧ Below w.heap.size w (((w.alloc (.cells a t1)).alloc (.cells b t2)).alloc (.cells c t3)) := by
  have b1 : Below (w.alloc (.cells a t1)).heap.size (w.alloc (.cells a t1)) ((w.alloc (.cells a t1)).alloc (.cells b t2)) := (Below.refl _ _).alloc (Nat.le_refl _) _
  have b2 : Below ((w.alloc (.cells a t1)).alloc (.cells b t2)).heap.size ((w.alloc (.cells a t1)).alloc (.cells b t2)) (((w.alloc (.cells a t1)).alloc (.cells b t2)).alloc (.cells c t3)) := (Below.refl _ _).alloc (Nat.le_refl _) _
  refine ⟨cellsAt_go (cellsAt_go (cellsAt_new w a t1) b1 (by simp)) b2 (by simp; omega), ?_, ?_, ?_⟩
  · have := cellsAt_go (cellsAt_new (w.alloc (.cells a t1)) b t2) b2 (by simp)
    simpa using this
  · have := cellsAt_new ((w.alloc (.cells a t1)).alloc (.cells b t2)) c t3
    simpa using this
  · iterate 3 (refine Below.alloc ?_ (by simp; try omega) _)
    exact Below.refl _ _
set_option maxRecDepth 100000 in
set_option maxHeartbeats 4000000 in
theorem i_joined (T : Nat) (e1 : Bool) (f1 l1 : Nat) (e2 : Bool) (f2 l2 : Nat) (mv : Value) (F : Nat → Nat) (e : Nat) (w : World) (h1 : f1 < 2199023255552) (h2 : l1 < 2199023255552) (h3 : f2 < 2199023255552) (h4 : l2 < 2199023255552) (hF : ∀ p, p < 41 → F p < 18446744073709551616) (hT : TzT w) (hC : CellsAt w T (tkC mv F e)) :
    Calls Tryd.prog 67 #[.pointer (some ⟨T, 0, none⟩), paV e1 f1 l1, paV e2 f2 l2] w fun r w' => r = .returned (paV (e1 && e2) (thF e1 f1 f2) (thL e2 l2 l1)) ∧ CellsAt w' T (tkC mv (lkU F (bts l1) f2) e) ∧ w.grownBy w' (some T) := by
  have HT := hide hT
  have HC := hide hC
  have HF := hide hF
  clear hT hC hF
  have CL := hide (fun (W : World) (hW : Below w.heap.size w W) => i_link T l1 f2 mv F e W h2 (by omega) HF.out (tzT_go HT.out hW (Nat.le_refl _)) (cellsAt_go HC.out hW (cellsAt_lt HC.out)))
  have CT := hide (fun (W : World) => i_then e1 f1 l1 e2 f2 l2 W (by omega) (by omega) (by omega) (by omega))
  unfold paV at CT ⊢
  go_enter Tryd.func67, Tryd.ntmps67
  have HX := hide (boxes3 w #[.bool e1, .int .u64 (f1 : Int), .int .u64 (l1 : Int)] #[.bool e2, .int .u64 (f2 : Int), .int .u64 (l2 : Int)] #[.bool false, .int .u64 0, .int .u64 0] 83 83 83)
  have hTl := cellsAt_lt HC.out
  go_wp2_with (first
    | (go_at_call 70; refine (CL.out _ HX.out.2.2.2).mono ?_; rintro r w2 ⟨rfl, hc2, hg2⟩; have HC2 := hide hc2; have HG2 := hide (grown_trans9 (grown_of HX.out.2.2.2) hg2); have hA := cellsAt_grown HX.out.1 hg2 (by omega); have hB := cellsAt_grown HX.out.2.1 hg2 (by omega); have hR := cellsAt_grown HX.out.2.2.1 hg2 (by omega); have a0 := cellsAt_cell hA 0; have a1 := cellsAt_cell hA 1; have a2 := cellsAt_cell hA 2; have d0 := cellsAt_cell hB 0; have d1 := cellsAt_cell hB 1; have d2 := cellsAt_cell hB 2; have r0 := cellsAt_cell hR 0; have r1 := cellsAt_cell hR 1; have r2 := cellsAt_cell hR 2; simp only [List.getElem?_toArray, List.getElem?_cons_zero, List.getElem?_cons_succ] at a0 a1 a2 d0 d1 d2 r0 r1 r2; have HRB := hide hR; clear hc2 hg2 hA hB hR)
    | (go_at_call 87; refine (CT.out _).mono ?_; rintro r w3 ⟨rfl, hb3⟩; have HC3 := hide (cellsAt_go HC2.out hb3 (cellsAt_lt HC2.out)); have HG3 := hide (grown_trans9 HG2.out (grown_of hb3)); have hR3 := cellsAt_go HRB.out hb3 (cellsAt_lt HRB.out); have r0 := cellsAt_cell hR3 0; have r1 := cellsAt_cell hR3 1; have r2 := cellsAt_cell hR3 2; have z0 := cellsAt_frozen hR3 0; have z1 := cellsAt_frozen hR3 1; have z2 := cellsAt_frozen hR3 2; simp only [List.getElem?_toArray, List.getElem?_cons_zero, List.getElem?_cons_succ] at r0 r1 r2; clear hb3 hR3))
  refine bodyPost_ret (v := .agg #[_, _, _]) (by simp [results, Tryd.results67, go_sem, r0, r1, r2]; first | done | exact ⟨rfl, rfl, rfl⟩) rfl ⟨rfl, ?_, ?_⟩
  · refine cellsAt_far (cellsAt_far (cellsAt_far HC3.out _ ?_) _ ?_) _ ?_ <;> (simp only []; omega)
  · refine grown_far (grown_far (grown_far HG3.out _ ?_) _ ?_) _ ?_ <;> (simp only []; omega)
end Go.Proofs.YtfohfljdgmlibaaDoor
