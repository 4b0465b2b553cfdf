/-
  Texts put together: RgD, RrK.
-/
import Derived.Test.YtibagghpimadfaaGreatDoorV23
import Derived.Test.YtibagghpimadfaaGreatDoorV32
import Derived.Test.YtibagghpimadfaaGreatDoorV37
import Derived.Test.YtibagghpimadfaaGreatDoorV22
import Derived.Lib.QuoteLoop
import Derived.Lib.TrimUEq
/-
  Texts of expressions: the bytes of a right expression's text are those of its characters. No step of the program in this text.
-/
namespace Go.Proofs.YtibagghpimadfaaGreatDoor
open Go.RowKit Go.Joins
set_option linter.unusedVariables false
set_option linter.unusedSimpArgs false
/-- The bytes of characters. -/
def bL (L : List Int) : List UInt8 := L.flatMap fun c => (Utf8.encode c).data.toList
theorem bL_app (a b : List Int) : bL (a ++ b) = bL a ++ bL b := by unfold bL; rw [List.flatMap_append]
theorem bL_cons (c : Int) (b : List Int) : bL (c :: b) = (Utf8.encode c).data.toList ++ bL b := by unfold bL; rw [List.flatMap_cons]
theorem bL_one (c : Int) : bL [c] = (Utf8.encode c).data.toList := by rw [bL_cons]; simp [bL]
theorem ch_bytes (l : List UInt8) (c : Int) : (chT l c).data.toList = bL (chL l c) := by
  unfold chT chL
  by_cases e1 : c = 10
  · rw [if_pos e1, if_pos e1]; decide +kernel
  rw [if_neg e1, if_neg e1]
  by_cases e2 : c = 13
  · rw [if_pos e2, if_pos e2]; decide +kernel
  rw [if_neg e2, if_neg e2]
  by_cases e3 : c = 9
  · rw [if_pos e3, if_pos e3]; decide +kernel
  rw [if_neg e3, if_neg e3]
  cases hs : isS l c
  · rw [if_neg (by decide), if_neg (by decide), bL_one]
  · rw [if_pos rfl, if_pos rfl, te_app, bL_cons, bL_one]
    congr 1
def lo (L : List (Int × Int)) (i : Nat) : Int := (L[i]?.getD (0, 0)).1
def hi (L : List (Int × Int)) (i : Nat) : Int := (L[i]?.getD (0, 0)).2
theorem ctA_bytes (s : ByteArray) (L : List (Int × Int)) : ∀ k, k ≤ L.length → (ctA s (lo L) (hi L) k).data.toList = s.data.toList ++ bL (rgsL (L.take k))
  | 0, _ => by simp [ctA, rgsL, bL]
  | k + 1, h => by
    have ih := ctA_bytes s L k (by omega)
    have hk : L[k]? = some L[k] := List.getElem?_eq_getElem (by omega)
    have e1 : lo L k = L[k].1 := by unfold lo; rw [hk]; rfl
    have e2 : hi L k = L[k].2 := by unfold hi; rw [hk]; rfl
    have ht : rgsL (L.take (k + 1)) = rgsL (L.take k) ++ rgL L[k] := by
      rw [List.take_add_one, hk]
      unfold rgsL
      rw [List.flatMap_append]
      simp
    rw [ht, bL_app, ← List.append_assoc, ← ih, ctA, e1, e2]
    unfold rgL
    by_cases e : L[k].1 = L[k].2
    · rw [if_pos e, if_pos e, te_app, ch_bytes]
    · rw [if_neg e, if_neg e, te_app, te_app, te_app, ch_bytes, ch_bytes, bL_app, bL_cons]
      have h45 : (Utf8.encode 45).data.toList = [45] := by decide +kernel
      rw [h45]
      simp
theorem ct_bytes (nt : Bool) (L : List (Int × Int)) : (ctT nt L.length (lo L) (hi L)).data.toList = bL (ctL nt L) := by
  have h91 : (Utf8.encode 91).data.toList = [91] := by decide +kernel
  have h93 : (Utf8.encode 93).data.toList = [93] := by decide +kernel
  have h94 : (Utf8.encode 94).data.toList = [94] := by decide +kernel
  unfold ctT ctL
  cases h : oneL nt L with
  | some c =>
    obtain ⟨rfl, rfl⟩ := one_of h
    rw [if_pos (by simp [oneC, lo, hi])]
    exact ch_bytes sgO c
  | none =>
    have ho : ¬ oneC nt L.length (lo L) (hi L) = true := fun h9 => by
      unfold oneC at h9
      simp only [Bool.and_eq_true, Bool.not_eq_true', beq_iff_eq] at h9
      obtain ⟨h1, h2, h3⟩ := h9
      obtain ⟨p, rfl⟩ := List.length_eq_one_iff.1 (show L.length = 1 by omega)
      subst h1
      have h3' : p.1 = p.2 := h3
      simp [oneL, h3'] at h
    rw [if_neg ho, te_app, ctA_bytes _ L L.length (Nat.le_refl _), List.take_length]
    show _ = bL (91 :: ((if nt = true then [94] else []) ++ (rgsL L ++ [93])))
    rw [bL_cons, bL_app, bL_app, bL_one, h91, h93]
    cases nt
    · simp [ct0, bL]
    · simp [ct0, bL_one, h94]
theorem it_bytes {n : Int} (h0 : 0 ≤ n) (h1 : n ≤ 20) : (itB n).data.toList = bL (itL n) := by
  have hall : ∀ k : Fin 21, (itB (k.val : Int)).data.toList = bL (itL (k.val : Int)) := by decide +kernel
  have := hall ⟨n.toNat, by omega⟩
  have e : ((n.toNat : Nat) : Int) = n := by omega
  simpa [e] using this
theorem cn_bytes {mn mx : Int} (h0 : 0 ≤ mn) (h1 : mn ≤ 20) (h2 : mx = -1 ∨ (mn ≤ mx ∧ mx ≤ 20)) : (cnT mn mx).data.toList = bL (cnL mn mx) := by
  have h63 : (Utf8.encode 63).data.toList = [63] := by decide +kernel
  have h42 : (Utf8.encode 42).data.toList = [42] := by decide +kernel
  have h43 : (Utf8.encode 43).data.toList = [43] := by decide +kernel
  have h123 : (Utf8.encode 123).data.toList = [123] := by decide +kernel
  have h125 : (Utf8.encode 125).data.toList = [125] := by decide +kernel
  have h44 : (Utf8.encode 44).data.toList = [44] := by decide +kernel
  unfold cnT cnL
  by_cases e1 : mn = 0 ∧ mx = 1
  · rw [if_pos e1, if_pos e1, bL_one, h63]
  rw [if_neg e1, if_neg e1]
  by_cases e2 : mn = 0 ∧ mx = -1
  · rw [if_pos e2, if_pos e2, bL_one, h42]
  rw [if_neg e2, if_neg e2]
  by_cases e3 : mn = 1 ∧ mx = -1
  · rw [if_pos e3, if_pos e3, bL_one, h43]
  rw [if_neg e3, if_neg e3]
  by_cases e4 : mn = mx
  · rw [if_pos e4, if_pos e4, te_app, te_app, it_bytes h0 h1, bL_cons, bL_app, bL_one, h123, h125]
    simp
  rw [if_neg e4, if_neg e4]
  by_cases e5 : mx = -1
  · rw [if_pos e5, if_pos e5, te_app, te_app, it_bytes h0 h1, bL_cons, bL_app, bL_cons, bL_one, h123, h44, h125]
    simp
  · rw [if_neg e5, if_neg e5, te_app, te_app, te_app, te_app, it_bytes h0 h1, it_bytes (n := mx) (by omega) (by omega), bL_cons, bL_app, bL_cons, bL_app, bL_one, h123, h44, h125]
    simp
theorem wr_bytes {ks : List Int} {k : Int} {t : ByteArray} {l : List Int} (h : t.data.toList = bL l) : (wrT ks k t).data.toList = bL (wrL ks k l) := by
  have h40 : (Utf8.encode 40).data.toList = [40] := by decide +kernel
  have h41 : (Utf8.encode 41).data.toList = [41] := by decide +kernel
  unfold wrT wrL
  split
  · rw [te_app, te_app, h, bL_cons, bL_app, bL_one, h40, h41]
    simp
  · exact h
/-- The bytes of a node's text. -/
theorem nt_bytes (X : List Nd) (hok : ∀ j, j < X.length → nodeX (rxOf X) j = true) : ∀ (m n f : Nat), n < m → n < X.length → trX (rxOf X) n = some f → (ntX (rxOf X) n).data.toList = bL (ntL X n)
  | 0, n, f, h, _, _ => by omega
  | m + 1, n, f, h, hn, ht => by
    have hg := List.getElem?_eq_getElem hn
    have hat := ndAt_of hg
    have hK : (rxOf X).K n = (ndAt X n).k := rfl
    have hA : (rxOf X).A n = (ndAt X n).a := rfl
    have hB : (rxOf X).B n = (ndAt X n).b := rfl
    have h124 : (Utf8.encode 124).data.toList = [124] := by decide +kernel
    have hKj : ∀ j, (rxOf X).K j = (ndAt X j).k := fun _ => rfl
    rcases nd_form hg (hok n hn) with e | ⟨nt, L, e, hL⟩ | ⟨a, b, e⟩ | ⟨a, b, e⟩ | ⟨a, mn, mx, e, h0, h1, h2⟩
    · rw [e] at hat
      have htl : ntL X n = [40, 41] := by rw [ntL, hat]; rfl
      rw [nt_empty (by rw [hK, hat]; rfl), htl]
      decide +kernel
    · rw [e] at hat
      rw [nt_class (by rw [hK, hat]; rfl), ntL, hat]
      have e1 : (rxOf X).NT n = nt := by show (ndAt X n).nt = nt; rw [hat]; rfl
      have e2 : (rxOf X).NR n = L.length := by show (ndAt X n).L.length = L.length; rw [hat]; rfl
      have e3 : (rxOf X).L n = lo L := by funext i; show ((ndAt X n).L[i]?.getD (0, 0)).1 = _; rw [hat]; rfl
      have e4 : (rxOf X).H n = hi L := by funext i; show ((ndAt X n).L[i]?.getD (0, 0)).2 = _; rw [hat]; rfl
      rw [e1, e2, e3, e4]
      exact ct_bytes nt L
    · rw [e] at hat
      obtain ⟨c, pA, pB, ha, hb, hc1, hc2, t1, t2⟩ := tr_parts ht (.inl (by rw [hK, hat]; rfl))
      have iB := nt_bytes X hok m (n - 1) c (by omega) (by omega) t1
      have iA := nt_bytes X hok m (c - 1) f (by omega) (by omega) t2
      have pA' : a = ((c - 1 : Nat) : Int) := by rw [hA, hat] at pA; exact pA
      have pB' : b = ((n - 1 : Nat) : Int) := by rw [hB, hat] at pB; exact pB
      have htl : ntL X n = wrL [4] (ndAt X (c - 1)).k (ntL X (c - 1)) ++ wrL [3, 4] (ndAt X (n - 1)).k (ntL X (n - 1)) := by
        rw [ntL, hat]
        show (if (3 : Int) = 2 then _ else if (3 : Int) = 3 then (if h : a.toNat < n ∧ b.toNat < n then wrL [4] (ndAt X a.toNat).k (ntL X a.toNat) ++ wrL [3, 4] (ndAt X b.toNat).k (ntL X b.toNat) else []) else _) = _
        rw [if_neg (by decide), if_pos rfl, pA', pB']
        simp only [Int.toNat_natCast]
        rw [dif_pos ⟨ha, hb⟩]
      rw [nt_seq (by rw [hK, hat]; rfl) pA pB ha hb, te_app, wr_bytes iA, wr_bytes iB, htl, bL_app, hKj, hKj]
    · rw [e] at hat
      obtain ⟨c, pA, pB, ha, hb, hc1, hc2, t1, t2⟩ := tr_parts ht (.inr (by rw [hK, hat]; rfl))
      have iB := nt_bytes X hok m (n - 1) c (by omega) (by omega) t1
      have iA := nt_bytes X hok m (c - 1) f (by omega) (by omega) t2
      have pA' : a = ((c - 1 : Nat) : Int) := by rw [hA, hat] at pA; exact pA
      have pB' : b = ((n - 1 : Nat) : Int) := by rw [hB, hat] at pB; exact pB
      have htl : ntL X n = ntL X (c - 1) ++ 124 :: wrL [4] (ndAt X (n - 1)).k (ntL X (n - 1)) := by
        rw [ntL, hat]
        show (if (4 : Int) = 2 then _ else if (4 : Int) = 3 then _ else if (4 : Int) = 4 then (if h : a.toNat < n ∧ b.toNat < n then wrL [] (ndAt X a.toNat).k (ntL X a.toNat) ++ 124 :: wrL [4] (ndAt X b.toNat).k (ntL X b.toNat) else []) else _) = _
        rw [if_neg (by decide), if_neg (by decide), if_pos rfl, pA', pB']
        simp only [Int.toNat_natCast]
        rw [dif_pos ⟨ha, hb⟩]
        rfl
      rw [nt_or (by rw [hK, hat]; rfl) pA pB ha hb, te_app, te_app, iA, wr_bytes iB, htl, bL_app, bL_cons, h124, hKj]
      simp
    · rw [e] at hat
      obtain ⟨pA, ha, t1⟩ := tr_part1 ht (by rw [hK, hat]; rfl)
      have iA := nt_bytes X hok m (n - 1) f (by omega) (by omega) t1
      have pA' : a = ((n - 1 : Nat) : Int) := by rw [hA, hat] at pA; exact pA
      have htl : ntL X n = wrL [3, 4, 5] (ndAt X (n - 1)).k (ntL X (n - 1)) ++ cnL mn mx := by
        rw [ntL, hat]
        show (if (5 : Int) = 2 then _ else if (5 : Int) = 3 then _ else if (5 : Int) = 4 then _ else if (5 : Int) = 5 then (if h : a.toNat < n then wrL [3, 4, 5] (ndAt X a.toNat).k (ntL X a.toNat) ++ cnL mn mx else []) else _) = _
        rw [if_neg (by decide), if_neg (by decide), if_neg (by decide), if_pos rfl, pA']
        simp only [Int.toNat_natCast]
        rw [dif_pos ha]
      have e1 : (rxOf X).MN n = mn := by show (ndAt X n).mn = mn; rw [hat]; rfl
      have e2 : (rxOf X).MX n = mx := by show (ndAt X n).mx = mx; rw [hat]; rfl
      rw [nt_cnt (by rw [hK, hat]; rfl) pA ha, te_app, wr_bytes iA, e1, e2, cn_bytes h0 h1 h2, htl, bL_app, hKj]
end Go.Proofs.YtibagghpimadfaaGreatDoor

/-
  Contract: what the program reads as an expression.
-/
namespace Go.Proofs.YtibagghpimadfaaGreatDoor
open Go.RowKit Go.Joins
set_option linter.unusedVariables false
set_option linter.unusedSimpArgs false
theorem decL_ch (l : List UInt8) : chB ((Lib.decodeL l).1 : Int) = true := by
  have h := Lib.decodeN_valid l.length (l.getD 0 0).toNat (l.getD 1 0).toNat (l.getD 2 0).toNat (l.getD 3 0).toNat (UInt8.toNat_lt _)
  rw [← Lib.decodeL_N] at h
  unfold chB
  rw [decide_eq_true_iff]
  omega
theorem runesL_ch : ∀ (f : Nat) (l : List UInt8), l.length ≤ f → ∀ x, runesL l = some x → ∀ c ∈ x, chB c = true
  | 0, l, hf, x, hx => by
    have : l = [] := List.length_eq_zero_iff.1 (by omega)
    subst this
    rw [runesL_nil] at hx
    cases hx
    intro c hc; cases hc
  | f + 1, l, hf, x, hx => by
    by_cases h : l = []
    · subst h
      rw [runesL_nil] at hx
      cases hx
      intro c hc; cases hc
    · by_cases hb : Lib.decodeL l = (65533, 1)
      · rw [runesL_bad h hb] at hx; cases hx
      · have hl : 0 < l.length := List.length_pos_iff.2 h
        have hw := Lib.decodeL_width l
        rw [runesL_step h hb] at hx
        cases hy : runesL (l.drop (Lib.decodeL l).2) with
        | none => rw [hy] at hx; cases hx
        | some y =>
          rw [hy] at hx
          simp at hx
          subst hx
          have ih := runesL_ch f (l.drop (Lib.decodeL l).2) (by rw [List.length_drop]; omega) y hy
          intro c hc
          rcases List.mem_cons.1 hc with rfl | hc
          · exact decL_ch l
          · exact ih c hc
theorem outL_ch (s : ByteArray) : ∀ c ∈ outL (rns s), chB c = true := by
  unfold rns
  by_cases h : s.size ≤ 20000
  · rw [if_pos h]
    cases hx : runesL s.data.toList with
    | none => intro c hc; simp [outL] at hc
    | some x => exact runesL_ch _ s.data.toList (Nat.le_refl _) x hx
  · rw [if_neg h]; intro c hc; simp [outL] at hc
/-- How many ranges a right node has. -/
theorem nodeB_nr {kd : Int} {nt : Bool} {n : Nat} {L H : Nat → Int} {a b mn mx : Int} (h : nodeB kd nt n L H a b mn mx = true) : n ≤ 12 := by
  unfold nodeB at h
  split at h
  · simp at h; omega
  · split at h
    · unfold rowB at h; simp at h; omega
    · split at h
      · simp at h; omega
      · split at h
        · simp at h; omega
        · cases h
theorem rx_len {X : List Nd} (h : rxB (rxOf X) = true) : 1 ≤ X.length ∧ X.length ≤ 120 := by
  by_cases h9 : 1 ≤ (rxOf X).len ∧ (rxOf X).len ≤ 120
  · exact h9
  · rw [rxB_size h9] at h; cases h
theorem rx_node {X : List Nd} (h : rxB (rxOf X) = true) {j : Nat} {nd : Nd} (hj : X[j]? = some nd) : nd.L.length ≤ 12 := by
  have hlt : j < X.length := (List.getElem?_eq_some_iff.1 hj).1
  cases hx : nodeX (rxOf X) j with
  | false => rw [rxB_node (X := rxOf X) hlt hx] at h; cases h
  | true =>
    unfold nodeX at hx
    have h9 := nodeB_nr hx
    have e : (rxOf X).NR j = nd.L.length := by simp only [rxOf, ndAt_of hj]
    omega
theorem xo_z {Z Z' B : Nat} {S : Nat → Prop} {w : World} {ad : Option Addr} {c : Nat} {X : List Nd} (h : XOZ Z B S w ad c X) (hz : ∀ (j : Nat) (nd : Nd), X[j]? = some nd → nd.L.length ≤ Z') : XOZ Z' B S w ad c X := by
  obtain ⟨xs, h1, h2, h3⟩ := h
  refine ⟨xs, h1, fun j nd hj => ?_, h3⟩
  obtain ⟨a, cp, b1, b2, b3, b4⟩ := h2 j nd hj
  exact ⟨a, cp, b1, b2, b3, hz j nd hj⟩
theorem xo_at5 {Z B : Nat} {S : Nat → Prop} {w : World} {ad : Option Addr} {c : Nat} {X : List Nd} (h : XOZ Z B S w ad c X) {j : Nat} (hj : j < X.length) : (ndAt X j).L.length ≤ Z := by
  obtain ⟨xs, h1, h2, h3⟩ := h
  obtain ⟨a, cp, b1, b2, b3, b4⟩ := h2 j X[j] (List.getElem?_eq_getElem hj)
  rw [ndAt_of (List.getElem?_eq_getElem hj)]
  exact b4
/-- What is read as an expression. -/
def rgW (C : List Int) (b : Bool) : Option (List Nd) := if b = true ∧ C.length ≤ 400 then (match rdW C with
  | none => none
  | some X => if rxB (rxOf X) = true then some X else none) else none
def LtAns (V : List Nd) (ok : Bool) (w : World) (e : Ending) (w' : World) : Prop := ∃ ad c, e = .returned (.tuple #[.slice ad V.length c, .bool ok]) ∧ XO w.heap.size (fun j => w.heap.size ≤ j) w' ad c V ∧ Below w.heap.size w w'
def rgV (C : List Int) (b : Bool) : List Nd := (rgW C b).getD []
def rgO (C : List Int) (b : Bool) : Bool := (rgW C b).isSome
theorem rg_no {C : List Int} {b : Bool} {w w' : World} (h : rgW C b = none) (hb : Below w.heap.size w w') : LtAns (rgV C b) (rgO C b) w (.returned (.tuple #[.slice none 0 0, .bool false])) w' := by
  unfold rgV rgO
  rw [h]
  exact ⟨none, 0, rfl, xo_nil _ _ _, hb⟩
theorem rg_yes {C : List Int} {b : Bool} {X : List Nd} {w w' : World} {ad : Option Addr} {c : Nat} (h : rgW C b = some X) (hx : XOZ 500 w.heap.size (fun j => w.heap.size ≤ j) w' ad c X) (hr : rxB (rxOf X) = true) (hb : Below w.heap.size w w') : LtAns (rgV C b) (rgO C b) w (.returned (.tuple #[.slice ad X.length c, .bool true])) w' := by
  unfold rgV rgO
  rw [h]
  exact ⟨ad, c, rfl, xo_z hx (fun j nd hj => by have := rx_node hr hj; omega), hb⟩
theorem rgV_len (C : List Int) (b : Bool) : (rgV C b).length ≤ 120 := by
  unfold rgV
  cases h : rgW C b with
  | none => simp
  | some X =>
    unfold rgW at h
    split at h
    · split at h
      · cases h
      · split at h
        · rename_i hr
          cases h
          exact (rx_len hr).2
        · cases h
    · cases h
theorem tx_own {B : Nat} {w : World} {ta : Option Addr} {tc : Nat} {C : List Int} (h : w.ownsRow B 2 1 (.slice ta C.length tc) C.length (C.map (Value.int .i64))) (hc : C.length ≤ 20000) (hch : ∀ c ∈ C, chB c = true) (htc : C.length ≤ tc ∧ tc ≤ maxLen) : Tx w.heap.size w ta tc C := by
  refine ⟨htc.1, htc.2, fun h0 => ?_, hch⟩
  obtain ⟨g, cap, hv, -, hg⟩ := h.form h0
  simp only [Value.slice.injEq] at hv
  obtain ⟨rfl, -, rfl⟩ := hv
  refine ⟨g, 0, rfl, hg, fun j c hj => ?_⟩
  have hlt : j < C.length := (List.getElem?_eq_some_iff.1 hj).1
  rw [Nat.zero_add, h.cellAt j (by omega), List.getElem?_map, hj]
  rfl
set_option maxHeartbeats 4000000 in
theorem i_readRegex (s : ByteArray) (C : List Int) (b : Bool) (w : World) (hs : s.size ≤ 1048576) (hTb : Tabs w) (hC : outL (rns s) = C) (hb : (rns s).isSome = b) :
    Calls Tryz.prog 7 #[.string s] w (LtAns (rgV C b) (rgO C b) w) := by
  have CR := hide (i_runes_lb s C b w hs hTb hC hb)
  have hcl : C.length ≤ 20000 := by rw [← hC]; exact outL_len s
  have HCH : Hid (∀ c ∈ C, chB c = true) := hide (by rw [← hC]; exact outL_ch s)
  clear hC hb hTb
  go_enter Tryz.func7, Tryz.ntmps7
  go_wp2_with fail
  refine CR.out.mono ?_
  rintro e w1 ⟨ta, tc, rfl, ho1, hb1⟩
  have HO1 := hide ho1
  have HB1 := hide hb1
  clear ho1 hb1 CR
  cases b
  · have E : Hid (rgW C false = none) := hide (by unfold rgW; rw [if_neg (by simp)])
    go_wp2
    go_ret2
    exact rg_no E.out HB1.out
  · by_cases h4 : 400 < C.length
    · have h4' : (400 : Int) < (C.length : Int) := by omega
      have E : Hid (rgW C true = none) := hide (by unfold rgW; rw [if_neg (by omega)])
      go_wp2
      go_ret2
      exact rg_no E.out HB1.out
    · have h4' : ¬ (400 : Int) < (C.length : Int) := by omega
      have htc : C.length ≤ tc ∧ tc ≤ maxLen := by
        rcases HO1.out.2 with ⟨hv', hz⟩ | ⟨g', cap', cur', hv', -, -, hcc, hmx, -⟩
        · simp only [Value.slice.injEq] at hv'
          unfold maxLen; omega
        · simp only [Value.slice.injEq] at hv'
          omega
      have HI := hide (i_readRx C C.length ta tc w1 rfl (by omega) (tx_own HO1.out hcl HCH.out htc))
      have HE0 : Hid (rgW C true = match rdW C with
        | none => none
        | some X => if rxB (rxOf X) = true then some X else none) := hide (by unfold rgW; rw [if_pos ⟨rfl, by omega⟩] <;> rfl)
      rcases hr : rdW C with _ | X
      · rw [hr] at HI
        have E : Hid (rgW C true = none) := hide (by rw [HE0.out, hr])
        clear hr HE0
        go_wp2_with fail
        refine HI.out.mono ?_
        rintro e w2 ⟨rfl, hb2⟩
        have HB2 := hide (HB1.out.trans (hb2.mono HB1.out.size))
        clear hb2
        go_wp2
        go_ret2
        exact rg_no E.out HB2.out
      · rw [hr] at HI
        have HE1 : Hid (rgW C true = if rxB (rxOf X) = true then some X else none) := hide (by rw [HE0.out, hr])
        have hXl : X.length ≤ 5000 := by
          have h9 : ∃ u, rdC (4 * C.length + 4) C [] = some (u, X) := by
            unfold rdW at hr
            split at hr
            · rename_i Y e9
              cases hr
              exact ⟨_, e9⟩
            · cases hr
          obtain ⟨u, h9⟩ := h9
          have := ((rd_sh _).1 h9).2.2
          simp at this
          omega
        clear hr HE0
        go_wp2_with fail
        refine HI.out.mono ?_
        rintro e w2 ⟨ad, c, rfl, hx, hb2⟩
        have HB2 := hide (HB1.out.trans (hb2.mono HB1.out.size))
        have HX := hide (xo_imp (T := fun j => w.heap.size ≤ j) (xo_lower (B' := w.heap.size) hx HB1.out.size) (fun k _ hs => Nat.le_trans HB1.out.size hs))
        have HG := hide (i_regex (rxOf X) X.length ad c w2 rfl (by unfold maxLen; omega) (fun j hj => by
          have h9 := xo_at5 hx hj
          show (ndAt X j).L.length ≤ maxLen
          unfold maxLen
          omega) (xo_rx hx))
        clear hx hb2 HI
        cases hq : rxB (rxOf X)
        · have E : Hid (rgW C true = none) := hide (by rw [HE1.out, if_neg (by rw [hq]; decide)])
          rw [hq] at HG
          clear hq HE1
          go_wp2_with (first | (go_at_call 9; refine HG.out.mono ?_; rintro e w3 ⟨rfl, hb3⟩; have HB3 := hide (HB2.out.trans (hb3.mono HB2.out.size)); clear hb3))
          go_ret2
          exact rg_no E.out HB3.out
        · have E : Hid (rgW C true = some X) := hide (by rw [HE1.out, if_pos hq])
          have HQ := hide hq
          rw [hq] at HG
          clear hq HE1
          go_wp2_with (first | (go_at_call 9; refine HG.out.mono ?_; rintro e w3 ⟨rfl, hb3⟩; have HB3 := hide (HB2.out.trans (hb3.mono HB2.out.size)); have HX3 := hide (xo_below HX.out hb3); clear hb3))
          go_ret2
          exact rg_yes E.out HX3.out HQ.out HB3.out
end Go.Proofs.YtibagghpimadfaaGreatDoor
