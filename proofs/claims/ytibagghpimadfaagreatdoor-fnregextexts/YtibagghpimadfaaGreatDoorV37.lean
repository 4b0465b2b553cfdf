/-
  Texts put together: RunesLaw0, RnMath.
-/
import Derived.Test.YtibagghpimadfaaGreatDoorV36
import Derived.Test.YtibagghpimadfaaGreatDoorV34
import Derived.Lib.RuneBytes
import Derived.Lib.MapLaws
import Derived.Laws.BytesArg
/-
  What the law over Runes wants besides: rows that stay, a mark on an empty row, how many characters a text has at most.
-/
namespace Go.Proofs.YtibagghpimadfaaGreatDoor
open Go.RowKit
set_option linter.unusedVariables false
set_option linter.unusedSimpArgs false
theorem runesL_len : ∀ (f : Nat) (l : List UInt8), l.length ≤ f → ∀ x, runesL l = some x → x.length ≤ l.length
  | 0, l, hf, x, hx => by
    have : l = [] := List.length_eq_zero_iff.1 (by omega)
    subst this
    rw [runesL_nil] at hx
    cases hx
    exact Nat.le_refl _
  | f + 1, l, hf, x, hx => by
    by_cases h : l = []
    · subst h
      rw [runesL_nil] at hx
      cases hx
      exact Nat.le_refl _
    · by_cases hb : Lib.decodeL l = (65533, 1)
      · rw [runesL_bad h hb] at hx; cases hx
      · have hl : 0 < l.length := List.length_pos_iff.2 h
        have hw := Lib.decodeL_width l
        rw [runesL_step h hb] at hx
        cases hy : runesL (l.drop (Lib.decodeL l).2) with
        | none => rw [hy] at hx; cases hx
        | some y =>
          rw [hy] at hx
          simp at hx
          subst hx
          have := runesL_len f (l.drop (Lib.decodeL l).2) (by rw [List.length_drop]; omega) y hy
          rw [List.length_drop] at this
          simp
          omega
theorem outL_len (s : ByteArray) : (outL (rns s)).length ≤ 20000 := by
  unfold rns
  by_cases h : s.size ≤ 20000
  · rw [if_pos h]
    cases hx : runesL s.data.toList with
    | none => simp [outL]
    | some x =>
      have := runesL_len s.data.toList.length s.data.toList (Nat.le_refl _) x hx
      have e : s.data.toList.length = s.size := Array.length_toList
      rw [e] at this
      show x.length ≤ 20000
      omega
  · rw [if_neg h]; simp [outL]
theorem s_runes_lb (s : ByteArray) (L : List Int) (b : Bool) (w : World) (hs : s.size ≤ 1048576) (hL : outL (rns s) = L) (hb : (rns s).isSome = b) :
    Calls Tryz.prog 42 #[.string s] w fun e w' => ∃ ad c, e = .returned (.tuple #[.slice ad L.length c, .bool b]) ∧ w'.ownsRow w.heap.size 2 1 (.slice ad L.length c) L.length (L.map (Value.int .i64)) ∧ Below w.heap.size w w' := by
  subst hL; subst hb; exact s_runes s w hs
theorem i_runes_lb (s : ByteArray) (L : List Int) (b : Bool) (w : World) (hs : s.size ≤ 1048576) (hT : Tabs w) (hL : outL (rns s) = L) (hb : (rns s).isSome = b) :
    Calls Tryz.prog 10 #[.string s] w fun e w' => ∃ ad c, e = .returned (.tuple #[.slice ad L.length c, .bool b]) ∧ w'.ownsRow w.heap.size 2 1 (.slice ad L.length c) L.length (L.map (Value.int .i64)) ∧ Below w.heap.size w w' := by
  subst hL; subst hb; exact i_runes s w hs hT
theorem own_stays {w w' : World} {B X : Nat} {e : TypeId} {v : Value} {n : Nat} {xs : List Value} (h : w.ownsRow B e 1 v n xs) (hb : Below X w w') (hX : ∀ k, v.ownBlock = some k → k < X) : w'.ownsRow B e 1 v n xs := by
  refine ⟨h.1, ?_⟩
  rcases h.2 with hn | ⟨g, cap, cur, hv, hB, hg, rest⟩
  · exact .inl hn
  · refine .inr ⟨g, cap, cur, hv, hB, ?_, rest⟩
    rw [hb.block g (hX g (by rw [hv]; rfl))]; exact hg
theorem own_rowAt' {w : World} {B n c : Nat} {ad : Option Addr} {e : TypeId} {xs : List Int} (hx : xs.length = n) (h : w.ownsRow B e 1 (.slice ad n c) n (xs.map (Value.int .i64))) : RowAt .i64 w ad xs w.heap.size := by
  intro hne
  rcases h.2 with ⟨hv, h0⟩ | ⟨g, cap, cur, hv, hB, hg, rest⟩
  · exact absurd (List.length_eq_zero_iff.1 (by omega)) hne
  · simp only [Value.slice.injEq] at hv
    obtain ⟨rfl, _, rfl⟩ := hv
    refine ⟨g, 0, rfl, (h.lt g rfl).2, fun j hj => ?_⟩
    rw [Nat.zero_add, h.cellAt j (by omega)]
    simp [List.getElem?_eq_getElem hj]
theorem own_below' {w w' : World} {B : Nat} {e : TypeId} {v : Value} {n : Nat} {xs : List Value} (h : w.ownsRow B e 1 v n xs) (hb : Below w.heap.size w w') : w'.ownsRow B e 1 v n xs :=
  own_stays h hb (fun k hk => (h.lt k hk).2)
theorem tabs_below {w w' : World} (h : Tabs w) (hb : Below w.heap.size w w') : Tabs w' := by
  refine ⟨fun c hc => ?_, fun i hi => ⟨?_, ?_⟩⟩
  · exact (hb.cell (p := ⟨_, c, none⟩) (World.block_lt_of_cell? w _ (h.1 c hc))).trans (h.1 c hc)
  · exact (hb.cell (p := ⟨_, 2 * i, none⟩) (World.block_lt_of_cell? w _ (h.2 i hi).1)).trans (h.2 i hi).1
  · exact (hb.cell (p := ⟨_, 2 * i + 1, none⟩) (World.block_lt_of_cell? w _ (h.2 i hi).2)).trans (h.2 i hi).2
end Go.Proofs.YtibagghpimadfaaGreatDoor

/-
  Plain facts on UTF-8: characters come back from their bytes, and bytes from the characters that they are.
-/
namespace Go.Proofs.YtibagghpimadfaaGreatDoor
open Go.RowKit
set_option linter.unusedVariables false
set_option linter.unusedSimpArgs false
theorem u8n (k : Nat) (h : k < 256) : (k.toUInt8).toNat = k := by
  show (UInt8.ofNat k).toNat = k
  rw [UInt8.toNat_ofNat']; omega
/-- The bytes of one character, with whatever stands behind them, are read as that character. -/
theorem enc_dec {r : Int} (hc : charB r = true) (t : List UInt8) : Lib.decodeL (Lib.encodeRune r ++ t) = (r.toNat, (Lib.encodeRuneZ r).length) := by
  have hr : (0 ≤ r ∧ r ≤ 55295) ∨ (57344 ≤ r ∧ r ≤ 1114111) := of_decide_eq_true hc
  clear hc
  rw [Lib.decodeL_N]
  unfold Lib.encodeRune
  by_cases h1 : r ≤ 127
  · rw [Lib.encodeRuneZ_one (by omega) h1]
    simp only [List.map_cons, List.map_nil, List.cons_append, List.nil_append, List.length_cons, List.length_nil, List.getD_cons_zero, List.getD_cons_succ]
    rw [u8n _ (by omega), d1 (by omega)]
  · by_cases h2 : r ≤ 2047
    · rw [Lib.encodeRuneZ_two (by omega) h2]
      simp only [List.map_cons, List.map_nil, List.cons_append, List.nil_append, List.length_cons, List.length_nil, List.getD_cons_zero, List.getD_cons_succ]
      rw [u8n _ (by omega), u8n _ (by omega), d2y (by omega) (by omega) (by omega) (by omega) (by omega) (by omega)]
      exact Prod.ext (by show _ = _; omega) rfl
    · by_cases h3 : r ≤ 65535
      · rw [Lib.encodeRuneZ_three (by omega)]
        simp only [List.map_cons, List.map_nil, List.cons_append, List.nil_append, List.length_cons, List.length_nil, List.getD_cons_zero, List.getD_cons_succ]
        rw [u8n _ (by omega), u8n _ (by omega), u8n _ (by omega), d3y (by omega) (by omega) (by omega) (by omega) (by omega) (by omega) (by omega) (by omega) (by omega)]
        exact Prod.ext (by show _ = _; omega) rfl
      · rw [Lib.encodeRuneZ_four (by omega) (by omega)]
        simp only [List.map_cons, List.map_nil, List.cons_append, List.nil_append, List.length_cons, List.length_nil, List.getD_cons_zero, List.getD_cons_succ]
        rw [u8n _ (by omega), u8n _ (by omega), u8n _ (by omega), u8n _ (by omega), d4y (by omega) (by omega) (by omega) (by omega) (by omega) (by omega) (by omega) (by omega) (by omega) (by omega) (by omega)]
        exact Prod.ext (by show _ = _; omega) rfl
/-- What is read of bytes that are right is a character. -/
theorem dec_char (l : List UInt8) (hb : Lib.decodeL l ≠ (65533, 1)) : charB ((Lib.decodeL l).1 : Int) = true := by
  rw [Lib.decodeL_N] at hb ⊢
  have k0 := (l.getD 0 0).toNat_lt
  have k1 := (l.getD 1 0).toNat_lt
  have k2 := (l.getD 2 0).toNat_lt
  have k3 := (l.getD 3 0).toNat_lt
  apply decide_eq_true
  rcases Lib.decodeN_shape l.length (l.getD 0 0).toNat (l.getD 1 0).toNat (l.getD 2 0).toNat (l.getD 3 0).toNat with ⟨c, e⟩ | ⟨c1, c2, c3, cv, e⟩ | ⟨c1, c2, c3, c4, cv, cs, e⟩ | ⟨c1, c2, c3, c4, c5, cv, cw, e⟩ | e
  · rw [e]; dsimp only; omega
  · rw [e]; dsimp only; omega
  · rw [e]; dsimp only; omega
  · rw [e]; dsimp only; omega
  · exact absurd e hb
theorem encZ_of (r : Int) : Lib.encodeRuneZ r = (Lib.encodeRune r).map fun b => (b.toNat : Int) := by
  have h := Lib.encodeRuneZ_byte r
  unfold Lib.encodeRune
  rw [List.map_map]
  conv => lhs; rw [← List.map_id (Lib.encodeRuneZ r)]
  apply List.map_congr_left
  intro x hx
  have := h x hx
  show x = (((x.toNat).toUInt8).toNat : Int)
  rw [u8n _ (by omega)]; omega
/-- The bytes of the characters, if all are such and there are not too many. -/
def goR : List Int → List Int → Option (List Int)
  | acc, [] => some acc
  | acc, x :: r => if charB x = true then (if acc.length + (Lib.encodeRuneZ x).length ≤ 20000 then goR (acc ++ Lib.encodeRuneZ x) r else none) else none
def resT (o : Option (List Int)) : ByteArray := match o with | some l => strOfNums l | none => ⟨#[]⟩
def resB (o : Option (List Int)) : Bool := o.isSome
def numsL (l : List UInt8) : List Int := l.map fun b => (b.toNat : Int)
theorem runes_back : ∀ (f : Nat) (l : List UInt8), l.length ≤ f → ∀ xs acc, runesL l = some xs → acc.length + l.length ≤ 20000 → goR acc xs = some (acc ++ numsL l)
  | 0, l, hf, xs, acc, hx, hn => by
    have : l = [] := List.length_eq_zero_iff.1 (by omega)
    subst this
    rw [runesL_nil] at hx
    cases hx
    simp [goR, numsL]
  | f + 1, l, hf, xs, acc, hx, hn => by
    by_cases h : l = []
    · subst h
      rw [runesL_nil] at hx
      cases hx
      simp [goR, numsL]
    · by_cases hb : Lib.decodeL l = (65533, 1)
      · rw [runesL_bad h hb] at hx; cases hx
      · have hl : 0 < l.length := List.length_pos_iff.2 h
        have hw := Lib.decodeL_width l
        have hle := Lib.decodeL_le l h
        rw [runesL_step h hb] at hx
        cases hy : runesL (l.drop (Lib.decodeL l).2) with
        | none => rw [hy] at hx; cases hx
        | some y =>
          rw [hy] at hx
          simp at hx
          subst hx
          have hc := dec_char l hb
          have he := Lib.encode_decode l h (fun hh => hb (Prod.ext hh.1 hh.2))
          have hz : Lib.encodeRuneZ ((Lib.decodeL l).1 : Int) = numsL (l.take (Lib.decodeL l).2) := by rw [encZ_of, he]; rfl
          have hzl : (Lib.encodeRuneZ ((Lib.decodeL l).1 : Int)).length = (Lib.decodeL l).2 := by rw [hz]; simp [numsL]; omega
          rw [goR, if_pos hc, if_pos (by omega)]
          rw [runes_back f (l.drop (Lib.decodeL l).2) (by rw [List.length_drop]; omega) y _ hy (by rw [List.length_append, List.length_drop]; omega)]
          rw [hz, List.append_assoc]
          congr 2
          unfold numsL
          rw [← List.map_append, List.take_append_drop]
theorem nums_str (s : ByteArray) : strOfNums (numsL s.data.toList) = s := by
  apply ByteArray.ext
  apply Array.ext'
  rw [strOfNums_data]
  unfold numsL
  rw [List.map_map]
  conv => rhs; rw [← List.map_id s.data.toList]
  apply List.map_congr_left
  intro x hx
  show UInt8.ofNat ((x.toNat : Int).toNat) = x
  rw [Int.toNat_natCast, UInt8.ofNat_toNat]
/-- All characters, one behind the other. -/
def encA : List Int → List Int
  | [] => []
  | x :: r => Lib.encodeRuneZ x ++ encA r
theorem goR_enc : ∀ (xs acc bs : List Int), goR acc xs = some bs → bs = acc ++ encA xs ∧ (∀ x ∈ xs, charB x = true) ∧ (acc.length ≤ 20000 → bs.length ≤ 20000)
  | [], acc, bs, h => by
    rw [goR] at h
    cases h
    exact ⟨by simp [encA], fun x hx => (by cases hx), fun h => h⟩
  | x :: r, acc, bs, h => by
    rw [goR] at h
    by_cases hc : charB x = true
    · rw [if_pos hc] at h
      by_cases hl : acc.length + (Lib.encodeRuneZ x).length ≤ 20000
      · rw [if_pos hl] at h
        obtain ⟨h1, h2, h3⟩ := goR_enc r _ bs h
        refine ⟨by rw [h1, encA, List.append_assoc], fun y hy => ?_, fun _ => h3 (by rw [List.length_append]; exact hl)⟩
        rcases List.mem_cons.1 hy with e | e
        · rw [e]; exact hc
        · exact h2 y e
      · rw [if_neg hl] at h; cases h
    · rw [if_neg hc] at h; cases h
theorem runes_enc : ∀ (xs : List Int), (∀ x ∈ xs, charB x = true) → runesL ((encA xs).map fun n => UInt8.ofNat n.toNat) = some xs
  | [], _ => runesL_nil
  | x :: r, h => by
    have hc := h x (List.mem_cons_self ..)
    have h0 : 0 ≤ x := by have := of_decide_eq_true hc; omega
    have hd := enc_dec hc ((encA r).map fun n => UInt8.ofNat n.toNat)
    have e : ((encA (x :: r)).map fun n => UInt8.ofNat n.toNat) = Lib.encodeRune x ++ ((encA r).map fun n => UInt8.ofNat n.toNat) := by
      rw [encA, List.map_append]; rfl
    have hl := Lib.encodeRuneZ_length x
    have hel : (Lib.encodeRune x).length = (Lib.encodeRuneZ x).length := by simp [Lib.encodeRune]
    rw [e]
    have hne : Lib.encodeRune x ++ ((encA r).map fun n => UInt8.ofNat n.toNat) ≠ [] := by
      intro hh
      have := congrArg List.length hh
      rw [List.length_append, List.length_nil] at this
      omega
    have hb : Lib.decodeL (Lib.encodeRune x ++ ((encA r).map fun n => UInt8.ofNat n.toNat)) ≠ (65533, 1) := by
      rw [hd]
      intro hh
      have h1 : x.toNat = 65533 := congrArg Prod.fst hh
      have h2 : (Lib.encodeRuneZ x).length = 1 := congrArg Prod.snd hh
      rw [Lib.encodeRuneZ_three (by omega)] at h2
      simp at h2
    rw [runesL_step hne hb, hd]
    dsimp only
    rw [← hel, List.drop_left, runes_enc r (fun y hy => h y (List.mem_cons_of_mem _ hy))]
    show some (((x.toNat : Nat) : Int) :: r) = some (x :: r)
    rw [show ((x.toNat : Nat) : Int) = x by omega]
end Go.Proofs.YtibagghpimadfaaGreatDoor
