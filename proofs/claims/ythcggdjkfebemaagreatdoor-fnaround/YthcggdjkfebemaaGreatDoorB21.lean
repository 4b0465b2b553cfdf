/-
  Texts put together: RnMath, EsMath.
-/
import Derived.Test.YthcggdjkfebemaaGreatDoorB4
import Derived.Lib.RuneBytes
import Derived.Lib.MapLaws
import Derived.Laws.BytesArg
import Derived.Test.YthcggdjkfebemaaGreatDoorB9
import Derived.Test.YthcggdjkfebemaaGreatDoorB8
/-
  Plain facts on UTF-8: characters come back from their bytes, and bytes from the characters that they are.
-/
namespace Go.Proofs.YthcggdjkfebemaaGreatDoor
open Go.RowKit
set_option linter.unusedVariables false
set_option linter.unusedSimpArgs false
theorem u8n (k : Nat) (h : k < 256) : (k.toUInt8).toNat = k := by
  show (UInt8.ofNat k).toNat = k
  rw [UInt8.toNat_ofNat']; omega
/-- The bytes of one character, with whatever stands behind them, are read as that character. -/
theorem enc_dec {r : Int} (hc : charB r = true) (t : List UInt8) : Lib.decodeL (Lib.encodeRune r ++ t) = (r.toNat, (Lib.encodeRuneZ r).length) := by
  have hr : (0 ≤ r ∧ r ≤ 55295) ∨ (57344 ≤ r ∧ r ≤ 1114111) := of_decide_eq_true hc
  clear hc
  rw [Lib.decodeL_N]
  unfold Lib.encodeRune
  by_cases h1 : r ≤ 127
  · rw [Lib.encodeRuneZ_one (by omega) h1]
    simp only [List.map_cons, List.map_nil, List.cons_append, List.nil_append, List.length_cons, List.length_nil, List.getD_cons_zero, List.getD_cons_succ]
    rw [u8n _ (by omega), d1 (by omega)]
  · by_cases h2 : r ≤ 2047
    · rw [Lib.encodeRuneZ_two (by omega) h2]
      simp only [List.map_cons, List.map_nil, List.cons_append, List.nil_append, List.length_cons, List.length_nil, List.getD_cons_zero, List.getD_cons_succ]
      rw [u8n _ (by omega), u8n _ (by omega), d2y (by omega) (by omega) (by omega) (by omega) (by omega) (by omega)]
      exact Prod.ext (by show _ = _; omega) rfl
    · by_cases h3 : r ≤ 65535
      · rw [Lib.encodeRuneZ_three (by omega)]
        simp only [List.map_cons, List.map_nil, List.cons_append, List.nil_append, List.length_cons, List.length_nil, List.getD_cons_zero, List.getD_cons_succ]
        rw [u8n _ (by omega), u8n _ (by omega), u8n _ (by omega), d3y (by omega) (by omega) (by omega) (by omega) (by omega) (by omega) (by omega) (by omega) (by omega)]
        exact Prod.ext (by show _ = _; omega) rfl
      · rw [Lib.encodeRuneZ_four (by omega) (by omega)]
        simp only [List.map_cons, List.map_nil, List.cons_append, List.nil_append, List.length_cons, List.length_nil, List.getD_cons_zero, List.getD_cons_succ]
        rw [u8n _ (by omega), u8n _ (by omega), u8n _ (by omega), u8n _ (by omega), d4y (by omega) (by omega) (by omega) (by omega) (by omega) (by omega) (by omega) (by omega) (by omega) (by omega) (by omega)]
        exact Prod.ext (by show _ = _; omega) rfl
/-- What is read of bytes that are right is a character. -/
theorem dec_char (l : List UInt8) (hb : Lib.decodeL l ≠ (65533, 1)) : charB ((Lib.decodeL l).1 : Int) = true := by
  rw [Lib.decodeL_N] at hb ⊢
  have k0 := (l.getD 0 0).toNat_lt
  have k1 := (l.getD 1 0).toNat_lt
  have k2 := (l.getD 2 0).toNat_lt
  have k3 := (l.getD 3 0).toNat_lt
  apply decide_eq_true
  rcases Lib.decodeN_shape l.length (l.getD 0 0).toNat (l.getD 1 0).toNat (l.getD 2 0).toNat (l.getD 3 0).toNat with ⟨c, e⟩ | ⟨c1, c2, c3, cv, e⟩ | ⟨c1, c2, c3, c4, cv, cs, e⟩ | ⟨c1, c2, c3, c4, c5, cv, cw, e⟩ | e
  · rw [e]; dsimp only; omega
  · rw [e]; dsimp only; omega
  · rw [e]; dsimp only; omega
  · rw [e]; dsimp only; omega
  · exact absurd e hb
theorem encZ_of (r : Int) : Lib.encodeRuneZ r = (Lib.encodeRune r).map fun b => (b.toNat : Int) := by
  have h := Lib.encodeRuneZ_byte r
  unfold Lib.encodeRune
  rw [List.map_map]
  conv => lhs; rw [← List.map_id (Lib.encodeRuneZ r)]
  apply List.map_congr_left
  intro x hx
  have := h x hx
  show x = (((x.toNat).toUInt8).toNat : Int)
  rw [u8n _ (by omega)]; omega
/-- The bytes of the characters, if all are such and there are not too many. -/
def goR : List Int → List Int → Option (List Int)
  | acc, [] => some acc
  | acc, x :: r => if charB x = true then (if acc.length + (Lib.encodeRuneZ x).length ≤ 20000 then goR (acc ++ Lib.encodeRuneZ x) r else none) else none
def resT (o : Option (List Int)) : ByteArray := match o with | some l => strOfNums l | none => ⟨#[]⟩
def resB (o : Option (List Int)) : Bool := o.isSome
def numsL (l : List UInt8) : List Int := l.map fun b => (b.toNat : Int)
theorem runes_back : ∀ (f : Nat) (l : List UInt8), l.length ≤ f → ∀ xs acc, runesL l = some xs → acc.length + l.length ≤ 20000 → goR acc xs = some (acc ++ numsL l)
  | 0, l, hf, xs, acc, hx, hn => by
    have : l = [] := List.length_eq_zero_iff.1 (by omega)
    subst this
    rw [runesL_nil] at hx
    cases hx
    simp [goR, numsL]
  | f + 1, l, hf, xs, acc, hx, hn => by
    by_cases h : l = []
    · subst h
      rw [runesL_nil] at hx
      cases hx
      simp [goR, numsL]
    · by_cases hb : Lib.decodeL l = (65533, 1)
      · rw [runesL_bad h hb] at hx; cases hx
      · have hl : 0 < l.length := List.length_pos_iff.2 h
        have hw := Lib.decodeL_width l
        have hle := Lib.decodeL_le l h
        rw [runesL_step h hb] at hx
        cases hy : runesL (l.drop (Lib.decodeL l).2) with
        | none => rw [hy] at hx; cases hx
        | some y =>
          rw [hy] at hx
          simp at hx
          subst hx
          have hc := dec_char l hb
          have he := Lib.encode_decode l h (fun hh => hb (Prod.ext hh.1 hh.2))
          have hz : Lib.encodeRuneZ ((Lib.decodeL l).1 : Int) = numsL (l.take (Lib.decodeL l).2) := by rw [encZ_of, he]; rfl
          have hzl : (Lib.encodeRuneZ ((Lib.decodeL l).1 : Int)).length = (Lib.decodeL l).2 := by rw [hz]; simp [numsL]; omega
          rw [goR, if_pos hc, if_pos (by omega)]
          rw [runes_back f (l.drop (Lib.decodeL l).2) (by rw [List.length_drop]; omega) y _ hy (by rw [List.length_append, List.length_drop]; omega)]
          rw [hz, List.append_assoc]
          congr 2
          unfold numsL
          rw [← List.map_append, List.take_append_drop]
theorem nums_str (s : ByteArray) : strOfNums (numsL s.data.toList) = s := by
  apply ByteArray.ext
  apply Array.ext'
  rw [strOfNums_data]
  unfold numsL
  rw [List.map_map]
  conv => rhs; rw [← List.map_id s.data.toList]
  apply List.map_congr_left
  intro x hx
  show UInt8.ofNat ((x.toNat : Int).toNat) = x
  rw [Int.toNat_natCast, UInt8.ofNat_toNat]
/-- All characters, one behind the other. -/
def encA : List Int → List Int
  | [] => []
  | x :: r => Lib.encodeRuneZ x ++ encA r
theorem goR_enc : ∀ (xs acc bs : List Int), goR acc xs = some bs → bs = acc ++ encA xs ∧ (∀ x ∈ xs, charB x = true) ∧ (acc.length ≤ 20000 → bs.length ≤ 20000)
  | [], acc, bs, h => by
    rw [goR] at h
    cases h
    exact ⟨by simp [encA], fun x hx => (by cases hx), fun h => h⟩
  | x :: r, acc, bs, h => by
    rw [goR] at h
    by_cases hc : charB x = true
    · rw [if_pos hc] at h
      by_cases hl : acc.length + (Lib.encodeRuneZ x).length ≤ 20000
      · rw [if_pos hl] at h
        obtain ⟨h1, h2, h3⟩ := goR_enc r _ bs h
        refine ⟨by rw [h1, encA, List.append_assoc], fun y hy => ?_, fun _ => h3 (by rw [List.length_append]; exact hl)⟩
        rcases List.mem_cons.1 hy with e | e
        · rw [e]; exact hc
        · exact h2 y e
      · rw [if_neg hl] at h; cases h
    · rw [if_neg hc] at h; cases h
theorem runes_enc : ∀ (xs : List Int), (∀ x ∈ xs, charB x = true) → runesL ((encA xs).map fun n => UInt8.ofNat n.toNat) = some xs
  | [], _ => runesL_nil
  | x :: r, h => by
    have hc := h x (List.mem_cons_self ..)
    have h0 : 0 ≤ x := by have := of_decide_eq_true hc; omega
    have hd := enc_dec hc ((encA r).map fun n => UInt8.ofNat n.toNat)
    have e : ((encA (x :: r)).map fun n => UInt8.ofNat n.toNat) = Lib.encodeRune x ++ ((encA r).map fun n => UInt8.ofNat n.toNat) := by
      rw [encA, List.map_append]; rfl
    have hl := Lib.encodeRuneZ_length x
    have hel : (Lib.encodeRune x).length = (Lib.encodeRuneZ x).length := by simp [Lib.encodeRune]
    rw [e]
    have hne : Lib.encodeRune x ++ ((encA r).map fun n => UInt8.ofNat n.toNat) ≠ [] := by
      intro hh
      have := congrArg List.length hh
      rw [List.length_append, List.length_nil] at this
      omega
    have hb : Lib.decodeL (Lib.encodeRune x ++ ((encA r).map fun n => UInt8.ofNat n.toNat)) ≠ (65533, 1) := by
      rw [hd]
      intro hh
      have h1 : x.toNat = 65533 := congrArg Prod.fst hh
      have h2 : (Lib.encodeRuneZ x).length = 1 := congrArg Prod.snd hh
      rw [Lib.encodeRuneZ_three (by omega)] at h2
      simp at h2
    rw [runesL_step hne hb, hd]
    dsimp only
    rw [← hel, List.drop_left, runes_enc r (fun y hy => h y (List.mem_cons_of_mem _ hy))]
    show some (((x.toNat : Nat) : Int) :: r) = some (x :: r)
    rw [show ((x.toNat : Nat) : Int) = x by omega]
end Go.Proofs.YthcggdjkfebemaaGreatDoor

/-
  Marks, there and back: what is escaped is a plain text without < and >, and comes back. No step of the program in this text.
-/
namespace Go.Proofs.YthcggdjkfebemaaGreatDoor
open Go.RowKit
set_option linter.unusedVariables false
set_option linter.unusedSimpArgs false
def bytesOf (xs : List Int) : List UInt8 := xs.map fun n => UInt8.ofNat n.toNat
theorem bytesOf_app (a b : List Int) : bytesOf (a ++ b) = bytesOf a ++ bytesOf b := by simp [bytesOf]
theorem encA_app : ∀ (a b : List Int), encA (a ++ b) = encA a ++ encA b
  | [], b => rfl
  | x :: a, b => by rw [List.cons_append, encA, encA, encA_app a b, List.append_assoc]
theorem escL_app (attr : Bool) (a b : List UInt8) : escL attr (a ++ b) = escL attr a ++ escL attr b := by simp [escL]
theorem escL_cons (attr : Bool) (c : UInt8) (t : List UInt8) : escL attr (c :: t) = escB attr c ++ escL attr t := by simp [escL]
def AscB (b : UInt8) : Prop := b.toNat = 9 ∨ b.toNat = 10 ∨ b.toNat = 13 ∨ (32 ≤ b.toNat ∧ b.toNat ≤ 127)
theorem asc_list : ∀ (l : List UInt8), (∀ b ∈ l, AscB b) → ∃ ys : List Int, (∀ y ∈ ys, docB y = true) ∧ l = bytesOf (encA ys)
  | [], _ => ⟨[], fun y h => (by cases h), rfl⟩
  | b :: l, h => by
    obtain ⟨ys, h1, h2⟩ := asc_list l (fun x hx => h x (List.mem_cons_of_mem _ hx))
    have hb : AscB b := h b (List.mem_cons_self ..)
    unfold AscB at hb
    refine ⟨(b.toNat : Int) :: ys, fun y hy => ?_, ?_⟩
    · rcases List.mem_cons.1 hy with e | e
      · subst e; exact decide_eq_true (by omega)
      · exact h1 y e
    · rw [encA, Lib.encodeRuneZ_one (by omega) (by omega), bytesOf_app, ← h2]
      simp [bytesOf]
theorem escB_asc (attr : Bool) (c : UInt8) (h : AscB c) : ∀ b ∈ escB attr c, AscB b := by
  unfold escB
  repeat' split
  all_goals
    intro b hb
    simp only [List.mem_cons, List.not_mem_nil, or_false] at hb
    first
      | (subst hb; exact h)
      | (unfold AscB; rcases hb with rfl | rfl | rfl | rfl | rfl | rfl <;> decide)
      | (unfold AscB; rcases hb with rfl | rfl | rfl | rfl | rfl <;> decide)
      | (unfold AscB; rcases hb with rfl | rfl | rfl | rfl <;> decide)
theorem escB_hi (attr : Bool) (c : UInt8) (h : 128 ≤ c.toNat) : escB attr c = [c] := by
  have n : ∀ d : UInt8, d.toNat < 128 → c ≠ d := fun d hd e => by rw [e] at h; omega
  unfold escB
  rw [if_neg (n 38 (by decide)), if_neg (n 60 (by decide)), if_neg (n 62 (by decide)), if_neg (n 13 (by decide)), if_neg (fun e => n 34 (by decide) e.2), if_neg (fun e => n 9 (by decide) e.2), if_neg (fun e => n 10 (by decide) e.2)]
theorem escL_hi (attr : Bool) : ∀ l : List UInt8, (∀ b ∈ l, 128 ≤ b.toNat) → escL attr l = l
  | [], _ => rfl
  | c :: t, h => by
    rw [escL_cons, escB_hi attr c (h c (List.mem_cons_self ..)), escL_hi attr t (fun x hx => h x (List.mem_cons_of_mem _ hx))]; rfl
theorem enc_hi {x : Int} (hc : docB x = true) (h : 128 ≤ x) : ∀ b ∈ Lib.encodeRuneZ x, 128 ≤ b ∧ b < 256 := by
  have hd := of_decide_eq_true hc
  intro b hb
  by_cases h2 : x ≤ 2047
  · rw [Lib.encodeRuneZ_two h h2] at hb
    simp only [List.mem_cons, List.not_mem_nil, or_false] at hb
    rcases hb with rfl | rfl <;> omega
  by_cases h3 : x ≤ 65535
  · rw [Lib.encodeRuneZ_three (by omega)] at hb
    simp only [List.mem_cons, List.not_mem_nil, or_false] at hb
    rcases hb with rfl | rfl | rfl <;> omega
  · rw [Lib.encodeRuneZ_four (by omega) (by omega)] at hb
    simp only [List.mem_cons, List.not_mem_nil, or_false] at hb
    rcases hb with rfl | rfl | rfl | rfl <;> omega
theorem esc_chars (attr : Bool) : ∀ xs : List Int, (∀ x ∈ xs, docB x = true) → ∃ ys : List Int, (∀ y ∈ ys, docB y = true) ∧ escL attr (bytesOf (encA xs)) = bytesOf (encA ys)
  | [], _ => ⟨[], fun y h => (by cases h), rfl⟩
  | x :: xs, h => by
    obtain ⟨ys, h1, h2⟩ := esc_chars attr xs (fun y hy => h y (List.mem_cons_of_mem _ hy))
    have hx := h x (List.mem_cons_self ..)
    have hd := of_decide_eq_true hx
    have key : ∃ zs : List Int, (∀ y ∈ zs, docB y = true) ∧ escL attr (bytesOf (Lib.encodeRuneZ x)) = bytesOf (encA zs) := by
      by_cases hlo : x ≤ 127
      · rw [Lib.encodeRuneZ_one (by omega) hlo]
        have hn : (UInt8.ofNat x.toNat).toNat = x.toNat := by simp; omega
        have ha : AscB (UInt8.ofNat x.toNat) := by unfold AscB; rw [hn]; omega
        have e : escL attr (bytesOf [x]) = escB attr (UInt8.ofNat x.toNat) := by simp [bytesOf, escL]
        rw [e]
        exact asc_list _ (escB_asc attr _ ha)
      · refine ⟨[x], fun y hy => ?_, ?_⟩
        · rcases List.mem_cons.1 hy with e | e
          · subst e; exact hx
          · cases e
        · rw [escL_hi attr _ ?_]
          · simp [encA]
          · intro b hb
            obtain ⟨n, hn, rfl⟩ := List.mem_map.1 hb
            have := enc_hi hx (by omega) n hn
            have e : (UInt8.ofNat n.toNat).toNat = n.toNat := by simp; omega
            rw [e]; omega
    obtain ⟨zs, h3, h4⟩ := key
    refine ⟨zs ++ ys, fun y hy => ?_, ?_⟩
    · rcases List.mem_append.1 hy with e | e
      · exact h3 y e
      · exact h1 y e
    · rw [encA, bytesOf_app, escL_app, h4, h2, encA_app, bytesOf_app]
theorem doc_chr {r : Int} (h : docB r = true) : charB r = true := by
  have := of_decide_eq_true h
  exact decide_eq_true (by omega)
theorem nums_back (l : List UInt8) : bytesOf (numsL l) = l := by
  unfold bytesOf numsL
  rw [List.map_map]
  conv => rhs; rw [← List.map_id l]
  apply List.map_congr_left
  intro x hx
  show UInt8.ofNat ((x.toNat : Int).toNat) = x
  rw [Int.toNat_natCast, UInt8.ofNat_toNat]
theorem plain_esc {s : ByteArray} (attr : Bool) (hp : plainB s = true) (h20 : (escL attr s.data.toList).length ≤ 20000) : plainB ⟨(escL attr s.data.toList).toArray⟩ = true := by
  unfold plainB at hp
  rw [Bool.and_eq_true] at hp
  obtain ⟨h1, h2⟩ := hp
  unfold rns at h1 h2
  by_cases hs : s.size ≤ 20000
  · rw [if_pos hs] at h1 h2
    cases hx : runesL s.data.toList with
    | none => rw [hx] at h1; cases h1
    | some xs =>
      rw [hx] at h2
      have h3 : ∀ x ∈ xs, docB x = true := List.all_eq_true.1 h2
      have hl : s.data.toList.length = s.size := Array.length_toList
      have h4 := runes_back _ _ (Nat.le_refl _) xs [] hx (by rw [hl]; simpa using hs)
      obtain ⟨h5, _, _⟩ := goR_enc xs [] _ h4
      rw [List.nil_append, List.nil_append] at h5
      have h6 : s.data.toList = bytesOf (encA xs) := by rw [← h5, nums_back]
      obtain ⟨ys, h7, h8⟩ := esc_chars attr xs h3
      rw [← h6] at h8
      have h9 := runes_enc ys (fun y hy => doc_chr (h7 y hy))
      have e : rns ⟨(escL attr s.data.toList).toArray⟩ = some ys := by
        unfold rns
        rw [if_pos (by show (escL attr s.data.toList).toArray.size ≤ 20000; simpa using h20)]
        show runesL (escL attr s.data.toList).toArray.toList = some ys
        rw [List.toList_toArray, h8]
        exact h9
      unfold plainB
      rw [e, Bool.and_eq_true]
      exact ⟨rfl, List.all_eq_true.2 h7⟩
  · rw [if_neg hs] at h1; cases h1
theorem cut1_app (c : UInt8) (r : List UInt8) : ∀ m : List UInt8, (∀ b ∈ m, b ≠ c) → cut1 c (m ++ c :: r) = (m, r, true)
  | [], _ => by simp [cut1]
  | b :: m, h => by
    have ih := cut1_app c r m (fun x hx => h x (List.mem_cons_of_mem _ hx))
    rw [List.cons_append]
    unfold cut1
    rw [if_neg (h b (List.mem_cons_self ..)), ih]
theorem un_mark (m r : List UInt8) (c : UInt8) (hm : ∀ b ∈ m, b ≠ 59) (hr : refB m = some [c]) : unesc (38 :: (m ++ 59 :: r)) = (unesc r).map (c :: ·) := by
  have hc := cut1_app 59 r m hm
  rw [unesc_ref (t := m ++ 59 :: r) (x := [c]) (by rw [hc]) (by rw [hc]; exact hr), hc]
  rfl
theorem un_one (attr : Bool) (c : UInt8) (r : List UInt8) : unesc (escB attr c ++ r) = (unesc r).map (c :: ·) := by
  unfold escB
  split
  · rename_i h; subst h; exact un_mark [97, 109, 112] r 38 (by decide) (by rfl)
  split
  · rename_i h; subst h; exact un_mark [108, 116] r 60 (by decide) (by rfl)
  split
  · rename_i h; subst h; exact un_mark [103, 116] r 62 (by decide) (by rfl)
  split
  · rename_i h; subst h; exact un_mark [35, 49, 51] r 13 (by decide) (by decide)
  split
  · rename_i h; rw [h.2]; exact un_mark [113, 117, 111, 116] r 34 (by decide) (by rfl)
  split
  · rename_i h; rw [h.2]; exact un_mark [35, 57] r 9 (by decide) (by decide)
  split
  · rename_i h; rw [h.2]; exact un_mark [35, 49, 48] r 10 (by decide) (by decide)
  · rename_i h38 h60 _ _ _ _ _
    exact unesc_chr r h60 h38
theorem un_esc (attr : Bool) : ∀ l : List UInt8, unesc (escL attr l) = some l
  | [] => unesc_nil
  | c :: t => by rw [escL_cons, un_one, un_esc attr t]; rfl
theorem escB_free (attr : Bool) (c : UInt8) : ∀ b ∈ escB attr c, b ≠ 60 ∧ b ≠ 62 ∧ (attr = true → b ≠ 34) := by
  unfold escB
  split
  · decide +revert
  split
  · decide +revert
  split
  · decide +revert
  split
  · decide +revert
  split
  · intro b hb; rw [List.mem_cons, List.mem_cons, List.mem_cons, List.mem_cons, List.mem_cons, List.mem_cons] at hb; rcases hb with rfl | rfl | rfl | rfl | rfl | rfl | hb <;> first | (exact ⟨by decide, by decide, fun _ => by decide⟩) | cases hb
  split
  · intro b hb; rw [List.mem_cons, List.mem_cons, List.mem_cons, List.mem_cons] at hb; rcases hb with rfl | rfl | rfl | rfl | hb <;> first | (exact ⟨by decide, by decide, fun _ => by decide⟩) | cases hb
  split
  · intro b hb; rw [List.mem_cons, List.mem_cons, List.mem_cons, List.mem_cons, List.mem_cons] at hb; rcases hb with rfl | rfl | rfl | rfl | rfl | hb <;> first | (exact ⟨by decide, by decide, fun _ => by decide⟩) | cases hb
  · rename_i h38 h60 h62 h13 h34 h9 h10
    intro b hb
    rw [List.mem_singleton] at hb
    subst hb
    exact ⟨h60, h62, fun ha e => h34 ⟨ha, e⟩⟩
theorem esc_free (attr : Bool) (l : List UInt8) : ∀ b ∈ escL attr l, b ≠ 60 ∧ b ≠ 62 ∧ (attr = true → b ≠ 34) := by
  intro b hb
  unfold escL at hb
  obtain ⟨c, hc, hb⟩ := List.mem_flatMap.1 hb
  exact escB_free attr c b hb
end Go.Proofs.YthcggdjkfebemaaGreatDoor
