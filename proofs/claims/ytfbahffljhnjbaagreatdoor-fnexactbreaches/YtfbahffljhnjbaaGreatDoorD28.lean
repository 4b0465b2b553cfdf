/-
  Texts put together: FoM, WhV, WhX, WhY.
-/
import Derived.Test.YtfbahffljhnjbaaGreatDoorD23
import Derived.Test.YtfbahffljhnjbaaGreatDoorD19
import Derived.Test.YtfbahffljhnjbaaGreatDoorD4
import Derived.Test.YtfbahffljhnjbaaGreatDoorD27
import Derived.Test.YtfbahffljhnjbaaGreatDoorD7
import Derived.Lib.OthersKept
import Derived.Deep.DeepCutAuto
import Derived.WalkMore
/-
  What a field says of an element. No step of the program in this text.
-/
namespace Go.Proofs.YtfbahffljhnjbaaGreatDoor
open Go.RowKit
set_option linter.unusedVariables false
set_option linter.unusedSimpArgs false
/-- The values of the attributes of that name, among the first k. -/
def mtA (D : Dc) (p : Nat) (A : ByteArray) : Nat → List ByteArray
  | 0 => []
  | k + 1 => mtA D p A k ++ (if ((D.AN p k).toList == A.toList) = true then [D.AV p k] else [])
theorem mt_len (D : Dc) (p : Nat) (A : ByteArray) : ∀ k, (mtA D p A k).length ≤ k
  | 0 => Nat.le_refl _
  | k + 1 => by
    have := mt_len D p A k
    rw [mtA, List.length_append]
    split <;> simp <;> omega
theorem mt_yes {D : Dc} {p k : Nat} {A : ByteArray} (h : ((D.AN p k).toList == A.toList) = true) : mtA D p A (k + 1) = mtA D p A k ++ [D.AV p k] := by rw [mtA, if_pos h]
theorem mt_no {D : Dc} {p k : Nat} {A : ByteArray} (h : ((D.AN p k).toList == A.toList) = false) : mtA D p A (k + 1) = mtA D p A k := by rw [mtA, if_neg (by rw [h]; decide)]; simp
/-- What an element says: its text, or an attribute. -/
def vlA (D : Dc) (A : ByteArray) (p : Nat) : List ByteArray := if A.toList.isEmpty = true then [txF D p D.n] else mtA D p A (D.AC p)
def vlL (D : Dc) (A : ByteArray) (L : List Int) : List ByteArray := L.flatMap fun p => vlA D A p.toNat
theorem vl_take {D : Dc} {A : ByteArray} {L : List Int} {j : Nat} (h : j < L.length) : vlL D A (L.take (j + 1)) = vlL D A (L.take j) ++ vlA D A (L[j]?.getD 0).toNat := by
  unfold vlL
  rw [List.take_succ_eq_append_getElem h, List.flatMap_append, List.getElem?_eq_getElem h]
  simp
theorem vl_len {D : Dc} {A : ByteArray} (hac : ∀ p, p < D.n → D.AC p ≤ 10) : ∀ (L : List Int), (∀ j ∈ L, 0 ≤ j ∧ j < (D.n : Int)) → (vlL D A L).length ≤ 10 * L.length
  | [], _ => Nat.le_refl _
  | x :: L, h => by
    have ih := vl_len (A := A) hac L (fun j hj => h j (List.mem_cons_of_mem _ hj))
    have hx := h x (List.mem_cons_self ..)
    have h1 : (vlA D A x.toNat).length ≤ 10 := by
      unfold vlA
      split
      · simp
      · have := mt_len D x.toNat A (D.AC x.toNat)
        have := hac x.toNat (by omega)
        omega
    unfold vlL at ih ⊢
    rw [List.flatMap_cons, List.length_append, List.length_cons]
    omega
/-- The last of them, its blanks brought together. -/
def lstW (l : List ByteArray) : ByteArray := match l.getLast? with | none => ⟨#[]⟩ | some v => whB v 2
theorem lst_app (l : List ByteArray) (v : ByteArray) : lstW (l ++ [v]) = whB v 2 := by unfold lstW; simp
theorem lst_one (v : ByteArray) : lstW [v] = whB v 2 := rfl
/-- The answer. -/
def foA (l : List ByteArray) : ByteArray × Int := if l.length = 1 then (lstW l, 1) else (⟨#[]⟩, l.length)
def foV (D : Dc) (x : Int) (s : ByteArray) : ByteArray × Int := match fld s.data.toList with
  | none => (⟨#[]⟩, -1)
  | some q => if txOk D x = true then foA (vlL D ⟨q.2.toArray⟩ (srtL (sel D (st D x.toNat D.n false) q.1))) else (⟨#[]⟩, -1)
theorem fo_none {D : Dc} {x : Int} {s : ByteArray} (h : fld s.data.toList = none) : foV D x s = (⟨#[]⟩, -1) := by unfold foV; rw [h]
theorem fo_out {D : Dc} {x : Int} {s : ByteArray} (h : txOk D x = false) : foV D x s = (⟨#[]⟩, -1) := by
  unfold foV
  split
  · rfl
  · rw [if_neg (by rw [h]; decide)]
theorem fo_some {D : Dc} {x : Int} {s : ByteArray} {q : List (List UInt8) × List UInt8} (h : fld s.data.toList = some q) (h2 : txOk D x = true) : foV D x s = foA (vlL D ⟨q.2.toArray⟩ (srtL (sel D (st D x.toNat D.n false) q.1))) := by
  unfold foV
  rw [h]
  dsimp only
  rw [if_pos h2]
/-- The attributes of a right document. -/
theorem att_facts {D : Dc} (h : docokB D = true) {p : Nat} (hp : p < D.n) : D.AC p ≤ 10 ∧ (∀ j, j < D.AC p → ∀ i, i < j → ((D.AN p i).toList == (D.AN p j).toList) = false) := by
  have hi := (docok_facts h).2.1 p hp
  unfold itB pB partB at hi
  rw [Bool.and_eq_true] at hi
  have h2 := hi.2
  split at h2
  · simp only [Bool.and_eq_true, beq_iff_eq] at h2
    have : D.AC p = 0 := by omega
    rw [this]
    exact ⟨by omega, fun j hj => by omega⟩
  · simp only [Bool.and_eq_true] at h2
    have h3 := h2.2.2
    unfold attrsB at h3
    rw [Bool.and_eq_true, decide_eq_true_iff, List.all_eq_true] at h3
    refine ⟨h3.1, fun j hj i hij => ?_⟩
    have h4 := h3.2 j (by simpa using hj)
    unfold atB at h4
    simp only [Bool.and_eq_true, Bool.not_eq_true'] at h4
    have h5 := h4.2.2
    unfold anyS at h5
    rw [List.any_eq_false] at h5
    have h6 := h5 i (by simpa using hij)
    unfold sameS at h6
    cases hx : ((D.AN p i).toList == (D.AN p j).toList)
    · rfl
    · exact absurd hx h6
theorem mt_none {D : Dc} {p : Nat} {A : ByteArray} : ∀ k, (∀ j, j < k → ((D.AN p j).toList == A.toList) = false) → mtA D p A k = []
  | 0, _ => rfl
  | k + 1, h => by rw [mt_no (h k (by omega)), mt_none k (fun j hj => h j (by omega))]
theorem mt_stay {D : Dc} {p i : Nat} {A : ByteArray} : ∀ k, i ≤ k → (∀ j, i ≤ j → j < k → ((D.AN p j).toList == A.toList) = false) → mtA D p A k = mtA D p A i
  | 0, h, _ => by rw [show i = 0 by omega]
  | k + 1, h, h2 => by
    by_cases e : i = k + 1
    · rw [e]
    · rw [mt_no (h2 k (by omega) (by omega)), mt_stay k (by omega) (fun j h3 h4 => h2 j h3 (by omega))]
theorem mt_one {D : Dc} {p i : Nat} {A : ByteArray} (h : docokB D = true) (hp : p < D.n) (hi : i < D.AC p) (he : ((D.AN p i).toList == A.toList) = true) (hn : ∀ j, j < i → ((D.AN p j).toList == A.toList) = false) : mtA D p A (D.AC p) = [D.AV p i] := by
  have hu := (att_facts h hp).2
  rw [mt_stay (i := i + 1) (D.AC p) (by omega) (fun j h1 h2 => by
    have h3 := hu j h2 i (by omega)
    cases hx : ((D.AN p j).toList == A.toList)
    · rfl
    · rw [beq_iff_eq] at hx he
      rw [he, ← hx] at h3
      simp at h3), mt_yes he, mt_none i hn]
  rfl
theorem srt_one (x : Int) : srtL [x] = [x] := rfl
theorem sel_nil (D : Dc) (L : List Int) : sel D L [] = L := rfl
theorem st_no (D : Dc) (x n : Nat) : st D x n false = [(x : Int)] := rfl
/-- The places: they are the document's, and few. -/
theorem pl_facts {D : Dc} {x n : Nat} (hD : D.n = n) (hn : n ≤ 200) (hx : x < n) (ns : List (List UInt8)) : (srtL (sel D (st D x n false) ns)).length ≤ 200 ∧ ∀ j ∈ srtL (sel D (st D x n false) ns), 0 ≤ j ∧ j < (D.n : Int) := by
  have hs := st_ok (D := D) (x := x) (n := n) false hD hx
  have hs2 := sel_ok ns _ hs.1 hs.2
  refine ⟨?_, fun j hj => ?_⟩
  · rw [srt_len hs2.1]
    have := nodup_len hs2.1 hs2.2
    omega
  · exact hs2.2 j ((srt_mem _ _).1 hj)
end Go.Proofs.YtfbahffljhnjbaaGreatDoor

/-
  strings.ContainsRune at the four blanks, for every rune.
-/
namespace Go.Proofs.YtfbahffljhnjbaaGreatDoor
open Go.RowKit
set_option linter.unusedVariables false
set_option linter.unusedSimpArgs false
theorem hi_none : ∀ (l : List UInt8) (c : UInt8), (∀ b ∈ l, b.toNat < 128) → 128 ≤ c.toNat → Lib.indexByte l c = -1
  | [], _, _, _ => rfl
  | b :: l, c, h, hc => by
    have h0 := h b (List.mem_cons_self ..)
    have hne : (b == c) = false := beq_eq_false_iff_ne.2 (fun e => by rw [e] at h0; omega)
    have ih := hi_none l c (fun d hd => h d (List.mem_cons_of_mem _ hd)) hc
    unfold Lib.indexByte
    rw [hne, ih]
    rfl
theorem enc_hi (r : Int) (h : 128 ≤ r) (hv : Lib.validRune r = true) : (∃ a b : UInt8, Utf8.encode r = ⟨#[a, b]⟩ ∧ 128 ≤ b.toNat) ∨ (∃ a b c : UInt8, Utf8.encode r = ⟨#[a, b, c]⟩ ∧ 128 ≤ c.toNat) ∨ (∃ a b c d : UInt8, Utf8.encode r = ⟨#[a, b, c, d]⟩ ∧ 128 ≤ d.toNat) := by
  have hv2 : Utf8.valid r = true := by
    unfold Lib.validRune at hv
    unfold Utf8.valid
    simp at hv ⊢
    omega
  have hb : ∀ n : Nat, 128 ≤ (UInt8.ofNat (0x80 + n % 64)).toNat := fun n => by
    rw [UInt8.toNat_ofNat']
    omega
  unfold Utf8.encode
  simp only [hv2, if_true]
  rw [if_neg (by omega)]
  by_cases h1 : r.toNat < 0x800
  · rw [if_pos h1]
    exact .inl ⟨_, _, rfl, hb _⟩
  · rw [if_neg h1]
    by_cases h2 : r.toNat < 0x10000
    · rw [if_pos h2]
      exact .inr (.inl ⟨_, _, _, rfl, hb _⟩)
    · rw [if_neg h2]
      exact .inr (.inr ⟨_, _, _, _, rfl, hb _⟩)
theorem enc_run (r : Int) (w : World) : (convert 21 9 (.int .i32 r)).run Tryz.prog w = .ok (.string (Utf8.encode r)) w := by kernel_rfl
/-- None of the four. -/
def NoAns (w : World) (e : Ending) (w' : World) : Prop := e = .returned (.int .i64 (-1)) ∧ Below w.heap.size w w'
set_option maxRecDepth 100000 in
set_option maxHeartbeats 8000000 in
theorem r_bad (r : Int) (w : World) (h : 128 ≤ r) (h2 : r ≤ 1114111) (hv : Lib.validRune r = false) (he : r ≠ 65533) : Calls Tryz.prog 165 #[.string ⟨#[32, 9, 10, 13]⟩, .int .i32 r] w (NoAns w) := by
  have CV := hide (Tryz.utf8_ValidRune r w)
  rw [hv] at CV
  have hnot : ∀ (x : Bool) (w : World), (Op.unary .not (.bool x)).run Tryz.prog w = .ok (.bool (!x)) w := fun _ _ => rfl
  have h0 : (0 : Int) ≤ r := by omega
  have h1 : ¬ r < 128 := by omega
  have e1 : (r == 65533) = false := by simpa using he
  go_enter Tryz.func165, Tryz.ntmps165
  go_wp2_with (go_at_call 188; refine CV.out.mono ?_; rintro e w9 ⟨rfl, h9⟩; rw [h9]; clear h9 w9)
  go_ret
  exact ⟨rfl, Below.refl _ _⟩
set_option maxRecDepth 100000 in
set_option maxHeartbeats 8000000 in
theorem r_err (w : World) : Calls Tryz.prog 165 #[.string ⟨#[32, 9, 10, 13]⟩, .int .i32 65533] w (NoAns w) := by
  go_enter Tryz.func165, Tryz.ntmps165
  go_wp2_with fail
  go_loopw [] (fun wr => ∃ pos : Nat, pos ≤ 4 ∧ Hid (wr.heap[w.heap.size]? = some (.stringIter ⟨#[32, 9, 10, 13]⟩ pos)) ∧ Hid (Below w.heap.size w wr)) (fun wr => match wr.heap[w.heap.size]? with | some (.stringIter _ p) => 4 - p | _ => 0)
  case atStart => exact ⟨0, by omega, hide (World.iter_heap w _ 0), hide ((Below.refl _ _).alloc (Nat.le_refl _) _)⟩
  case round =>
    obtain ⟨pos, hp, HI, HB⟩ := hrel
    by_cases hlt : pos < 4
    · have hlt' : pos < (⟨#[32, 9, 10, 13]⟩ : ByteArray).size := hlt
      have ha : ((⟨#[32, 9, 10, 13]⟩ : ByteArray)[pos]'hlt').toNat < 128 := by
        rcases (show pos = 0 ∨ pos = 1 ∨ pos = 2 ∨ pos = 3 by omega) with e | e | e | e <;> subst e <;> (first | (show _ < _; decide) | exact of_decide_eq_true rfl)
      have hnx := fun ty => Lib.run_next_ascii_at (P := Tryz.prog) wr w.heap.size ⟨#[32, 9, 10, 13]⟩ pos ty HI.out hlt' ha
      obtain ⟨x, hx⟩ : ∃ x : Nat, ((⟨#[32, 9, 10, 13]⟩ : ByteArray)[pos]'hlt').toNat = x := ⟨_, rfl⟩
      rw [hx] at hnx ha
      have e1 : ((x : Int) == 65533) = false := by
        have : ¬ (x : Int) = 65533 := by omega
        simpa using this
      have HI2 := hide (Lib.iterAt_heap wr w.heap.size _ pos (pos + 1) HI.out)
      have HB2 := hide (Lib.below_iterAt HB.out (k := w.heap.size) (Nat.le_refl _) ⟨#[32, 9, 10, 13]⟩ (pos + 1))
      clear hx
      go_wp2
      go_roundw
      case rel => exact ⟨pos + 1, by omega, HI2, HB2⟩
      case measure => rw [HI2.out, HI.out]; simp; omega
    · have hnx := fun ty => Lib.run_next_end_at (P := Tryz.prog) wr w.heap.size ⟨#[32, 9, 10, 13]⟩ pos ty HI.out (fun h9 => hlt h9)
      go_wp2
      go_ret
      exact ⟨rfl, HB.out⟩
end Go.Proofs.YtfbahffljhnjbaaGreatDoor

/-
  strings.IndexRune at the four blanks, for a rune of more than one byte.
-/
namespace Go.Proofs.YtfbahffljhnjbaaGreatDoor
open Go.RowKit
set_option linter.unusedVariables false
set_option linter.unusedSimpArgs false
theorem u8_back (x : UInt8) : (x.toNat : Int).toNat.toUInt8 = x := by simp
set_option maxRecDepth 100000 in
set_option maxHeartbeats 8000000 in
theorem r_long2 (r : Int) (w : World) (h : 128 ≤ r) (h2 : r ≤ 1114111) (hv : Lib.validRune r = true) (he : r ≠ 65533) (a b : UInt8) (hN : Utf8.encode r = ⟨#[a, b]⟩) (hb : 128 ≤ b.toNat) : Calls Tryz.prog 165 #[.string ⟨#[32, 9, 10, 13]⟩, .int .i32 r] w (NoAns w) := by
  have CV := hide (Tryz.utf8_ValidRune r w)
  rw [hv] at CV
  have hcv := enc_run r
  rw [hN] at hcv
  have hnot : ∀ (x : Bool) (w : World), (Op.unary .not (.bool x)).run Tryz.prog w = .ok (.bool (!x)) w := fun _ _ => rfl
  have h0 : (0 : Int) ≤ r := by omega
  have h1 : ¬ r < 128 := by omega
  have e1 : (r == 65533) = false := by simpa using he
  have hne : (((⟨#[32, 9, 10, 13]⟩ : ByteArray)[1]'(by decide)).toNat : Int) ≠ (((⟨#[a, b]⟩ : ByteArray)[1]'(Nat.le_refl 2)).toNat : Int) := by
    have e1 : ((⟨#[32, 9, 10, 13]⟩ : ByteArray)[1]'(by decide)).toNat < 128 := by decide
    have e2 : 128 ≤ ((⟨#[a, b]⟩ : ByteArray)[1]'(Nat.le_refl 2)).toNat := hb
    omega
  have hne2 : ((((⟨#[32, 9, 10, 13]⟩ : ByteArray)[1]'(by decide)).toNat : Int) != (((⟨#[a, b]⟩ : ByteArray)[1]'(Nat.le_refl 2)).toNat : Int)) = true := by
    rw [bne_iff_ne]
    exact hne
  go_enter Tryz.func165, Tryz.ntmps165
  go_wp2_with (first | (go_at_call 188; refine CV.out.mono ?_; rintro e w9 ⟨rfl, h9⟩; rw [h9]; clear h9 w9))
  go_step3
  go_wp2
  go_loopw [9] (fun v9 wr => v9 = .int .i64 1 ∧ wr = w) (fun _ _ => 0)
  case atStart => exact ⟨rfl, rfl⟩
  case round =>
    obtain ⟨rfl, rfl⟩ := hrel
    go_wp2
    go_step3
    go_wp2
    go_region
    go_wp2
    go_region_with (go_at_call 187; refine (Tryz.strings_IndexByte _ _ _).mono ?_; rintro e w9 ⟨he9, h9⟩; have e9 : e = .returned (.int .i64 (-1)) := he9.trans (by rw [hi_none _ _ (by decide) (by rw [u8_back]; exact hb)]); rw [e9, h9]; clear he9 e9 h9)
    all_goals (go_wp2; rw [Exit.noGoto_ret]; go_ret; exact ⟨rfl, (((Below.refl _ _).drew).drew)⟩)
set_option maxRecDepth 100000 in
set_option maxHeartbeats 8000000 in
theorem r_long3 (r : Int) (w : World) (h : 128 ≤ r) (h2 : r ≤ 1114111) (hv : Lib.validRune r = true) (he : r ≠ 65533) (a b c : UInt8) (hN : Utf8.encode r = ⟨#[a, b, c]⟩) (hb : 128 ≤ c.toNat) : Calls Tryz.prog 165 #[.string ⟨#[32, 9, 10, 13]⟩, .int .i32 r] w (NoAns w) := by
  have CV := hide (Tryz.utf8_ValidRune r w)
  rw [hv] at CV
  have hcv := enc_run r
  rw [hN] at hcv
  have hnot : ∀ (x : Bool) (w : World), (Op.unary .not (.bool x)).run Tryz.prog w = .ok (.bool (!x)) w := fun _ _ => rfl
  have h0 : (0 : Int) ≤ r := by omega
  have h1 : ¬ r < 128 := by omega
  have e1 : (r == 65533) = false := by simpa using he
  have hne : (((⟨#[32, 9, 10, 13]⟩ : ByteArray)[2]'(by decide)).toNat : Int) ≠ (((⟨#[a, b, c]⟩ : ByteArray)[2]'(Nat.le_refl 3)).toNat : Int) := by
    have e1 : ((⟨#[32, 9, 10, 13]⟩ : ByteArray)[2]'(by decide)).toNat < 128 := by decide
    have e2 : 128 ≤ ((⟨#[a, b, c]⟩ : ByteArray)[2]'(Nat.le_refl 3)).toNat := hb
    omega
  have hne2 : ((((⟨#[32, 9, 10, 13]⟩ : ByteArray)[2]'(by decide)).toNat : Int) != (((⟨#[a, b, c]⟩ : ByteArray)[2]'(Nat.le_refl 3)).toNat : Int)) = true := by
    rw [bne_iff_ne]
    exact hne
  go_enter Tryz.func165, Tryz.ntmps165
  go_wp2_with (first | (go_at_call 188; refine CV.out.mono ?_; rintro e w9 ⟨rfl, h9⟩; rw [h9]; clear h9 w9))
  go_step3
  go_wp2
  go_loopw [9] (fun v9 wr => v9 = .int .i64 2 ∧ wr = w) (fun _ _ => 0)
  case atStart => exact ⟨rfl, rfl⟩
  case round =>
    obtain ⟨rfl, rfl⟩ := hrel
    go_wp2
    go_step3
    go_wp2
    go_region
    go_wp2
    go_region_with (go_at_call 187; refine (Tryz.strings_IndexByte _ _ _).mono ?_; rintro e w9 ⟨he9, h9⟩; have e9 : e = .returned (.int .i64 (-1)) := he9.trans (by rw [hi_none _ _ (by decide) (by rw [u8_back]; exact hb)]); rw [e9, h9]; clear he9 e9 h9)
    all_goals (go_wp2; rw [Exit.noGoto_ret]; go_ret; exact ⟨rfl, (((Below.refl _ _).drew).drew)⟩)
set_option maxRecDepth 100000 in
set_option maxHeartbeats 8000000 in
theorem r_long4 (r : Int) (w : World) (h : 128 ≤ r) (h2 : r ≤ 1114111) (hv : Lib.validRune r = true) (he : r ≠ 65533) (a b c d : UInt8) (hN : Utf8.encode r = ⟨#[a, b, c, d]⟩) (hb : 128 ≤ d.toNat) : Calls Tryz.prog 165 #[.string ⟨#[32, 9, 10, 13]⟩, .int .i32 r] w (NoAns w) := by
  have CV := hide (Tryz.utf8_ValidRune r w)
  rw [hv] at CV
  have hcv := enc_run r
  rw [hN] at hcv
  have hnot : ∀ (x : Bool) (w : World), (Op.unary .not (.bool x)).run Tryz.prog w = .ok (.bool (!x)) w := fun _ _ => rfl
  have h0 : (0 : Int) ≤ r := by omega
  have h1 : ¬ r < 128 := by omega
  have e1 : (r == 65533) = false := by simpa using he
  have hne : (((⟨#[32, 9, 10, 13]⟩ : ByteArray)[3]'(by decide)).toNat : Int) ≠ (((⟨#[a, b, c, d]⟩ : ByteArray)[3]'(Nat.le_refl 4)).toNat : Int) := by
    have e1 : ((⟨#[32, 9, 10, 13]⟩ : ByteArray)[3]'(by decide)).toNat < 128 := by decide
    have e2 : 128 ≤ ((⟨#[a, b, c, d]⟩ : ByteArray)[3]'(Nat.le_refl 4)).toNat := hb
    omega
  have hne2 : ((((⟨#[32, 9, 10, 13]⟩ : ByteArray)[3]'(by decide)).toNat : Int) != (((⟨#[a, b, c, d]⟩ : ByteArray)[3]'(Nat.le_refl 4)).toNat : Int)) = true := by
    rw [bne_iff_ne]
    exact hne
  go_enter Tryz.func165, Tryz.ntmps165
  go_wp2_with (first | (go_at_call 188; refine CV.out.mono ?_; rintro e w9 ⟨rfl, h9⟩; rw [h9]; clear h9 w9))
  go_step3
  go_wp2
  go_loopw [9] (fun v9 wr => v9 = .int .i64 3 ∧ wr = w) (fun _ _ => 0)
  case atStart => exact ⟨rfl, rfl⟩
  case round =>
    obtain ⟨rfl, rfl⟩ := hrel
    go_wp2
    go_step3
    go_wp2
    go_region
    go_wp2
    go_region_with (go_at_call 187; refine (Tryz.strings_IndexByte _ _ _).mono ?_; rintro e w9 ⟨he9, h9⟩; have e9 : e = .returned (.int .i64 (-1)) := he9.trans (by rw [hi_none _ _ (by decide) (by rw [u8_back]; exact hb)]); rw [e9, h9]; clear he9 e9 h9)
    all_goals (go_wp2; rw [Exit.noGoto_ret]; go_ret; exact ⟨rfl, (((Below.refl _ _).drew).drew)⟩)
end Go.Proofs.YtfbahffljhnjbaaGreatDoor

/-
  impl.White, whole, and the law's walk.
-/
namespace Go.Proofs.YtfbahffljhnjbaaGreatDoor
open Go.RowKit
set_option linter.unusedVariables false
set_option linter.unusedSimpArgs false
theorem four_byte (x : Nat) (h : x < 128) : decide (0 ≤ Lib.indexByte [32, 9, 10, 13] (x : Int).toNat.toUInt8) = blR x := by
  have : ∀ y : Fin 128, decide (0 ≤ Lib.indexByte [32, 9, 10, 13] ((y.val : Nat) : Int).toNat.toUInt8) = blR y.val := by decide
  exact this ⟨x, h⟩
theorem blR_hi (x : Nat) (h : 128 ≤ x) : blR x = false := by
  unfold blR
  have : ∀ m : Nat, m < 128 → (x == m) = false := fun m hm => by simp; omega
  rw [this 32 (by omega), this 9 (by omega), this 10 (by omega), this 13 (by omega)]
  rfl
theorem r_any (x : Nat) (w : World) (h : 128 ≤ x) (h2 : x ≤ 1114111) : Calls Tryz.prog 165 #[.string ⟨#[32, 9, 10, 13]⟩, .int .i32 x] w (NoAns w) := by
  by_cases he : x = 65533
  · subst he
    exact r_err w
  · cases hv : Lib.validRune (x : Int)
    · exact r_bad x w (by omega) (by omega) hv (by omega)
    · rcases enc_hi x (by omega) hv with ⟨a, b, e, hb⟩ | ⟨a, b, c, e, hb⟩ | ⟨a, b, c, d, e, hb⟩
      · exact r_long2 x w (by omega) (by omega) hv (by omega) a b e hb
      · exact r_long3 x w (by omega) (by omega) hv (by omega) a b c e hb
      · exact r_long4 x w (by omega) (by omega) hv (by omega) a b c d e hb
theorem c_rune (x : Nat) (w : World) (h2 : x ≤ 1114111) : Calls Tryz.prog 136 #[.string ⟨#[32, 9, 10, 13]⟩, .int .i32 x] w fun e w' => e = .returned (.bool (blR x)) ∧ Below w.heap.size w w' := by
  by_cases h : x < 128
  · refine (Tryz.strings_ContainsRune_ascii ⟨#[32, 9, 10, 13]⟩ (x : Int) w (by omega) (by omega)).mono ?_
    rintro e w' ⟨rfl, rfl⟩
    refine ⟨?_, Below.refl _ _⟩
    rw [← four_byte x h]
  · have CR := hide (r_any x w (by omega) h2)
    rw [blR_hi x (by omega)]
    go_enter Tryz.func136, Tryz.ntmps136
    go_wp2_with (go_at_call 165; refine CR.out.mono ?_; rintro e w9 ⟨rfl, hb⟩; have HB := hide hb; clear hb)
    go_ret
    exact ⟨rfl, HB.out⟩
theorem i_pred (x : Nat) (w : World) (h2 : x ≤ 1114111) : Calls Tryz.prog 135 #[.int .i32 x] w fun e w' => e = .returned (.bool (blR x)) ∧ Below w.heap.size w w' := by
  have CR := hide (c_rune x w h2)
  go_enter Tryz.func135, Tryz.ntmps135
  go_wp2_with (go_at_call 136; refine CR.out.mono ?_; rintro e w9 ⟨rfl, hb⟩; have HB := hide hb; clear hb)
  go_ret
  exact ⟨rfl, HB.out⟩
theorem i_pays (w : World) : PredGrows Tryz.prog 135 #[] blR w := fun W x hx hb => i_pred x W hx
/-- The words, as Go's FieldsFunc lays them. -/
def FwAns (s : ByteArray) (w : World) (e : Ending) (w' : World) : Prop := ∃ A, e = .returned (.slice (some ⟨A, 0, none⟩) (Lib.goFieldsP blR s).length (Lib.goFieldsP blR s).length) ∧ w'.ownsRow w.heap.size 9 1 (.slice (some ⟨A, 0, none⟩) (Lib.goFieldsP blR s).length (Lib.goFieldsP blR s).length) (Lib.goFieldsP blR s).length ((Lib.goFieldsP blR s).map Value.string) ∧ Below w.heap.size w w'
set_option maxHeartbeats 4000000 in
theorem i_words (s : ByteArray) (w : World) (hs : s.size ≤ 1048576) : Calls Tryz.prog 110 #[.string s] w (FwAns s w) := by
  have CF := hide (Tryz.strings_FieldsFunc_grows 135 #[] (fun args w => enters_of Tryz.func135 (by kernel_rfl) rfl args w) blR s w (by omega) (i_pays w))
  go_enter Tryz.func110, Tryz.ntmps110
  go_wp2_with (go_at_call 134; refine CF.out.mono ?_; rintro e w1 ⟨A, rfl, hA, ho, hb⟩; have HO := hide ho; have HB := hide hb; clear ho hb)
  go_ret
  exact ⟨A, rfl, HO.out, HB.out⟩
set_option maxRecDepth 100000 in
set_option maxHeartbeats 8000000 in
theorem i_white (s : ByteArray) (i : Int) (w : World) (hs : s.size ≤ 1048576) :
    Calls Tryz.prog 73 #[.string s, .int .i64 i] w fun e w' => e = .returned (.string (whB s i)) ∧ Below w.heap.size w w' := by
  by_cases h1 : i = 1
  · subst h1
    have HE : Hid (whB s 1 = ⟨(reB s.data.toList).toArray⟩) := hide rfl
    have CN := hide (n_repl w.heap.size (w.alloc (.cells sixV.toArray 9)) (heap_alloc_new w _))
    go_enter Tryz.func73, Tryz.ntmps73
    go_wp2_with (first | (go_at_call 107; refine CN.out.mono ?_; rintro e w1 ⟨R, g, cap, rfl, ⟨hR, hgR⟩, hrep, ho, hb⟩; have CR := hide (r_repl R g cap _ s w1 hs hgR hrep ho); have HB := hide hb; have hRl : w.heap.size ≤ R := (by have := hR; simp at this; omega); clear hrep ho hb) | (go_at_call 108; refine CR.out.mono ?_; rintro e w2 ⟨rfl, hb2⟩; have HB2 := hide hb2; clear hb2))
    go_ret
    refine ⟨by rw [HE.out]; rfl, ?_⟩
    have h3 : Below w.heap.size w (w.alloc (.cells sixV.toArray 9)) := (Below.refl _ _).alloc (Nat.le_refl _) _
    exact (h3.trans (HB.out.mono h3.size)).trans (HB2.out.mono hRl)
  · have e1 : (i == 1) = false := by simpa using h1
    by_cases h2 : i = 2
    · subst h2
      have CW := hide (i_words s w hs)
      have HE : Hid (whB s 2 = jnB s) := hide rfl
      have HFW := hide (fields_words s)
      have hbd := tot_wd s.data.toList []
      have HQ : Hid ((Lib.join (wdB [] s.data.toList) [32]).length ≤ 1048578 ∧ (wdB [] s.data.toList).length ≤ 1048578) := hide (by
        have h5 : s.data.toList.length = s.size := by simp
        rw [h5] at hbd
        simp at hbd
        have h6 := join_totW [32] rfl (wdB [] s.data.toList)
        have h7 : ∀ l : List (List UInt8), l.length ≤ totW l := fun l => by
          induction l with
          | nil => simp
          | cons t l ih => simp only [totW, List.length_cons]; omega
        have h8 := h7 (wdB [] s.data.toList)
        omega)
      have HLN : Hid ((Lib.goFieldsP blR s).length = (wdB [] s.data.toList).length) := hide (by
        have := congrArg List.length (fields_words s)
        rw [List.length_map] at this
        exact this)
      clear hbd
      have CJ : Hid (∀ (A : Nat) (w1 : World), w1.ownsRow w.heap.size 9 1 (.slice (some ⟨A, 0, none⟩) (Lib.goFieldsP blR s).length (Lib.goFieldsP blR s).length) (Lib.goFieldsP blR s).length ((Lib.goFieldsP blR s).map Value.string) → Calls Tryz.prog 109 #[.slice (some ⟨A, 0, none⟩) (Lib.goFieldsP blR s).length (Lib.goFieldsP blR s).length, .string ⟨#[32]⟩] w1 fun e w' => e = .returned (.string (jnB s)) ∧ Below w1.heap.size w1 w') := hide (fun A w1 ho => by
        refine (Tryz.strings_Join A 0 (Lib.goFieldsP blR s).length (Lib.goFieldsP blR s) ⟨#[32]⟩ w1 (fun j x hx => ?_) ?_ (by rw [HLN.out]; have := HQ.out.2; omega) (Nat.le_refl _) (by rw [HFW.out]; exact Nat.le_trans HQ.out.1 (by omega))).mono ?_
        · have hj := (List.getElem?_eq_some_iff.1 hx).1
          have h8 := ho.cellAt j (by simpa using hj)
          rw [Nat.zero_add, h8]
          rw [List.getElem?_map, hx]
          rfl
        · exact (ho.lt A rfl).2
        · rintro e w' ⟨rfl, hb⟩
          refine ⟨?_, hb⟩
          rw [HFW.out]
          rfl)
      go_enter Tryz.func73, Tryz.ntmps73
      go_wp2_with (first | (go_at_call 110; refine CW.out.mono ?_; rintro e w1 ⟨A, rfl, ho, hb⟩; have CJ1 := hide (CJ.out A w1 ho); have HB := hide hb; clear ho hb) | (go_at_call 109; refine CJ1.out.mono ?_; rintro e w2 ⟨rfl, hb2⟩; have HB2 := hide (HB.out.trans (hb2.mono HB.out.size)); clear hb2))
      go_ret
      exact ⟨by rw [HE.out]; rfl, HB2.out⟩
    · have e2 : (i == 2) = false := by simpa using h2
      have HE : Hid (whB s i = s) := hide (by unfold whB; rw [if_neg h1, if_neg h2])
      go_enter Tryz.func73, Tryz.ntmps73
      go_wp2
      go_ret
      exact ⟨by rw [HE.out]; rfl, Below.refl _ _⟩
end Go.Proofs.YtfbahffljhnjbaaGreatDoor
