/-
  Texts put together: PaQ, LinesMath, LnI, PaP.
-/
import Derived.Test.YthcggdjkfebemaaGreatDoorB26
import Derived.Lib.Replace
import Derived.Lib.CountLaws
import Derived.Test.YthcggdjkfebemaaGreatDoorB2
import Derived.Test.YthcggdjkfebemaaGreatDoorB4
import Derived.Test.YthcggdjkfebemaaGreatDoorB1
import Derived.Test.YthcggdjkfebemaaGreatDoorChecked
import Derived.WalkKit
import Derived.Below
import Derived.OwnWalk
import Derived.KernelRfl
import Derived.Test.YthcggdjkfebemaaGreatDoorB20
import Derived.Test.YthcggdjkfebemaaGreatDoorB25
/-
  Contract of the program's reader of documents: what stands around a document.
-/
namespace Go.Proofs.YthcggdjkfebemaaGreatDoor
open Go.RowKit Go.Joins
set_option linter.unusedVariables false
set_option linter.unusedSimpArgs false
/-- Blanks and remarks, then l'. -/
inductive ArP : List UInt8 → List UInt8 → Prop
  | done {l l' : List UInt8} : tbL l = l' → Lib.hasPrefix l' [60, 33, 45, 45] = false → ArP l l'
  | step {l m a b l' : List UInt8} : tbL l = [60, 33, 45, 45] ++ m → Lib.cut m [45, 45, 62] = (a, b, true) → Lib.contains a [45, 45] = false → ArP b l' → ArP l l'
def rOf (R : Nat) (w : World) : Nat := match w.cell? ⟨R, 0, none⟩ with
  | some (.string s) => s.size
  | _ => 0
theorem rOf_of {R : Nat} {w : World} {l : List UInt8} {x1 x2 x3 : Value} (h : RB w R l x1 x2 x3) : rOf R w = l.length := by
  unfold rOf
  rw [(rb_cells h).1]
  exact List.size_toArray
theorem cut_len {l p a b : List UInt8} (h : Lib.cut l p = (a, b, true)) : b.length ≤ l.length := by
  unfold Lib.cut at h
  split at h
  · cases h
    rw [List.length_drop]
    omega
  · cases h
section
variable {R : Nat} {w : World} {l l' : List UInt8} {x1 x2 x3 : Value}
set_option maxRecDepth 100000 in
set_option maxHeartbeats 8000000 in
theorem i_around (hE : EnvR R w) (h : RB w R l x1 x2 x3) (ha : ArP l l') (hl : l.length ≤ 1000000) :
    Calls Tryz.prog 55 #[.pointer (some ⟨R, 0, none⟩)] w fun e w' => e = .returned (.tuple #[]) ∧ RdP R w l' x1 x2 x3 w' := by
  have HE := hide hE
  have HH := hide h
  have hlt := rb_lt h
  have HA := hide ha
  clear h ha hE
  go_enter Tryz.func55, Tryz.ntmps55
  go_wp2_with fail
  refine (i_blanks HH.out).mono ?_
  rintro e w1 ⟨rfl, h1⟩
  have H1 := hide h1
  clear h1
  go_wp2_with fail
  go_loopw [] (fun wr => ∃ m, Hid (ArP m l') ∧ m.length ≤ 1000000 ∧ Hid (RdP R w (tbL m) x1 x2 x3 wr)) (fun wr => rOf R wr)
  case atStart => exact ⟨l, HA, hl, H1⟩
  case round =>
    clear H1 HA hl
    obtain ⟨m, HA, hm, H1⟩ := hrel
    have HM := hide (rOf_of H1.out.1)
    have htl := trim_le m
    rcases HA.out with ⟨h1, h2⟩ | @⟨_, m2, a, b, _, h1, h2, h3, h4⟩
    · rw [h1] at H1
      have H2 := hide h2
      clear h1 h2
      go_wp2_with fail
      refine (i_takesN (p := [60, 33, 45, 45]) H1.out.1 H2.out).mono ?_
      rintro e w2 ⟨rfl, h3⟩
      have H3 := hide (show RdP R w _ _ _ _ w2 from ⟨h3.1, rg_trans H1.out.2 h3.2⟩)
      clear h3
      go_wp2
      go_end0
      exact ⟨rfl, H3.out⟩
    · rw [h1] at H1 htl HM
      rw [List.length_append] at htl
      have htl2 : m2.length + 4 ≤ m.length := by have : ([60, 33, 45, 45] : List UInt8).length = 4 := rfl; omega
      have HC := hide h2
      have HN := hide h3
      have HB := hide h4
      have hbl := cut_len h2
      have hbt := trim_le b
      clear h1 h2 h3 h4 HA htl
      go_wp2_with fail
      refine (i_takesY (p := [60, 33, 45, 45]) H1.out.1).mono ?_
      rintro e w2 ⟨rfl, h3⟩
      have H3 := hide (show RdP R w _ _ _ _ w2 from ⟨h3.1, rg_trans H1.out.2 h3.2⟩)
      clear h3
      go_wp2_with fail
      refine (i_remark (rd_env H3.out HE.out hlt) H3.out.1 (by omega) HC.out HN.out).mono ?_
      rintro e w3 ⟨rfl, h4⟩
      have H4 := hide (show RdP R w _ _ _ _ w3 from ⟨h4.1, rg_trans H3.out.2 h4.2⟩)
      clear h4
      go_wp2_with fail
      refine (i_blanks H4.out.1).mono ?_
      rintro e w4 ⟨rfl, h5⟩
      have H5 := hide (show RdP R w _ _ _ _ w4 from ⟨h5.1, rg_trans H4.out.2 h5.2⟩)
      clear h5
      go_wp2
      go_roundw
      case rel => exact ⟨b, HB, by omega, H5⟩
      case measure =>
        have h4 : ([60, 33, 45, 45] : List UInt8).length = 4 := rfl
        rw [HM.out, rOf_of H5.out.1, List.length_append]
        omega
end
end Go.Proofs.YthcggdjkfebemaaGreatDoor

/-
  Plain facts on line ends: what the library's ReplaceAll makes, from the front on; two of them make what Lines asks.
-/
namespace Go.Proofs.YthcggdjkfebemaaGreatDoor
open Go.Lib

theorem rep_nil (old new : List UInt8) (ho : old ≠ []) (hne : old ≠ new) : replaceAll [] old new = [] := by
  have hi : index [] old = -1 := by unfold index; cases old with | nil => exact absurd rfl ho | cons a t => rfl
  unfold replaceAll replace
  rw [if_neg (by simpa using hne)]
  unfold replaceNum
  rw [if_pos (by omega), count_miss hi]; rfl

theorem rep_eq (s old new : List UInt8) (hne : old ≠ new) : replaceAll s old new = replaceK old new (count s old) s := by
  unfold replaceAll replace
  rw [if_neg (by simpa using hne)]
  unfold replaceNum
  rw [if_pos (by omega)]

theorem rep_hit (s old new : List UInt8) (ho : old ≠ []) (hne : old ≠ new) (hp : index s old = 0) : replaceAll s old new = new ++ replaceAll (s.drop old.length) old new := by
  have hp' : index s old = ((0 : Nat) : Int) := hp
  rw [rep_eq _ _ _ hne, rep_eq _ _ _ hne, count_hit ho hp', Nat.add_comm 1, replaceK_hit _ _ _ _ _ hp']
  simp

theorem rep_skip (b : UInt8) (t old new : List UInt8) (ho : old ≠ []) (hne : old ≠ new) (hp : old.isPrefixOf (b :: t) = false) : replaceAll (b :: t) old new = b :: replaceAll t old new := by
  rw [rep_eq _ _ _ hne, rep_eq _ _ _ hne]
  have hge := index_ge t old
  by_cases hm : index t old = -1
  · have hm' : index (b :: t) old = -1 := by unfold index; rw [if_neg (by simp [hp]), if_pos (by simp [hm])]
    rw [count_miss hm, count_miss hm']; rfl
  · obtain ⟨i, hi⟩ : ∃ i : Nat, index t old = i := ⟨(index t old).toNat, by omega⟩
    have hi' : index (b :: t) old = ((i + 1 : Nat) : Int) := by unfold index; rw [if_neg (by simp [hp]), if_neg (by simpa using hm), hi]; omega
    rw [count_hit ho hi, count_hit ho hi', Nat.add_comm 1, Nat.add_comm 1, replaceK_hit _ _ _ _ _ hi, replaceK_hit _ _ _ _ _ hi']
    have e : i + 1 + old.length = (i + old.length) + 1 := by omega
    rw [e]
    simp

/-- What Lines asks: a 10 for each 13 that a 10 follows, and that 10, and for each other 13. -/
def linesB : List UInt8 → List UInt8
  | [] => []
  | b :: r => if b = 13 then (if r.head? = some 10 then linesB r else 10 :: linesB r) else b :: linesB r

theorem pre2 (b : UInt8) (t : List UInt8) (h : ¬ (b = 13 ∧ t.head? = some 10)) : ([13, 10] : List UInt8).isPrefixOf (b :: t) = false := by
  cases t with
  | nil => simp [List.isPrefixOf]
  | cons c u =>
    simp only [List.isPrefixOf, Bool.and_true]
    simp at h
    rw [Bool.and_eq_false_iff]
    by_cases e : b = 13
    · right; have := h e; simpa using fun x => this x.symm
    · left; simpa using fun x => e x.symm
theorem rep2_hit (t : List UInt8) : replaceAll (13 :: 10 :: t) [13, 10] [10] = 10 :: replaceAll t [13, 10] [10] := by
  rw [rep_hit _ _ _ (by simp) (by decide) (by unfold index; simp [List.isPrefixOf])]; rfl
theorem rep1_hit (t : List UInt8) : replaceAll (13 :: t) [13] [10] = 10 :: replaceAll t [13] [10] := by
  rw [rep_hit _ _ _ (by simp) (by decide) (by unfold index; simp [List.isPrefixOf])]; rfl
theorem rep1_skip (b : UInt8) (t : List UInt8) (h : b ≠ 13) : replaceAll (b :: t) [13] [10] = b :: replaceAll t [13] [10] :=
  rep_skip _ _ _ _ (by simp) (by decide) (by simp [List.isPrefixOf]; exact fun e => h e.symm)

theorem lines_eq : ∀ (n : Nat) (l : List UInt8), l.length ≤ n → replaceAll (replaceAll l [13, 10] [10]) [13] [10] = linesB l
  | 0, [], _ => by rw [rep_nil _ _ (by simp) (by decide), rep_nil _ _ (by simp) (by decide)]; rfl
  | 0, _ :: _, h => by simp at h
  | n + 1, [], _ => by rw [rep_nil _ _ (by simp) (by decide), rep_nil _ _ (by simp) (by decide)]; rfl
  | n + 1, b :: t, h => by
    by_cases hc : b = 13 ∧ t.head? = some 10
    · obtain ⟨rfl, ht⟩ := hc
      cases t with
      | nil => simp at ht
      | cons c u =>
        simp at ht
        subst ht
        rw [rep2_hit, rep1_skip _ _ (by decide), lines_eq n u (by simp at h; omega)]
        simp [linesB]
    · rw [rep_skip _ _ _ _ (by simp) (by decide) (pre2 b t hc)]
      by_cases e : b = 13
      · subst e
        rw [rep1_hit, lines_eq n t (by simp at h; omega)]
        have : ¬ t.head? = some 10 := fun x => hc ⟨rfl, x⟩
        simp [linesB, this]
      · rw [rep1_skip _ _ e, lines_eq n t (by simp at h; omega)]
        simp [linesB, e]

theorem rep2_len : ∀ (n : Nat) (l : List UInt8), l.length ≤ n → (replaceAll l [13, 10] [10]).length ≤ l.length
  | 0, [], _ => by rw [rep_nil _ _ (by simp) (by decide)]; simp
  | 0, _ :: _, h => by simp at h
  | n + 1, [], _ => by rw [rep_nil _ _ (by simp) (by decide)]; simp
  | n + 1, b :: t, h => by
    by_cases hc : b = 13 ∧ t.head? = some 10
    · obtain ⟨rfl, ht⟩ := hc
      cases t with
      | nil => simp at ht
      | cons c u =>
        simp at ht
        subst ht
        rw [rep2_hit]
        have := rep2_len n u (by simp at h; omega)
        simp; omega
    · rw [rep_skip _ _ _ _ (by simp) (by decide) (pre2 b t hc)]
      have := rep2_len n t (by simp at h; omega)
      simp; omega
theorem countFrom_le (sub : List UInt8) : ∀ (fuel : Nat) (s : List UInt8), countFrom sub fuel s ≤ fuel
  | 0, _ => Nat.le_refl _
  | fuel + 1, s => by
    unfold countFrom
    split
    · omega
    · have := countFrom_le sub fuel (s.drop ((index s sub).toNat + sub.length)); omega
theorem count_le (s sub : List UInt8) : count s sub ≤ s.length + 1 := countFrom_le _ _ _

/-- From the left: what the first k bytes have given, and the rest. -/
theorem linesB_len : ∀ (l : List UInt8), (linesB l).length ≤ l.length
  | [] => by simp [linesB]
  | b :: r => by
    have := linesB_len r
    unfold linesB
    split
    · split <;> simp <;> omega
    · simp; omega
end Go.Proofs.YthcggdjkfebemaaGreatDoor

/-
  Contract: what the program's Lines answers at every text of at most 1048576 bytes; nothing that was there is written.
-/
namespace Go.Proofs.YthcggdjkfebemaaGreatDoor
open Go.RowKit
set_option linter.unusedVariables false
set_option linter.unusedSimpArgs false
theorem one_sizeL : (⟨#[10]⟩ : ByteArray).size = 1 := rfl
set_option maxHeartbeats 1000000 in
theorem i_lines (s : ByteArray) (m : Int) (w : World) (hs : s.size ≤ 1048576) (h0 : 2 < w.heap.size) (hm : w.cell? ⟨2, 0, none⟩ = some (.int .i64 m)) :
    Calls Tryz.prog 29 #[.string s] w fun e w' => e = .returned (.string ⟨(linesB s.data.toList).toArray⟩) ∧ Below w.heap.size w w' := by
  have hl : (Lib.replaceAll s.data.toList [13, 10] [10]).length ≤ s.size := by
    have := rep2_len s.data.toList.length s.data.toList (Nat.le_refl _)
    rw [Array.length_toList] at this; exact this
  have hc1 : Lib.countB s ⟨#[13, 10]⟩ ≤ s.size + 1 := by have := count_le s.data.toList [13, 10]; rw [Array.length_toList] at this; exact this
  have hc2 : Lib.countB ⟨(Lib.replaceAll s.data.toList [13, 10] [10]).toArray⟩ ⟨#[13]⟩ ≤ s.size + 1 := by
    have := count_le (Lib.replaceAll s.data.toList [13, 10] [10]) [13]
    have e : Lib.countB ⟨(Lib.replaceAll s.data.toList [13, 10] [10]).toArray⟩ ⟨#[13]⟩ = Lib.count (Lib.replaceAll s.data.toList [13, 10] [10]) [13] := rfl
    omega
  have hsz : (⟨(Lib.replaceAll s.data.toList [13, 10] [10]).toArray⟩ : ByteArray).size ≤ s.size := by rw [show (⟨(Lib.replaceAll s.data.toList [13, 10] [10]).toArray⟩ : ByteArray).size = (Lib.replaceAll s.data.toList [13, 10] [10]).length from List.size_toArray]; exact hl
  have HE := hide (lines_eq s.data.toList.length s.data.toList (Nat.le_refl _))
  have HL := hide (And.intro hl (And.intro hc1 (And.intro hc2 hsz)))
  clear hl hc1 hc2 hsz
  go_enter Tryz.func29, Tryz.ntmps29
  go_wp2_with fail
  refine (Tryz.strings_ReplaceAll s ⟨#[13, 10]⟩ ⟨#[10]⟩ m _ (by omega) hm (by decide) (by rw [one_sizeL]; have := HL.out.2.1; omega)).mono ?_
  rintro e w1 ⟨rfl, hb1⟩
  have hm1 : w1.cell? ⟨2, 0, none⟩ = some (.int .i64 m) := (hb1.cell (p := ⟨2, 0, none⟩) h0).trans hm
  have HB := hide hb1
  clear hb1
  go_wp2_with fail
  refine (Tryz.strings_ReplaceAll _ ⟨#[13]⟩ ⟨#[10]⟩ m _ (by have := HL.out.2.2.2; exact Nat.lt_of_le_of_lt this (by omega)) hm1 (by decide) (by have h1 := HL.out.2.2.1; have h2 := HL.out.2.2.2; exact Nat.le_trans (Nat.add_le_add h2 (Nat.mul_le_mul_right _ h1)) (by rw [one_sizeL]; omega))).mono ?_
  rintro e w2 ⟨rfl, hb2⟩
  go_wp2
  go_ret
  exact ⟨by rw [← HE.out]; rfl, HB.out.trans (hb2.mono HB.out.size)⟩
end Go.Proofs.YthcggdjkfebemaaGreatDoor

/-
  Plain facts on printed documents: they are plain texts of characters, without a carriage return, and short where the document is. No step of the program in this text.
-/
namespace Go.Proofs.YthcggdjkfebemaaGreatDoor
open Go.RowKit
set_option linter.unusedVariables false
set_option linter.unusedSimpArgs false
/-- Characters of a document, and no carriage return. -/
def PX (l : List UInt8) : Prop := (∃ ys : List Int, (∀ y ∈ ys, docB y = true) ∧ l = bytesOf (encA ys)) ∧ ∀ b ∈ l, b ≠ 13
theorem px_app {a b : List UInt8} (h : PX a) (k : PX b) : PX (a ++ b) := by
  obtain ⟨⟨ys, h1, h2⟩, h3⟩ := h
  obtain ⟨⟨zs, k1, k2⟩, k3⟩ := k
  refine ⟨⟨ys ++ zs, fun y hy => ?_, by rw [h2, k2, encA_app, bytesOf_app]⟩, fun x hx => ?_⟩
  · rcases List.mem_append.1 hy with e | e
    · exact h1 y e
    · exact k1 y e
  · rcases List.mem_append.1 hx with e | e
    · exact h3 x e
    · exact k3 x e
theorem px_asc {l : List UInt8} (h : ∀ b ∈ l, AscB b ∧ b ≠ 13) : PX l := ⟨asc_list l (fun b hb => (h b hb).1), fun b hb => (h b hb).2⟩
theorem escB_13 (attr : Bool) (c : UInt8) : ∀ b ∈ escB attr c, b ≠ 13 := by
  unfold escB
  split
  · decide +revert
  split
  · decide +revert
  split
  · decide +revert
  split
  · decide +revert
  split
  · decide +revert
  split
  · decide +revert
  split
  · decide +revert
  · rename_i h38 h60 h62 h13 h34 h9 h10
    intro b hb
    rw [List.mem_singleton] at hb
    subst hb
    exact h13
theorem esc_13 (attr : Bool) (l : List UInt8) : ∀ b ∈ escL attr l, b ≠ 13 := by
  intro b hb
  unfold escL at hb
  obtain ⟨c, hc, hb⟩ := List.mem_flatMap.1 hb
  exact escB_13 attr c b hb
theorem px_esc (attr : Bool) {s : ByteArray} (hp : plainB s = true) : PX (escL attr s.data.toList) := by
  refine ⟨?_, esc_13 attr _⟩
  unfold plainB at hp
  rw [Bool.and_eq_true] at hp
  obtain ⟨h1, h2⟩ := hp
  unfold rns at h1 h2
  by_cases hs : s.size ≤ 20000
  · rw [if_pos hs] at h1 h2
    cases hx : runesL s.data.toList with
    | none => rw [hx] at h1; cases h1
    | some xs =>
      rw [hx] at h2
      have h3 : ∀ x ∈ xs, docB x = true := List.all_eq_true.1 h2
      have hl : s.data.toList.length = s.size := Array.length_toList
      have h4 := runes_back _ _ (Nat.le_refl _) xs [] hx (by rw [hl]; simpa using hs)
      obtain ⟨h5, _, _⟩ := goR_enc xs [] _ h4
      rw [List.nil_append, List.nil_append] at h5
      have h6 : s.data.toList = bytesOf (encA xs) := by rw [← h5, nums_back]
      obtain ⟨ys, h7, h8⟩ := esc_chars attr xs h3
      rw [← h6] at h8
      exact ⟨ys, h7, h8⟩
  · rw [if_neg hs] at h1; cases h1
theorem px_back {l : List UInt8} (h : PX l) (hl : l.length ≤ 20000) : plainB ⟨l.toArray⟩ = true := by
  obtain ⟨⟨ys, h7, h8⟩, -⟩ := h
  have h9 := runes_enc ys (fun y hy => doc_chr (h7 y hy))
  have e : rns ⟨l.toArray⟩ = some ys := by
    unfold rns
    rw [if_pos (by show l.toArray.size ≤ 20000; simpa using hl)]
    show runesL l.toArray.toList = some ys
    rw [List.toList_toArray, h8]
    exact h9
  unfold plainB
  rw [e, Bool.and_eq_true]
  exact ⟨rfl, List.all_eq_true.2 h7⟩
theorem qC_asc {b : UInt8} (h : qC b = true) : AscB b ∧ b ≠ 13 := by
  unfold qC qI moreB at h
  simp only [Bool.or_eq_true, decide_eq_true_eq] at h
  refine ⟨?_, fun e => by subst e; revert h; decide⟩
  unfold AscB
  omega
theorem px_qual {s : ByteArray} (h : qualB s = true) : PX s.data.toList := px_asc fun b hb => qC_asc ((qual_q h).2 b hb)
theorem px_lit {l : List UInt8} (h : l.all (fun b => decide (b.toNat = 9 ∨ b.toNat = 10 ∨ b.toNat = 13 ∨ (32 ≤ b.toNat ∧ b.toNat ≤ 127)) && b != 13) = true) : PX l := px_asc fun b hb => by
  have h9 := List.all_eq_true.1 h b hb
  rw [Bool.and_eq_true, decide_eq_true_eq, bne_iff_ne] at h9
  exact h9
section
variable {D : Dc} (h : docokB D = true)
include h
theorem px_ats {i : Nat} (hi : i < D.n) (ht : isE (D.NM i) = false) : ∀ k, k ≤ D.AC i → PX (atsP (D.AN i) (D.AV i) k)
  | 0, _ => (px_lit (by decide) : PX [])
  | k + 1, hk => by
    rw [atsP]
    refine px_app (px_ats hi ht k (by omega)) ?_
    obtain ⟨x, nm, -, hq, -, -, hv⟩ := at_fact h hi ht (show k < D.AC i by omega)
    unfold escOk at hv
    rw [Bool.and_eq_true] at hv
    unfold atP
    exact px_app (px_app (px_app (px_app (px_lit (by decide)) (px_qual hq)) (px_lit (by decide))) (px_esc true hv.2)) (px_lit (by decide))
theorem px_it {i : Nat} (hi : i < D.n) (ht : isE (D.NM i) = false) {b : List UInt8} (hb : PX b) (e : Nat) : PX (itP D i b e) := by
  obtain ⟨-, hq, -⟩ := elem_part h hi ht
  have hh : PX (hdP D i) := px_app (px_app (px_lit (by decide)) (px_qual hq)) (px_ats h hi ht _ (Nat.le_refl _))
  unfold itP
  split
  · exact px_app hh (px_lit (by decide))
  · refine px_app (px_app (px_app hh (px_lit (by decide))) hb) ?_
    unfold clP
    exact px_app (px_app (px_lit (by decide)) (px_qual hq)) (px_lit (by decide))
theorem px_kl {i : Int} {m : Nat} {b : List UInt8} {e : Nat} (hk : Kl D i m b e) : PX b := by
  induction hk with
  | stop _ => exact px_lit (by decide)
  | text h1 h2 h3 h4 ih => exact px_app (px_esc false (text_part h h1 h3).2.2) ih
  | elem h1 h2 h3 ha hb iha ihb => exact px_app (px_it h h1 h3 iha _) ihb
theorem px_doc : PX (docP D) := by
  obtain ⟨b, hk, h0, e, -, -⟩ := kl_of_doc h
  rw [e]
  exact px_it h (by have := (docok_facts h).1; omega) h0 (px_kl h hk) _
end
def wgQ (D : Dc) (j : Nat) : Nat := 6 * szD D j + 50
theorem wgQ_sum (D : Dc) : ∀ n, sumN (wgQ D) n = 6 * sumN (szD D) n + 50 * n
  | 0 => rfl
  | n + 1 => by
    have h1 := wgQ_sum D n
    have h2 : sumN (wgQ D) (n + 1) = sumN (wgQ D) n + (6 * szD D n + 50) := rfl
    have h3 : sumN (szD D) (n + 1) = sumN (szD D) n + szD D n := rfl
    omega
theorem it_lenQ {D : Dc} {m : Nat} {b : List UInt8} {e : Nat} (h : D.AC m ≤ 10) : (itP D m b e).length ≤ wgQ D m + b.length := by
  have h1 := hd_len D m
  have h2 := cl_len D m
  have h3 : wgQ D m = 6 * ((D.NM m).size + (D.TX m).size + atsT (D.AC m) (D.AN m) (D.AV m)) + 50 := rfl
  unfold itP
  split
  · simp only [List.length_append, List.length_cons, List.length_nil]; omega
  · simp only [List.length_append, List.length_cons, List.length_nil]; omega
theorem kl_lenQ {D : Dc} (hac : ∀ j, j < D.n → D.AC j ≤ 10) {i : Int} {m : Nat} {b : List UInt8} {e : Nat} (h : Kl D i m b e) : b.length + sumN (wgQ D) m ≤ sumN (wgQ D) e := by
  induction h with
  | stop h => simp
  | text h1 h2 h3 h ih =>
    rename_i i m b e
    have h4 := tx_len D m
    have h5 : sumN (wgQ D) (m + 1) = sumN (wgQ D) m + (6 * ((D.NM m).size + (D.TX m).size + atsT (D.AC m) (D.AN m) (D.AV m)) + 50) := rfl
    rw [List.length_append]
    omega
  | elem h1 h2 h3 ha hb iha ihb =>
    rename_i i m b1 e1 b2 e
    have h4 := it_lenQ (b := b1) (e := e1) (hac m h1)
    have h5 : sumN (wgQ D) (m + 1) = sumN (wgQ D) m + wgQ D m := rfl
    rw [List.length_append]
    omega
/-- A document of few items is short. -/
theorem doc_short {D : Dc} (h : docokB D = true) : (docP D).length ≤ 15000 + 50 * D.n := by
  obtain ⟨b, hk, h0, e, -, -⟩ := kl_of_doc h
  obtain ⟨⟨h1, h2⟩, -, hs⟩ := docok_facts h
  have h5 := kl_lenQ (fun j hj => doc_ac h hj) hk
  have h6 := it_lenQ (b := b) (e := D.n) (doc_ac h (show 0 < D.n by omega))
  have h7 := wgQ_sum D D.n
  have h8 : sumN (wgQ D) 1 = 0 + wgQ D 0 := rfl
  rw [e]
  omega
theorem lines_id : ∀ l : List UInt8, (∀ b ∈ l, b ≠ 13) → linesB l = l
  | [], _ => rfl
  | b :: l, h => by
    rw [linesB, if_neg (h b (List.mem_cons_self ..)), lines_id l (fun x hx => h x (List.mem_cons_of_mem _ hx))]
end Go.Proofs.YthcggdjkfebemaaGreatDoor
