/-
  Texts put together: PaB, PaC.
-/
import Derived.Test.YthcggdjkfebemaaGreatDoorB13
import Derived.Test.YthcggdjkfebemaaGreatDoorB20
import Derived.Test.YthcggdjkfebemaaGreatDoorB21
/-
  Contracts of the program's reader of documents: names, marks in a text, attributes.
-/
namespace Go.Proofs.YthcggdjkfebemaaGreatDoor
open Go.RowKit Go.Joins
set_option linter.unusedVariables false
set_option linter.unusedSimpArgs false
/-- A byte of a qualified name. -/
def qI (c : Int) : Bool := moreB c || decide (c = 58)
def qC (c : UInt8) : Bool := qI (c.toNat : Int)
theorem first_more {c : Int} (h : firstB c = true) : moreB c = true := by
  unfold firstB at h
  unfold moreB
  rw [decide_eq_true_eq] at h ⊢
  omega
theorem name_q {s : ByteArray} (h : nameB s = true) : s.data.toList ≠ [] ∧ ∀ b ∈ s.data.toList, moreB (b.toNat : Int) = true := by
  unfold nameB at h
  simp only [Bool.and_eq_true, decide_eq_true_eq, List.all_eq_true, List.mem_range, Bool.or_eq_true, beq_iff_eq] at h
  obtain ⟨h1, h2, h3, h4⟩ := h
  have hl : s.data.toList.length = s.size := by simp
  refine ⟨fun e => by rw [e] at hl; simp at hl; omega, fun b hb => ?_⟩
  obtain ⟨j, hj, e⟩ := List.mem_iff_getElem.1 hb
  have e2 : at8 s j = (b.toNat : Int) := by unfold at8; rw [List.getElem?_eq_getElem hj, ← e]; rfl
  rcases h4 j (by omega) with h5 | h5
  · subst h5
    rw [e2] at h3
    exact first_more h3
  · rw [e2] at h5; exact h5
theorem ri_exl2 (s : ByteArray) (a b : Nat) : (s.extract a b).data.toList = (s.data.toList.take b).drop a := by
  rw [ByteArray.data_extract, Array.toList_extract]
  simp [List.extract_eq_take_drop, List.drop_take]
theorem qual_q {s : ByteArray} (h : qualB s = true) : s.data.toList ≠ [] ∧ ∀ b ∈ s.data.toList, qC b = true := by
  unfold qualB at h
  by_cases hc : colon s = -1
  · by_cases hn : nameB s = true
    · obtain ⟨h1, h2⟩ := name_q hn
      exact ⟨h1, fun b hb => by unfold qC qI; rw [h2 b hb]; rfl⟩
    · rw [spl_b hc (by simpa using hn)] at h; cases h
  · rcases colon_cases s with h0 | ⟨k, hk, hks⟩
    · exact absurd h0 hc
    · by_cases hn : nameB (s.extract 0 k) = true ∧ nameB (s.extract (k + 1) s.size) = true
      · obtain ⟨h1, h2⟩ := name_q hn.1
        obtain ⟨h3, h4⟩ := name_q hn.2
        rw [ri_exl2, List.drop_zero] at h1 h2
        rw [ri_exl2] at h4
        have hl : s.data.toList.length = s.size := by simp
        refine ⟨fun e => h1 (by rw [e]; simp), fun b hb => ?_⟩
        obtain ⟨j, hj, e⟩ := List.mem_iff_getElem.1 hb
        unfold qC qI
        rcases Nat.lt_trichotomy j k with h5 | h5 | h5
        · rw [h2 b (by rw [← e]; exact List.mem_take_iff_getElem.2 ⟨j, by omega, rfl⟩)]; rfl
        · subst h5
          have h6 := (Lib.indexByte_some (show Lib.indexByte s.data.toList 58 = (j : Int) from hk)).1
          rw [List.getElem?_eq_getElem hj, e] at h6
          cases h6
          decide
        · rw [h4 b (by
            rw [List.take_of_length_le (by omega)]
            rw [List.mem_iff_getElem]
            exact ⟨j - (k + 1), by rw [List.length_drop]; omega, by rw [List.getElem_drop]; simp only [show k + 1 + (j - (k + 1)) = j by omega]; exact e⟩)]
          rfl
      · rw [spl_d hk (by by_cases h9 : nameB (s.extract 0 k) = true
                         · exact .inr (by simpa using fun h8 => hn ⟨h9, h8⟩)
                         · exact .inl (by simpa using h9))] at h
        cases h
theorem idx_one (c : UInt8) (r : List UInt8) : ∀ a : List UInt8, (∀ b ∈ a, b ≠ c) → Lib.index (a ++ c :: r) [c] = a.length
  | [], _ => by
    rw [List.nil_append, Lib.index]
    simp [List.isPrefixOf]
  | b :: a, h => by
    have h1 := idx_one c r a (fun x hx => h x (List.mem_cons_of_mem _ hx))
    have h2 : b ≠ c := h b (List.mem_cons_self ..)
    rw [List.cons_append, Lib.index, if_neg (by simp [List.isPrefixOf]; try exact fun e => h2 e.symm), h1, if_neg (by simp <;> omega)]
    simp
theorem cut_one (c : UInt8) (a r : List UInt8) (h : ∀ b ∈ a, b ≠ c) : Lib.cut (a ++ c :: r) [c] = (a, r, true) := by
  unfold Lib.cut
  rw [idx_one c r a h, if_pos (by omega)]
  simp [List.drop_append]
theorem idx_absent {x : UInt8} {sub : List UInt8} (hx : x ∈ sub) : ∀ l : List UInt8, (∀ b ∈ l, b ≠ x) → Lib.index l sub = -1
  | [], _ => by
    rw [Lib.index, if_neg]
    intro e
    rw [List.isEmpty_iff] at e
    rw [e] at hx; cases hx
  | b :: l, h => by
    rw [Lib.index, if_neg, idx_absent hx l (fun y hy => h y (List.mem_cons_of_mem _ hy))]
    · rfl
    · intro e
      have h1 := List.isPrefixOf_iff_prefix.1 e
      exact h x (h1.subset hx) rfl
theorem rep_absent {x : UInt8} {sub new l : List UInt8} (hx : x ∈ sub) (h : ∀ b ∈ l, b ≠ x) (hn : sub ≠ new) : Lib.replaceAll l sub new = l := by
  have h0 := idx_absent hx l h
  have hc : Lib.count l sub = 0 := by unfold Lib.count Lib.countFrom; rw [h0]; rfl
  unfold Lib.replaceAll Lib.replace
  rw [if_neg (by simpa using hn)]
  unfold Lib.replaceNum
  rw [if_pos (.inl (by decide)), hc]
  rfl
theorem count_absent {x : UInt8} {sub l : List UInt8} (hx : x ∈ sub) (h : ∀ b ∈ l, b ≠ x) : Lib.count l sub = 0 := by
  have h0 := idx_absent hx l h
  unfold Lib.count Lib.countFrom; rw [h0]; rfl
theorem has_absent {x : UInt8} {sub l : List UInt8} (hx : x ∈ sub) (h : ∀ b ∈ l, b ≠ x) : Lib.contains l sub = false := by
  unfold Lib.contains
  rw [idx_absent hx l h]
  rfl
theorem i_rnm (c : Int) (w : World) : Calls Tryz.prog 103 #[.int .u8 c] w fun e w' => e = .returned (.bool (qI c)) ∧ w' = w := by
  unfold qI
  cases hm : moreB c
  · by_cases h : c = 58
    · subst h
      go_enter Tryz.func103, Tryz.ntmps103
      go_wp2_with (go_at_call 104; refine (i_more _ _).mono ?_; rintro e w9 ⟨rfl, h9⟩; rw [h9, hm]; clear h9 w9)
      go_ret
      exact ⟨rfl, rfl⟩
    · have hb : (c == 58) = false := by rw [beq_eq_false_iff_ne]; exact h
      have hd : decide (c = 58) = false := decide_eq_false h
      clear h
      go_enter Tryz.func103, Tryz.ntmps103
      go_wp2_with (go_at_call 104; refine (i_more _ _).mono ?_; rintro e w9 ⟨rfl, h9⟩; rw [h9, hm]; clear h9 w9)
      go_ret
      exact ⟨by rw [hd]; rfl, rfl⟩
  · go_enter Tryz.func103, Tryz.ntmps103
    go_wp2_with (go_at_call 104; refine (i_more _ _).mono ?_; rintro e w9 ⟨rfl, h9⟩; rw [h9, hm]; clear h9 w9)
    go_ret
    exact ⟨rfl, rfl⟩
theorem ba_ofP {s : ByteArray} {l : List UInt8} (h : s.data.toList = l) : s = ⟨l.toArray⟩ := by subst h; cases s; simp
section
variable {R : Nat} {l p r : List UInt8} {x1 x2 x3 : Value} {w : World}
set_option maxRecDepth 100000 in
set_option maxHeartbeats 4000000 in
theorem i_run (a : List UInt8) (c : UInt8) (h : RB w R (a ++ c :: r) x1 x2 x3) (ha : ∀ b ∈ a, qC b = true) (hc : qC c = false) (hl : a.length ≤ 1048576) :
    Calls Tryz.prog 102 #[.pointer (some ⟨R, 0, none⟩), .func (.func 103) #[] #[]] w fun e w' => e = .returned (.string ⟨a.toArray⟩) ∧ RdP R w (c :: r) x1 x2 x3 w' := by
  have HH := hide h
  obtain ⟨c0, -, -, -⟩ := rb_cells h
  have f0 := rb_frozen h 0
  obtain ⟨u, hu⟩ : ∃ u : ByteArray, (⟨(a ++ c :: r).toArray⟩ : ByteArray) = u := ⟨_, rfl⟩
  rw [hu] at c0
  obtain ⟨n, hn⟩ : ∃ n, a.length = n := ⟨_, rfl⟩
  have hsz : u.size = n + 1 + r.length := by rw [← hu, ← hn]; show (a ++ c :: r).toArray.size = _; simp; omega
  have HAT : Hid (∀ k (hk : k < u.size), k < n → qI (u[k].toNat : Int) = true) := hide (fun k hk hkn => by
    subst hu
    have e : (⟨(a ++ c :: r).toArray⟩ : ByteArray)[k] = a[k]'(by omega) := by
      show (a ++ c :: r).toArray[k]'_ = _
      simp [List.getElem_append_left (show k < a.length by omega)]
    rw [e]
    exact ha _ (List.getElem_mem _))
  have HAC : Hid (∀ (hk : n < u.size), qI (u[n].toNat : Int) = false) := hide (fun hk => by
    subst hu
    subst hn
    have e : (⟨(a ++ c :: r).toArray⟩ : ByteArray)[a.length] = c := by
      show (a ++ c :: r).toArray[a.length]'_ = _
      simp
    rw [e]
    exact hc)
  have HX : Hid (u.extract 0 n = ⟨a.toArray⟩ ∧ u.extract n (n + 1 + r.length) = ⟨(c :: r).toArray⟩) := hide (by
    rw [← hsz]
    subst hu
    constructor
    · refine ba_ofP ?_
      rw [ri_exl2, List.drop_zero]
      show (a ++ c :: r).take n = a
      rw [← hn, List.take_left]
    · refine ba_ofP ?_
      rw [ri_exl2]
      show ((a ++ c :: r).take (a ++ c :: r).toArray.size).drop n = c :: r
      rw [List.size_toArray, List.take_length]
      rw [← hn, List.drop_left])
  clear h ha hc hu
  go_enter Tryz.func102, Tryz.ntmps102
  go_wp2_with fail
  go_loopw [5] (fun v5 wr => ∃ k : Nat, k ≤ n ∧ v5 = .int .i64 k ∧ wr = w) (fun v5 _ => n - (intOf v5).toNat)
  case atStart => exact ⟨0, Nat.zero_le _, rfl, rfl⟩
  case round =>
    obtain ⟨k, hk, rfl, rfl⟩ := hrel
    have hku : k < u.size := by omega
    have hki : (k : Int) < (u.size : Int) := by omega
    have hk0 : (0 : Int) ≤ (k : Int) := by omega
    by_cases hlt : k < n
    · have hq := HAT.out k hku hlt
      go_wp2_with fail
      refine (i_rnm _ _).mono ?_
      rintro e w1 ⟨rfl, hw1⟩
      rw [hw1, hq]
      clear hw1 hq
      go_wp2
      go_roundw
      case rel => exact ⟨k + 1, by omega, by go_num, trivial⟩
      case measure => simp [intOf]; omega
    · have hkn : k = n := by omega
      subst hkn
      have hq := HAC.out hku
      go_wp2_with fail
      refine (i_rnm _ _).mono ?_
      rintro e w1 ⟨rfl, hw1⟩
      rw [hw1, hq]
      clear hw1 hq
      go_wp2
      go_ret
      exact ⟨by rw [HX.out.1]; rfl, by rw [HX.out.2]; exact rb_set0 HH.out _, rg_set R 0 _ _⟩
set_option maxHeartbeats 4000000 in
theorem i_rdName (nm : List UInt8) (c : UInt8) (h : RB w R (nm ++ c :: r) x1 x2 x3) (hq : qualB ⟨nm.toArray⟩ = true) (hc : qC c = false) (hl : nm.length ≤ 1048576) :
    Calls Tryz.prog 83 #[.pointer (some ⟨R, 0, none⟩)] w fun e w' => e = .returned (.string ⟨nm.toArray⟩) ∧ RdP R w (c :: r) x1 x2 x3 w' := by
  have CR := hide (i_run nm c h (qual_q hq).2 hc hl)
  have HQ := hide hq
  have hs : (⟨nm.toArray⟩ : ByteArray).size ≤ 1048576 := by rw [show (⟨nm.toArray⟩ : ByteArray).size = nm.length from List.size_toArray]; exact hl
  have HS := hide hs
  clear h hq hc hl hs
  go_enter Tryz.func83, Tryz.ntmps83
  go_wp2_with fail
  refine CR.out.mono ?_
  rintro e w1 ⟨rfl, h1⟩
  have H1 := hide h1
  clear h1
  go_upto_region 2 with fail
  go_region_with (first
    | (go_at_call 50; refine (i_qual _ _ HS.out).mono ?_; rintro e w2 ⟨rfl, q2, rfl⟩; rw [HQ.out])
    | (go_at_call 59; refine (i_wantY _ _).mono ?_; rintro e w3 ⟨rfl, hw3⟩; rw [hw3]; clear hw3 w3))
  all_goals
    go_wp2
    go_ret
    exact ⟨rfl, H1.out.1, rg_trans H1.out.2 ⟨rfl, rfl, rfl, Nat.le_refl _, fun _ _ _ => rfl⟩⟩
set_option maxRecDepth 100000 in
set_option maxHeartbeats 2000000 in
theorem i_tagEnd (c : UInt8) (h : RB w R (c :: r) x1 x2 x3) :
    Calls Tryz.prog 84 #[.pointer (some ⟨R, 0, none⟩)] w fun e w' => e = .returned (.bool (decide (c = 47 ∨ c = 62))) ∧ w' = w := by
  obtain ⟨c0, -, -, -⟩ := rb_cells h
  have C : Hid (∀ d : UInt8, Calls Tryz.prog 105 #[.string ⟨(c :: r).toArray⟩, .string ⟨#[d]⟩] w fun e w' => e = .returned (.bool (decide (d = c))) ∧ w' = w) := hide (fun d => by
    have h9 := Tryz.strings_HasPrefix ⟨(c :: r).toArray⟩ ⟨#[d]⟩ w
    have e : Lib.hasPrefix (⟨(c :: r).toArray⟩ : ByteArray).data.toList (⟨#[d]⟩ : ByteArray).data.toList = decide (d = c) := by
      show List.isPrefixOf [d] (c :: r) = _
      simp [List.isPrefixOf]
      by_cases h : d = c <;> simp [h]
    rw [e] at h9
    exact h9)
  obtain ⟨t, ht⟩ : ∃ t : ByteArray, (⟨(c :: r).toArray⟩ : ByteArray) = t := ⟨_, rfl⟩
  rw [ht] at C c0
  clear h ht
  by_cases h1 : c = 47
  · subst h1
    go_enter Tryz.func84, Tryz.ntmps84
    go_wp2_with (go_at_call 105; refine (C.out _).mono ?_; rintro e w9 ⟨rfl, h9⟩; rw [h9]; clear h9 w9)
    go_ret
    exact ⟨rfl, rfl⟩
  · have e1 : decide ((47 : UInt8) = c) = false := decide_eq_false (fun e => h1 e.symm)
    by_cases h2 : c = 62
    · subst h2
      go_enter Tryz.func84, Tryz.ntmps84
      go_wp2_with (first
        | (go_at_call 105; refine (C.out 47).mono ?_; rintro e w9 ⟨rfl, h9⟩; rw [h9, e1]; clear h9 w9)
        | (go_at_call 105; refine (C.out 62).mono ?_; rintro e w9 ⟨rfl, h9⟩; rw [h9]; clear h9 w9))
      go_ret
      exact ⟨rfl, rfl⟩
    · have e2 : decide ((62 : UInt8) = c) = false := decide_eq_false (fun e => h2 e.symm)
      have e3 : decide (c = 47 ∨ c = 62) = false := decide_eq_false (by rintro (h | h); exact h1 h; exact h2 h)
      go_enter Tryz.func84, Tryz.ntmps84
      go_wp2_with (first
        | (go_at_call 105; refine (C.out 47).mono ?_; rintro e w9 ⟨rfl, h9⟩; rw [h9, e1]; clear h9 w9)
        | (go_at_call 105; refine (C.out 62).mono ?_; rintro e w9 ⟨rfl, h9⟩; rw [h9, e2]; clear h9 w9))
      go_ret
      exact ⟨by rw [e3]; rfl, rfl⟩
set_option maxHeartbeats 2000000 in
theorem i_unesc (q : Value) (hq : q = .pointer (some ⟨R, 0, none⟩)) (t v : ByteArray) (hE : EnvR R w) (hp : plainB t = true) (hu : unesc t.data.toList = some v.data.toList) (ht : t.size ≤ 1048576) :
    Calls Tryz.prog 106 #[q, .string t] w fun e w' => e = .returned (.string v) ∧ Below w.heap.size w w' := by
  subst hq
  obtain ⟨m, hm⟩ := env_max hE
  have C := hide (i_unescape t w m ht (env_tabs hE) hm)
  have hv := unV_yes hp
  rw [hu] at hv
  have e1 : unV t = v := by
    rw [hv.1]
    show (⟨v.data.toList.toArray⟩ : ByteArray) = v
    cases v; simp
  have e2 : unOk t = true := hv.2
  rw [e1, e2] at C
  clear hm hp hu ht hE hv e1 e2
  go_enter Tryz.func106, Tryz.ntmps106
  go_wp2_with fail
  refine C.out.mono ?_
  rintro e w1 ⟨rfl, hb1⟩
  have B1 := hide hb1
  clear hb1
  go_wp2_with fail
  refine (i_wantY _ _).mono ?_
  rintro e w2 ⟨rfl, hw2⟩
  rw [hw2]
  clear hw2
  go_wp2
  go_ret
  exact ⟨rfl, B1.out⟩
end
end Go.Proofs.YthcggdjkfebemaaGreatDoor

/-
  Contract of the program's reader of documents: an attribute.
-/
namespace Go.Proofs.YthcggdjkfebemaaGreatDoor
open Go.RowKit Go.Joins
set_option linter.unusedVariables false
set_option linter.unusedSimpArgs false
theorem escB_not (c : UInt8) : ∀ b ∈ escB true c, b ≠ 9 ∧ b ≠ 10 ∧ b ≠ 13 := by
  unfold escB
  split
  · decide +revert
  split
  · decide +revert
  split
  · decide +revert
  split
  · decide +revert
  split
  · intro b hb; rw [List.mem_cons, List.mem_cons, List.mem_cons, List.mem_cons, List.mem_cons, List.mem_cons] at hb; rcases hb with rfl | rfl | rfl | rfl | rfl | rfl | hb <;> first | (exact ⟨by decide, by decide, by decide⟩) | cases hb
  split
  · intro b hb; rw [List.mem_cons, List.mem_cons, List.mem_cons, List.mem_cons] at hb; rcases hb with rfl | rfl | rfl | rfl | hb <;> first | (exact ⟨by decide, by decide, by decide⟩) | cases hb
  split
  · intro b hb; rw [List.mem_cons, List.mem_cons, List.mem_cons, List.mem_cons, List.mem_cons] at hb; rcases hb with rfl | rfl | rfl | rfl | rfl | hb <;> first | (exact ⟨by decide, by decide, by decide⟩) | cases hb
  · rename_i h38 h60 h62 h13 h34 h9 h10
    intro b hb
    rw [List.mem_singleton] at hb
    subst hb
    exact ⟨fun e => h9 ⟨rfl, e⟩, fun e => h10 ⟨rfl, e⟩, h13⟩
theorem esc_not (l : List UInt8) : ∀ b ∈ escL true l, b ≠ 9 ∧ b ≠ 10 ∧ b ≠ 13 := by
  intro b hb
  unfold escL at hb
  obtain ⟨c, hc, hb⟩ := List.mem_flatMap.1 hb
  exact escB_not c b hb
theorem tb_none {c : UInt8} {r : List UInt8} (h : c ≠ 32 ∧ c ≠ 9 ∧ c ≠ 10) : tbL (c :: r) = c :: r := by
  unfold tbL Lib.trimLeftS
  rw [List.dropWhile_cons, if_neg]
  simp [h.1, h.2.1, h.2.2]
theorem tb_nil : tbL [] = [] := rfl
theorem esc_lenP (attr : Bool) : ∀ l : List UInt8, (escL attr l).length ≤ 6 * l.length
  | [] => Nat.le_refl _
  | c :: l => by
    rw [escL_cons, List.length_append, List.length_cons]
    have := escB_len attr c
    have := esc_lenP attr l
    omega
section
variable {R : Nat} {l p r : List UInt8} {x1 x2 x3 : Value} {w : World}
theorem rd_box {G : Nat} {o : Obj} {w' : World} (hG : w.heap[G]? = some o) (h : RG R w w') (hne : G ≠ R) : w'.heap[G]? = some o := by
  rw [h.block G (Array.getElem?_eq_some_iff.1 hG).1 (fun e => hne (by cases e; rfl))]; exact hG
theorem rg_fresh {G i : Nat} {w' : World} (h : RG R w w') (hG : w.heap.size ≤ G) (v : Value) : RG R w (w'.setCell ⟨G, i, none⟩ v) :=
  ⟨h.os, h.tape, h.output, by rw [heap_setCell_size]; exact h.size, fun k hk hne => (heap_setCell_far w' ⟨G, i, none⟩ v k (by show G ≠ k; omega)).trans (h.block k hk hne)⟩
theorem rb_far {G i : Nat} {v : Value} (h : RB w R l x1 x2 x3) (hne : G ≠ R) : RB (w.setCell ⟨G, i, none⟩ v) R l x1 x2 x3 := (heap_setCell_far w ⟨G, i, none⟩ v R hne).trans h
set_option maxRecDepth 100000 in
set_option maxHeartbeats 8000000 in
theorem i_rdAttr (nm : List UInt8) (v : ByteArray) (hE : EnvR R w) (h : RB w R (nm ++ 61 :: 34 :: (escL true v.data.toList ++ 34 :: r)) x1 x2 x3) (hq : qualB ⟨nm.toArray⟩ = true) (hn : nm.length ≤ 2500) (hv : escOk v = true) (hr : r.length ≤ 1000000) :
    Calls Tryz.prog 85 #[.pointer (some ⟨R, 0, none⟩)] w fun e w' => e = .returned (.agg #[.string ⟨nm.toArray⟩, .string v]) ∧ RdP R w r x1 x2 x3 w' := by
  have hlt := rb_lt h
  unfold escOk at hv
  rw [Bool.and_eq_true, decide_eq_true_eq] at hv
  obtain ⟨t, ht⟩ : ∃ t, escL true v.data.toList = t := ⟨_, rfl⟩
  have hvl : v.data.toList.length = v.size := by simp
  have htl : t.length ≤ 15000 := by rw [← ht]; have := esc_lenP true v.data.toList; omega
  have HP : Hid (plainB ⟨t.toArray⟩ = true) := hide (by rw [← ht]; exact plain_esc true hv.2 (by rw [ht]; omega))
  have HU : Hid (unesc (⟨t.toArray⟩ : ByteArray).data.toList = some v.data.toList) := hide (by show unesc t = _; rw [← ht]; exact un_esc true _)
  have HF : Hid (∀ b ∈ t, b ≠ 34 ∧ b ≠ 9 ∧ b ≠ 10) := hide (fun b hb => by
    rw [← ht] at hb
    exact ⟨(esc_free true _ b hb).2.2 rfl, (esc_not _ b hb).1, (esc_not _ b hb).2.1⟩)
  have hts : (⟨t.toArray⟩ : ByteArray).size = t.length := List.size_toArray
  rw [ht] at h
  have HH := hide h
  have HE := hide hE
  have HQ := hide hq
  have CRA : Hid (∀ (x : UInt8) (w9 : World), (∀ b ∈ t, b ≠ x) → x ≠ 32 → MaxP w9 → Calls Tryz.prog 60 #[.string ⟨t.toArray⟩, .string ⟨#[x]⟩, .string ⟨#[32]⟩] w9 fun e w' => e = .returned (.string ⟨t.toArray⟩) ∧ Below w9.heap.size w9 w') := hide (fun x w9 hx hx2 ⟨m, hm⟩ => by
    have hc : Lib.countB ⟨t.toArray⟩ ⟨#[x]⟩ = 0 := count_absent (x := x) (sub := [x]) (by simp) hx
    have h9 := Tryz.strings_ReplaceAll ⟨t.toArray⟩ ⟨#[x]⟩ ⟨#[32]⟩ m w9 (by rw [hts]; omega) hm (by show 1 ≤ 1; omega) (by rw [hc, hts]; omega)
    have e : Lib.replaceAll (⟨t.toArray⟩ : ByteArray).data.toList (⟨#[x]⟩ : ByteArray).data.toList (⟨#[32]⟩ : ByteArray).data.toList = t := rep_absent (x := x) (by show x ∈ [x]; simp) hx (by show ([x] : List UInt8) ≠ [32]; intro e; cases e; exact hx2 rfl)
    rw [e] at h9
    exact h9)
  have HTS := hide hts
  have HX0 : Hid ((w.alloc (.cells #[.string ⟨#[]⟩, .string ⟨#[]⟩] 58)).heap[w.heap.size]? = some (.cells #[.string ⟨#[]⟩, .string ⟨#[]⟩] 58 (0, 0))) := hide (heap_alloc_new w _)
  have HB0 := hide ((Below.refl w.heap.size w).alloc (Nat.le_refl _) (.cells #[.string ⟨#[]⟩, .string ⟨#[]⟩] 58))
  have H0 := hide (rb_below HH.out HB0.out)
  have HE0 := hide (env_go HE.out (HB0.out.mono (Nat.le_of_lt hlt)))
  clear h hE hq ht hv hts
  go_enter Tryz.func85, Tryz.ntmps85
  go_wp2_with fail
  obtain ⟨W0, hW0⟩ : ∃ W0, w.alloc (.cells #[.string ⟨#[]⟩, .string ⟨#[]⟩] 58) = W0 := ⟨_, rfl⟩
  have hs0 : W0.heap.size = w.heap.size + 1 := by rw [← hW0]; simp
  rw [hW0] at HX0 HB0 H0 HE0 ⊢
  have HS0 := hide hs0
  clear hW0 hs0
  refine (i_rdName nm 61 H0.out HQ.out (by decide) (by omega)).mono ?_
  rintro e w1 ⟨rfl, h1⟩
  have H1 := hide h1
  clear h1
  go_wp2_with fail
  refine (i_blanks H1.out.1).mono ?_
  rintro e w2 ⟨rfl, h2⟩
  rw [tb_none ⟨by decide, by decide, by decide⟩] at h2 ⊢
  have H2 := hide (show RdP R W0 _ _ _ _ w2 from ⟨h2.1, rg_trans H1.out.2 h2.2⟩)
  clear h2
  go_wp2_with fail
  refine (i_mustY (p := [61]) H2.out.1).mono ?_
  rintro e w3 ⟨rfl, h3⟩
  have H3 := hide (show RdP R W0 _ _ _ _ w3 from ⟨h3.1, rg_trans H2.out.2 h3.2⟩)
  clear h3
  go_wp2_with fail
  refine (i_blanks H3.out.1).mono ?_
  rintro e w4 ⟨rfl, h4⟩
  rw [tb_none ⟨by decide, by decide, by decide⟩] at h4 ⊢
  have H4 := hide (show RdP R W0 _ _ _ _ w4 from ⟨h4.1, rg_trans H3.out.2 h4.2⟩)
  clear h4
  go_wp2_with fail
  refine (i_takesY (p := [34]) H4.out.1).mono ?_
  rintro e w5 ⟨rfl, h5⟩
  have H5 := hide (show RdP R W0 _ _ _ _ w5 from ⟨h5.1, rg_trans H4.out.2 h5.2⟩)
  clear h5
  have HRL : Hid (R < W0.heap.size) := hide (rb_lt H0.out)
  go_wp2_with fail
  refine (i_upTo (p := [34]) (rd_env H5.out HE0.out HRL.out) H5.out.1 (by show (t ++ 34 :: r).length ≤ _; rw [List.length_append, List.length_cons]; omega) (cut_one 34 t r (fun b hb => (HF.out b hb).1))).mono ?_
  rintro e w6 ⟨rfl, h6⟩
  have H6 := hide (show RdP R W0 _ _ _ _ w6 from ⟨h6.1, rg_trans H5.out.2 h6.2⟩)
  clear h6
  go_wp2_with fail
  refine (CRA.out 9 w6 (fun b hb => (HF.out b hb).2.1) (by decide) (env_max (rd_env H6.out HE0.out HRL.out))).mono ?_
  rintro e w7 ⟨rfl, hb7⟩
  have H7 := hide (show RdP R W0 _ _ _ _ w7 from ⟨rb_below H6.out.1 hb7, rg_trans H6.out.2 (rg_below hb7)⟩)
  clear hb7
  go_wp2_with fail
  refine (CRA.out 10 w7 (fun b hb => (HF.out b hb).2.2) (by decide) (env_max (rd_env H7.out HE0.out HRL.out))).mono ?_
  rintro e w8 ⟨rfl, hb8⟩
  have H8 := hide (show RdP R W0 _ _ _ _ w8 from ⟨rb_below H7.out.1 hb8, rg_trans H7.out.2 (rg_below hb8)⟩)
  clear hb8
  go_wp2_with fail
  refine (i_unesc (R := R) _ rfl ⟨t.toArray⟩ v (rd_env H8.out HE0.out HRL.out) HP.out HU.out (by rw [HTS.out]; omega)).mono ?_
  rintro e w9 ⟨rfl, hb9⟩
  have H9 := hide (show RdP R W0 _ _ _ _ w9 from ⟨rb_below H8.out.1 hb9, rg_trans H8.out.2 (rg_below hb9)⟩)
  clear hb9
  have hX9 := rd_box HX0.out H9.out.2 (by omega)
  have k0 : w9.cell? ⟨w.heap.size, 0, none⟩ = some (.string ⟨#[]⟩) := by rw [cell_of_row w9 _ 0 _ _ (0, 0) hX9]; rfl
  have k1 : w9.cell? ⟨w.heap.size, 1, none⟩ = some (.string ⟨#[]⟩) := by rw [cell_of_row w9 _ 1 _ _ (0, 0) hX9]; rfl
  have fz : ∀ i, w9.frozen? ⟨w.heap.size, i, none⟩ = false := fun i => frozen_of_row w9 _ i _ _ hX9
  have HX9 := hide hX9
  clear hX9
  have hT := heap_setCell_same (w9.setCell ⟨w.heap.size, 0, none⟩ (.string ⟨nm.toArray⟩)) w.heap.size 1 _ _ (.string v) (heap_setCell_same w9 w.heap.size 0 _ _ (.string ⟨nm.toArray⟩) HX9.out)
  have y0 : ((w9.setCell ⟨w.heap.size, 0, none⟩ (.string ⟨nm.toArray⟩)).setCell ⟨w.heap.size, 1, none⟩ (.string v)).cell? ⟨w.heap.size, 0, none⟩ = some (.string ⟨nm.toArray⟩) := by rw [cell_of_row _ _ 0 _ _ (0, 0) hT]; rfl
  have y1 : ((w9.setCell ⟨w.heap.size, 0, none⟩ (.string ⟨nm.toArray⟩)).setCell ⟨w.heap.size, 1, none⟩ (.string v)).cell? ⟨w.heap.size, 1, none⟩ = some (.string v) := by rw [cell_of_row _ _ 1 _ _ (0, 0) hT]; rfl
  have Y0 := hide y0
  have Y1 := hide y1
  have HFIN : Hid (RdP R w r x1 x2 x3 ((w9.setCell ⟨w.heap.size, 0, none⟩ (.string ⟨nm.toArray⟩)).setCell ⟨w.heap.size, 1, none⟩ (.string v))) := hide ⟨rb_far (rb_far H9.out.1 (by omega)) (by omega), rg_fresh (rg_fresh (rg_trans (rg_below HB0.out) H9.out.2) (Nat.le_refl _) _) (Nat.le_refl _) _⟩
  clear hT y0 y1
  go_wp2
  exact bodyPost_ret (v := .agg #[.string ⟨nm.toArray⟩, .string v]) (by simp [results, Tryz.results85, go_sem, Y0.out, Y1.out]) rfl ⟨rfl, HFIN.out⟩
end
end Go.Proofs.YthcggdjkfebemaaGreatDoor
