/-
  Texts put together: FwS, TxRow, ClM.
-/
import Derived.Test.YtfohfljdgmlibaaDoorU28
import Derived.Test.YtfohfljdgmlibaaDoorU9
import Derived.Test.YtfohfljdgmlibaaDoorU2
import Derived.Test.YtfohfljdgmlibaaDoorU15
/-
  Contracts: what may follow a position, by both.
-/
namespace Go.Proofs.YtfohfljdgmlibaaDoor
open Go.RowKit Go.Joins
set_option linter.unusedVariables false
set_option linter.unusedSimpArgs false
theorem fw_inT (x a b : Int) (w : World) (h : a ≤ x ∧ x ≤ b) : Calls Tryd.prog 39 #[.int .i64 x, .int .i64 a, .int .i64 b] w fun e w' => e = .returned (.bool true) ∧ w' = w := by
  obtain ⟨h1, h2⟩ := h
  go_enter Tryd.func39, Tryd.ntmps39
  go_wp2
  go_ret
  exact ⟨by simp_all, rfl⟩
theorem fw_inF (x a b : Int) (w : World) (h : ¬ (a ≤ x ∧ x ≤ b)) : Calls Tryd.prog 39 #[.int .i64 x, .int .i64 a, .int .i64 b] w fun e w' => e = .returned (.bool false) ∧ w' = w := by
  by_cases h1 : a ≤ x
  · have h2 : ¬ x ≤ b := fun h2 => h ⟨h1, h2⟩
    clear h
    go_enter Tryd.func39, Tryd.ntmps39
    go_wp2
    go_ret
    exact ⟨by simp_all, rfl⟩
  · clear h
    go_enter Tryd.func39, Tryd.ntmps39
    go_wp2
    go_ret
    exact ⟨by simp_all, rfl⟩
set_option maxHeartbeats 2000000 in
theorem s_pos (D : Pn) (n b0 off cap : Nat) (x : Int) (w : World) (hRN : RN D n) (hn1 : 1 ≤ n) (hbs : b0 < w.heap.size) (hr : PnRow w b0 off D w.heap.size) :
    Calls Tryd.prog 52 #[.slice (some ⟨b0, off, none⟩) n cap, .int .i64 x] w fun e w' => e = .returned (.bool (posB D x)) ∧ w' = w := by
  have hn40 := hRN.2.1
  have hwp : IntKind.i64.wrap ((n : Int) - 1) = (n : Int) - 1 := by rw [IntKind.wrap_i64]; omega
  by_cases hx : 0 ≤ x ∧ x ≤ (n : Int) - 1
  · obtain ⟨i, rfl⟩ : ∃ i : Nat, x = (i : Int) := ⟨x.toNat, by omega⟩
    have hi : i < n := by omega
    obtain ⟨ad, cp, hc, -, -⟩ := hr i (by rw [hRN.1]; exact hi)
    have c0 := hc.1
    have HP : Hid (posB D i = decide (D.K i = 1 ∨ D.K i = 4)) := hide (by unfold posB; rw [decide_eq_true (by rw [hRN.1]; exact hx)]; rfl)
    have HX := hide hx
    have hin : (i : Int) < (n : Int) := by omega
    have hi00 : (0 : Int) ≤ (i : Int) := by omega
    have CI := hide (fun (W : World) => fw_inT (i : Int) 0 ((n : Int) - 1) W HX.out)
    have hkinds := rn_kinds hRN hi
    obtain ⟨K, hK⟩ : ∃ K, D.K i = K := ⟨_, rfl⟩
    rw [hK] at c0 HP hkinds
    clear hc hr hRN hx hK
    rcases hkinds with rfl | rfl | rfl | rfl
    all_goals
      go_enter Tryd.func52, Tryd.ntmps52
      go_wp2_with (first | (go_at_call 39; refine (CI.out _).mono ?_; rintro r9 w9 ⟨rfl, h9⟩; rw [h9]; clear h9 w9))
      go_ret
      exact ⟨ret_bool (by rw [HP.out]; rfl), rfl⟩
  · have HP : Hid (posB D x = false) := hide (by unfold posB; rw [decide_eq_false (by rw [hRN.1]; exact hx)]; rfl)
    have CI := hide (fun (W : World) => fw_inF x 0 ((n : Int) - 1) W hx)
    clear hr hRN hx
    go_enter Tryd.func52, Tryd.ntmps52
    go_wp2_with (first | (go_at_call 39; refine (CI.out _).mono ?_; rintro r9 w9 ⟨rfl, h9⟩; rw [h9]; clear h9 w9))
    go_ret
    exact ⟨ret_bool HP.out.symm, rfl⟩
set_option maxRecDepth 100000 in
set_option maxHeartbeats 4000000 in
theorem i_followOf (D : Pn) (n : Nat) (a : Option Addr) (cap : Nat) (x : Int) (w : World) (hD : D.n = n) (hz : pnTot D ≤ 1048576) (hr : PnAt w a D w.heap.size) (hT : TzT w) :
    Calls Tryd.prog 15 #[.slice a n cap, .int .i64 x] w (IntAns (flV D x) w) := by
  have hzz := tk_zero
  have hne := tkN_ne
  have CT := hide (i_tracks2 D n a cap w hD hz hr hT)
  have HT := hide hT
  have HD := hide hD
  cases hpk : pkB D
  · have HE : Hid (flV D x = []) := hide (by unfold flV; rw [hpk]; rfl)
    rw [hpk] at CT
    clear hr hD hz hT hpk
    go_enter Tryd.func15, Tryd.ntmps15
    go_wp2_with (first
      | (go_at_call 34; refine CT.out.mono ?_; rintro r w1 ⟨b9, m9, c9, F, e, rfl, hA, hb1⟩; have HB1 := hide hb1; obtain ⟨hsz, hzs⟩ := tk_fit b9 m9 c9 F e; have hall := tkC_one b9 m9 c9 F e; obtain ⟨CS, hCS⟩ : ∃ CS, tkC (.slice b9 m9 c9) F e = CS := ⟨_, rfl⟩; rw [hCS] at hsz hzs hall ⊢; clear hA hb1 hCS)
      | (refine wpList_store_row rfl 55 _ _ rfl w1.heap.size CS rfl rfl 55 _ (heap_alloc_last w1 _) hsz hzs hall ?_; rw [World.setRow_alloc_new]))
    go_ret
    rw [HE.out]
    exact ⟨none, 0, rfl, intR_nil _ _, HB1.out.alloc HB1.out.size _⟩
  · have hn1 : 1 ≤ n ∧ n ≤ 40 := by rw [← hD]; exact (pk_facts hpk).1
    have hwp : IntKind.i64.wrap ((n : Int) - 1) = (n : Int) - 1 := by rw [IntKind.wrap_i64]; omega
    rw [hpk] at CT
    have HPK := hide hpk
    by_cases hx : 0 ≤ x ∧ x ≤ (n : Int) - 1
    · have CI := hide (fun (W : World) => p_iInT x 0 ((n : Int) - 1) W hx)
      obtain ⟨i, rfl⟩ : ∃ i : Nat, x = (i : Int) := ⟨x.toNat, by omega⟩
      have hi40 : i < 41 := by omega
      have hin : (i : Int) < 41 := by omega
      have hi0 : (0 : Int) ≤ (i : Int) := by omega
      have HIN : Hid (i < D.n) := hide (by rw [hD]; omega)
      clear hr hD hz hT hpk hx
      go_enter Tryd.func15, Tryd.ntmps15
      go_wp2_with (first
        | (go_at_call 34; refine CT.out.mono ?_; rintro r w1 ⟨b9, m9, c9, F, e, rfl, hA, hb1⟩; have HA := hide (tk_follow HPK.out (hA.1 HPK.out).2.2.2 HIN.out); have HB1 := hide hb1; obtain ⟨hsz, hzs⟩ := tk_fit b9 m9 c9 F e; have hall := tkC_one b9 m9 c9 F e; have HC := hide (cellsAt_new w1 (tkC (.slice b9 m9 c9) F e) 55); have f40 := (cellsAt_cell HC.out (1 + i)).trans (tkC_at (.slice b9 m9 c9) F e i hi40); obtain ⟨CS, hCS⟩ : ∃ CS, tkC (.slice b9 m9 c9) F e = CS := ⟨_, rfl⟩; have HCS := hide hCS; rw [hCS] at hsz hzs hall HC f40 ⊢; clear hA hb1 hCS)
        | (refine wpList_store_row rfl 55 _ _ rfl w1.heap.size CS rfl rfl 55 _ (heap_alloc_last w1 _) hsz hzs hall ?_; rw [World.setRow_alloc_new])
        | (go_at_call 44; refine (CI.out _).mono ?_; rintro r9 w9 ⟨rfl, h9⟩; rw [h9]; clear h9 w9)
        | (go_at_call 43; refine (i_list (F i) _ HA.out.2 (tzT_go HT.out (HB1.out.alloc HB1.out.size _) (Nat.le_refl _))).mono ?_; rintro r w3 ⟨ad3, c3, rfl, ho3, hb3⟩; have HO3 := hide ho3; have HB3 := hide ((HB1.out.alloc HB1.out.size _).trans (hb3.mono (HB1.out.alloc HB1.out.size _).size)); clear ho3 hb3))
      go_ret
      rw [← HA.out.1]
      exact ⟨ad3, c3, rfl, gOwn_lower HO3.out (HB1.out.alloc HB1.out.size _).size, HB3.out⟩
    · have CI := hide (fun (W : World) => p_iInF x 0 ((n : Int) - 1) W hx)
      have HE : Hid (flV D x = []) := hide (by
        unfold flV
        rw [if_neg (fun h => hx (by
          have h9 := h.2
          unfold posB at h9
          simp only [Bool.and_eq_true, decide_eq_true_eq] at h9
          rw [hD] at h9
          exact h9.1))])
      clear hr hD hz hT hpk hx
      go_enter Tryd.func15, Tryd.ntmps15
      go_wp2_with (first
        | (go_at_call 34; refine CT.out.mono ?_; rintro r w1 ⟨b9, m9, c9, F, e, rfl, hA, hb1⟩; have HB1 := hide hb1; obtain ⟨hsz, hzs⟩ := tk_fit b9 m9 c9 F e; have hall := tkC_one b9 m9 c9 F e; obtain ⟨CS, hCS⟩ : ∃ CS, tkC (.slice b9 m9 c9) F e = CS := ⟨_, rfl⟩; rw [hCS] at hsz hzs hall ⊢; clear hA hb1 hCS)
        | (refine wpList_store_row rfl 55 _ _ rfl w1.heap.size CS rfl rfl 55 _ (heap_alloc_last w1 _) hsz hzs hall ?_; rw [World.setRow_alloc_new])
        | (go_at_call 44; refine (CI.out _).mono ?_; rintro r9 w9 ⟨rfl, h9⟩; rw [h9]; clear h9 w9))
      go_ret
      rw [HE.out]
      exact ⟨none, 0, rfl, intR_nil _ _, HB1.out.alloc HB1.out.size _⟩
end Go.Proofs.YtfohfljdgmlibaaDoor

/-
  Contracts of the laws' helpers on rows of texts that come in: how much they hold, a copy in new memory, that two rows that are alike are told so.
-/
namespace Go.Proofs.YtfohfljdgmlibaaDoor
open Go.RowKit Go.Joins
set_option linter.unusedVariables false
set_option linter.unusedSimpArgs false
theorem infoStr9 : (Tryd.prog.info? 9).map (fun i => (i.zero, i.size, i.bytes)) = some (some (.string ByteArray.empty), 1, 16) := by kernel_rfl
theorem drewN_below9 (w : World) (q : Nat) : Below w.heap.size w (w.drewN q) := ⟨rfl, rfl, rfl, Nat.le_refl _, fun _ _ => rfl⟩
/-- A row of texts lies somewhere. -/
def TxAt (w : World) (a : Option Addr) (L : List ByteArray) (B : Nat) : Prop := L ≠ [] → ∃ b off, a = some ⟨b, off, none⟩ ∧ b < B ∧ ∀ j, j < L.length → w.cell? ⟨b, off + j, none⟩ = some (.string (L[j]?.getD ⟨#[]⟩))
theorem tx_go {w w' : World} {a : Option Addr} {L : List ByteArray} {B : Nat} (h : TxAt w a L B) (hb : Below B w w') : TxAt w' a L B := fun h0 => by
  obtain ⟨b, off, e, hl, hc⟩ := h h0
  exact ⟨b, off, e, hl, fun j hj => (hb.cell (p := ⟨b, off + j, none⟩) hl).trans (hc j hj)⟩
theorem tx_up {w : World} {a : Option Addr} {L : List ByteArray} {B B' : Nat} (h : TxAt w a L B) (hB : B ≤ B') : TxAt w a L B' := fun h0 => by
  obtain ⟨b, off, e, hl, hc⟩ := h h0
  exact ⟨b, off, e, Nat.lt_of_lt_of_le hl hB, hc⟩
theorem tx_cell {w : World} {a : Option Addr} {L : List ByteArray} {B : Nat} (h : TxAt w a L B) (j : Nat) (hj : j < L.length) : ∃ b off, a = some ⟨b, off, none⟩ ∧ b < B ∧ ∀ j, j < L.length → w.cell? ⟨b, off + j, none⟩ = some (.string (L[j]?.getD ⟨#[]⟩)) := h (fun e => by rw [e] at hj; simp at hj)
theorem tx_own {w : World} {B n c : Nat} {ad : Option Addr} {t : TypeId} {xs : List ByteArray} (h : w.ownsRow B t 1 (.slice ad n c) n (xs.map Value.string)) : TxAt w ad xs w.heap.size := fun h0 => by
  have hl := h.1
  rcases h.2 with ⟨-, hz⟩ | ⟨g, cap, cur, hv, hB, hh, -, -, -, hx⟩
  · exact absurd (List.length_eq_zero_iff.1 (by rw [hz] at hl; simpa using hl)) h0
  · simp only [Value.slice.injEq] at hv
    obtain ⟨rfl, -, rfl⟩ := hv
    refine ⟨g, 0, rfl, (Array.getElem?_eq_some_iff.1 hh).1, fun j hj => ?_⟩
    have hn : xs.length = n := by simpa using hl
    have := h.cellAt j (by omega)
    rw [Nat.zero_add, this, List.getElem?_map, List.getElem?_eq_getElem hj]
    rfl
/-- How much a row of texts holds. -/
def txS (L : List ByteArray) (k : Nat) : Nat := sumN (fun j => (L[j]?.getD ⟨#[]⟩).size) k
def txTot (L : List ByteArray) : Nat := L.length + txS L L.length
def TxSz (L : List ByteArray) : Prop := L.length ≤ maxLen ∧ ∀ s ∈ L, s.size ≤ maxLen
theorem set_stepT (xs : List ByteArray) (n k : Nat) (hn : xs.length = n) (hk : k < n) :
    ((xs.take k ++ List.replicate (n - k) ByteArray.empty).map Value.string).set k (.string (xs[k]?.getD ⟨#[]⟩)) = (xs.take (k + 1) ++ List.replicate (n - (k + 1)) ByteArray.empty).map Value.string := by
  apply List.ext_getElem
  · simp; omega
  · intro i h1 h2
    simp at h1 h2
    simp only [List.getElem_set, List.getElem_map, List.getElem_append, List.getElem_take, List.length_take, List.getElem_replicate]
    by_cases e : k = i
    · subst e
      simp [List.getElem?_eq_getElem (show k < xs.length by omega), show k < min (k + 1) xs.length by omega]
    · simp only [e, if_false]
      by_cases h : i < k
      · simp [show i < min k xs.length by omega, show i < min (k + 1) xs.length by omega]
      · simp [show ¬ i < min k xs.length by omega, show ¬ i < min (k + 1) xs.length by omega]

end Go.Proofs.YtfohfljdgmlibaaDoor

/-
  Plain facts on clear models, of no program's run.
-/
namespace Go.Proofs.YtfohfljdgmlibaaDoor
set_option linter.unusedVariables false
set_option linter.unusedSimpArgs false
/-- No name leads to both. -/
def apP (D : Pn) (x y : Int) : Bool := decide (D.K x.toNat ≠ 4) && (decide (D.K y.toNat ≠ 4) && !((D.NM x.toNat).toList == (D.NM y.toNat).toList))
def apB (D : Pn) (L : List Int) : Bool := (List.range L.length).all fun i => (L.take i).all fun y => apP D (L[i]?.getD 0) y
theorem apB_no {D : Pn} {L : List Int} {i k : Nat} (hi : i < L.length) (hk : k < i) (h : apP D (L[i]?.getD 0) (L[k]?.getD 0) = false) : apB D L = false := by
  unfold apB
  rw [List.all_eq_false]
  refine ⟨i, by simpa using hi, ?_⟩
  rw [Bool.not_eq_true, List.all_eq_false]
  refine ⟨L[k]?.getD 0, ?_, by simp [h]⟩
  rw [List.getElem?_eq_getElem (by omega)]
  exact List.mem_take_iff_getElem.2 ⟨k, by omega, rfl⟩
theorem apB_yes {D : Pn} {L : List Int} (h : ∀ i, i < L.length → ∀ k, k < i → apP D (L[i]?.getD 0) (L[k]?.getD 0) = true) : apB D L = true := by
  unfold apB
  rw [List.all_eq_true]
  intro i hi
  have hi : i < L.length := by simpa using hi
  rw [List.all_eq_true]
  intro y hy
  obtain ⟨k, hk, e⟩ := List.mem_take_iff_getElem.1 hy
  have := h i hi k (by omega)
  rw [List.getElem?_eq_getElem (show k < L.length by omega)] at this
  rw [← e]
  exact this
theorem apB_nil (D : Pn) : apB D [] = true := rfl
/-- A clear model. -/
def clB (D : Pn) : Bool := pkB D && (apB D (foV D) && (List.range D.n).all fun i => !(posB D i) || apB D (flV D i))
theorem clB_wrong {D : Pn} (h : pkB D = false) : clB D = false := by unfold clB; rw [h]; rfl
theorem clB_first {D : Pn} (h : apB D (foV D) = false) : clB D = false := by unfold clB; rw [h]; simp
theorem clB_no {D : Pn} {i : Nat} (hi : i < D.n) (hp : posB D i = true) (h : apB D (flV D i) = false) : clB D = false := by
  have : ((List.range D.n).all fun i => !(posB D i) || apB D (flV D i)) = false := by
    rw [List.all_eq_false]
    exact ⟨i, by simpa using hi, by simp [hp, h]⟩
  unfold clB
  rw [this]
  simp
theorem clB_yes {D : Pn} (h0 : pkB D = true) (h1 : apB D (foV D) = true) (h : ∀ i, i < D.n → posB D i = true → apB D (flV D i) = true) : clB D = true := by
  have : ((List.range D.n).all fun i => !(posB D i) || apB D (flV D i)) = true := by
    rw [List.all_eq_true]
    intro i hi
    have hi : i < D.n := by simpa using hi
    cases hp : posB D i
    · rfl
    · simpa using h i hi hp
  unfold clB
  rw [h0, h1, this]
  rfl
theorem flV_nopos {D : Pn} {x : Int} (h : posB D x = false) : flV D x = [] := by unfold flV; rw [if_neg (by rw [h]; simp)]
theorem foV_range {D : Pn} (h : pkB D = true) : ∀ z ∈ foV D, 0 ≤ z ∧ z < (D.n : Int) := by
  intro z hz
  unfold foV at hz
  rw [if_pos h, srt_mem] at hz
  have h1 := (pk_facts h).1
  have := ed_range (D.n - 1 + 1) (D.n - 1) (by omega) (lo_root h) z hz
  omega
theorem flV_range {D : Pn} (h : pkB D = true) {x : Int} : ∀ z ∈ flV D x, 0 ≤ z ∧ z < (D.n : Int) := by
  intro z hz
  unfold flV at hz
  split at hz
  · rw [srt_mem] at hz; exact foL_range h z hz
  · exact absurd hz (List.not_mem_nil)
/-- Every set of the ways is one that the specification asks of, or empty. -/
theorem tk_sets {D : Pn} {F : Nat → Nat} {e : Nat} (hpk : pkB D = true) (hT : TkOf D F e) {p : Nat} (hp : p < 41) : F p < 18446744073709551616 ∧ ((p < D.n ∧ bts (F p) = flV D p) ∨ (p = 40 ∧ bts (F p) = foV D) ∨ bts (F p) = []) := by
  by_cases h40 : p = 40
  · subst h40
    have hb := hT.2.1
    refine ⟨Nat.lt_of_lt_of_le hb.1 (by decide), .inr (.inl ⟨rfl, ?_⟩)⟩
    unfold foV
    rw [if_pos hpk]
    exact bts_srt hb (ed_pos hpk)
  · by_cases hn : p < D.n
    · have := tk_follow hpk hT hn
      exact ⟨this.2, .inl ⟨hn, this.1⟩⟩
    · obtain ⟨h1, h2⟩ := hT.1 p (by omega)
      refine ⟨Nat.lt_of_lt_of_le h1 (by decide), .inr (.inr ?_)⟩
      have : F p = 0 := by
        apply Nat.eq_of_testBit_eq
        intro q
        rw [Nat.zero_testBit]
        cases hb : (F p).testBit q
        · rfl
        · exfalso
          have hn1 := (pk_facts hpk).1
          obtain ⟨j, hj, h8⟩ := lk_node D.n (D.n - 1) (by have := (pk_facts hpk).1; omega) (lo_root hpk) ((h2 q).1 hb)
          rcases h8 with ⟨-, h8, -⟩ | ⟨-, L1, a, L2, b, L3, e9, -, h8, -⟩
          · have := ed_range (j + 1) j (by omega) (lo_less (lo_root hpk) hj) _ h8
            omega
          · have hk := lo_root hpk j hj a (by rw [e9]; simp)
            have := ed_range (a.toNat + 1) a.toNat (by omega) (lo_less (lo_root hpk) (by omega)) _ h8
            omega
      rw [this]
      rfl
theorem cl_all {D : Pn} {F : Nat → Nat} {e : Nat} (hpk : pkB D = true) (hT : TkOf D F e) (h : ∀ p, p < 41 → apB D (bts (F p)) = true) : clB D = true := by
  refine clB_yes hpk ?_ (fun i hi hp => ?_)
  · have := h 40 (by omega)
    rcases (tk_sets hpk hT (p := 40) (by omega)).2 with ⟨h1, h2⟩ | ⟨-, h2⟩ | h2
    · have := (pk_facts hpk).1; omega
    · rw [h2] at this; exact this
    · have hb := hT.2.1
      have h3 : foV D = bts (F 40) := by
        unfold foV
        rw [if_pos hpk]
        exact (bts_srt hb (ed_pos hpk)).symm
      rw [h3]; exact this
  · have := h i (by have := (pk_facts hpk).1; omega)
    rw [(tk_follow hpk hT hi).1] at this
    exact this
theorem cl_none {D : Pn} {F : Nat → Nat} {e : Nat} (hpk : pkB D = true) (hT : TkOf D F e) {p : Nat} (hp : p < 41) (h : apB D (bts (F p)) = false) : clB D = false := by
  rcases (tk_sets hpk hT hp).2 with ⟨h1, h2⟩ | ⟨-, h2⟩ | h2
  · rw [h2] at h
    cases hpo : posB D p
    · rw [flV_nopos hpo] at h; cases h
    · exact clB_no h1 hpo h
  · rw [h2] at h; exact clB_first h
  · rw [h2] at h; cases h
end Go.Proofs.YtfohfljdgmlibaaDoor
