/-
  Texts put together: WhS, WhT, WhU, FoM.
-/
import Derived.Test.YtdepgkpfibmbgaaGreatDoorF28
import Derived.Test.YtdepgkpfibmbgaaGreatDoorF1
import Derived.Test.YtdepgkpfibmbgaaGreatDoorF26
import Derived.Test.YtdepgkpfibmbgaaGreatDoorF22
import Derived.Test.YtdepgkpfibmbgaaGreatDoorF4
/-
  spec.White where blanks are made one kind, and where nothing is done.
-/
namespace Go.Proofs.YtdepgkpfibmbgaaGreatDoor
open Go.RowKit
set_option linter.unusedVariables false
set_option linter.unusedSimpArgs false
theorem blB_iff (c : UInt8) : blB c = true ↔ c.toNat = 32 ∨ c.toNat = 9 ∨ c.toNat = 10 ∨ c.toNat = 13 := by
  rw [← blR_B]
  unfold blR
  simp
  omega
set_option maxHeartbeats 4000000 in
theorem s_blank (c : UInt8) (w : World) : Calls Tryz.prog 109 #[.int .u8 c.toNat] w fun e w' => e = .returned (.bool (blB c)) ∧ w' = w := by
  obtain ⟨b, hb⟩ : ∃ b, blB c = b := ⟨_, rfl⟩
  have hc : (c.toNat : Int) < 256 := by have := c.toNat_lt; omega
  have hc0 : (0 : Int) ≤ (c.toNat : Int) := by omega
  have hi := blB_iff c
  rw [hb] at hi ⊢
  go_enter Tryz.func109, Tryz.ntmps109
  by_cases h1 : (c.toNat : Int) = 32
  · have : b = true := hi.2 (by omega)
    subst this
    clear hi hb
    have e1 : ((c.toNat : Int) == 32) = true := by simpa using h1
    go_wp2
    go_ret
    exact ⟨rfl, rfl⟩
  · have e1 : ((c.toNat : Int) == 32) = false := by simpa using h1
    by_cases h2 : (c.toNat : Int) = 9
    · have : b = true := hi.2 (by omega)
      subst this
      clear hi hb
      have e2 : ((c.toNat : Int) == 9) = true := by simpa using h2
      go_wp2
      go_ret
      exact ⟨rfl, rfl⟩
    · have e2 : ((c.toNat : Int) == 9) = false := by simpa using h2
      by_cases h3 : (c.toNat : Int) = 10
      · have : b = true := hi.2 (by omega)
        subst this
        clear hi hb
        have e3 : ((c.toNat : Int) == 10) = true := by simpa using h3
        go_wp2
        go_ret
        exact ⟨rfl, rfl⟩
      · have e3 : ((c.toNat : Int) == 10) = false := by simpa using h3
        by_cases h4 : (c.toNat : Int) = 13
        · have : b = true := hi.2 (by omega)
          subst this
          clear hi hb
          have e4 : ((c.toNat : Int) == 13) = true := by simpa using h4
          go_wp2
          go_ret
          exact ⟨rfl, rfl⟩
        · have e4 : ((c.toNat : Int) == 13) = false := by simpa using h4
          have : b = false := by
            cases b
            · rfl
            · have := hi.1 rfl
              omega
          subst this
          clear hi hb
          go_wp2
          go_ret
          exact ⟨rfl, rfl⟩
set_option maxRecDepth 100000 in
set_option maxHeartbeats 8000000 in
theorem s_white1 (s : ByteArray) (w : World) (hs : s.size ≤ 1048576) :
    Calls Tryz.prog 84 #[.string s, .int .i64 1] w (BrAns s w) := by
  obtain ⟨cap, w1, hcv, hbf, hb1⟩ := buf_made w s
  have HBF := hide hbf
  have HB1 := hide hb1
  clear hbf hb1
  go_enter Tryz.func84, Tryz.ntmps84
  go_wp2_with fail
  go_loopw [6] (fun v6 wr => ∃ i : Nat, i ≤ s.size ∧ v6 = .int .i64 i ∧ Hid (BufA wr w.heap.size (mixB s.data.toList i)) ∧ Hid (Below w.heap.size w wr)) (fun v6 _ => s.size - (intOf v6).toNat)
  case atStart => exact ⟨0, Nat.zero_le _, rfl, hide (by rw [mixB_zero]; exact HBF.out), HB1⟩
  case round =>
    obtain ⟨i, hi, rfl, HR, HB⟩ := hrel
    by_cases hlt : i < s.size
    · have hii : (i : Int) < (s.size : Int) := by omega
      have hi0 : (0 : Int) ≤ (i : Int) := by omega
      have hat := at_ba9 s i hlt
      obtain ⟨c, hc⟩ : ∃ c, s[i] = c := ⟨_, rfl⟩
      rw [hc] at hat
      have HAT := hide hat
      have HN := hide (mixB_next hat)
      have bc := buf_cell HR.out (mixB_at hat)
      have bf := buf_frozen HR.out (j := i) (by rw [mixB_len]; simpa using hlt)
      clear hat hc
      have CB := hide (s_blank c wr)
      cases hx : blB c
      · have HM : Hid (mixB s.data.toList (i + 1) = mixB s.data.toList i) := hide (by
          rw [HN.out, hx]
          apply List.ext_getElem?
          intro j
          by_cases e : i = j
          · subst e
            rw [mixB_at HAT.out, List.getElem?_set_self (by rw [mixB_len]; simpa using hlt)]
            rfl
          · rw [List.getElem?_set_ne e])
        rw [hx] at CB
        clear HN hx
        go_wp2_with (go_at_call 109; refine CB.out.mono ?_; rintro e w' ⟨rfl, rfl⟩)
        go_roundw
        case rel => exact ⟨i + 1, by omega, by go_num, hide (by rw [HM.out]; exact HR.out), HB⟩
        case measure => simp [intOf]; omega
      · have HS := hide (buf_set HR.out i 32)
        rw [hx, if_pos rfl] at HN
        rw [hx] at CB
        rw [← HN.out] at HS
        have HB2 := hide (HB.out.setCell (p := ⟨w.heap.size, i, none⟩) (Nat.le_refl _) (.int .u8 32))
        clear HN hx
        go_wp2_with (go_at_call 109; refine CB.out.mono ?_; rintro e w' ⟨rfl, rfl⟩)
        go_roundw
        case rel => exact ⟨i + 1, by omega, by go_num, HS, HB2⟩
        case measure => simp [intOf]; omega
    · have e : i = s.size := by omega
      subst e
      have hii : ¬ (s.size : Int) < (s.size : Int) := by omega
      have hml : mixB s.data.toList s.size = reB s.data.toList := by
        have := mixB_all s.data.toList
        simpa using this
      have hbf := HR.out
      rw [hml] at hbf
      have hl : (reB s.data.toList).length = s.size := by simp [reB]
      have hcv2 := buf_back hbf cap
      rw [hl] at hcv2
      clear hml hl hbf
      go_wp2
      go_ret
      exact ⟨rfl, HB.out⟩
end Go.Proofs.YtdepgkpfibmbgaaGreatDoor

/-
  spec's words of a text, and their joining.
-/
namespace Go.Proofs.YtdepgkpfibmbgaaGreatDoor
open Go.RowKit
set_option linter.unusedVariables false
set_option linter.unusedSimpArgs false
theorem infoStr9 : (Tryz.prog.info? 9).map (fun i => (i.zero, i.size, i.bytes)) = some (some (.string ByteArray.empty), 1, 16) := by kernel_rfl
theorem join_snocW (ts : List (List UInt8)) (t sep : List UInt8) : Lib.join (ts ++ [t]) sep = if ts = [] then t else Lib.join ts sep ++ sep ++ t := by
  match ts with
  | [] => rw [if_pos rfl]; exact Lib.join_one t sep
  | x :: r =>
    rw [if_neg (by simp), List.cons_append, Lib.join_cons, Lib.join_cons]
    unfold Lib.joinTail
    simp
def totW : List (List UInt8) → Nat
  | [] => 0
  | t :: ts => t.length + 1 + totW ts
theorem join_totW (sep : List UInt8) (hs : sep.length = 1) : ∀ ts : List (List UInt8), (Lib.join ts sep).length ≤ totW ts
  | [] => by simp [Lib.join_nil, totW]
  | [t] => by rw [Lib.join_one]; simp [totW]
  | t :: u :: ts => by
    have ih := join_totW sep hs (u :: ts)
    rw [Lib.join_cons] at ih ⊢
    simp only [Lib.joinTail, List.map_cons, List.flatten_cons, List.length_append, totW] at ih ⊢
    omega
theorem tot_wd : ∀ (l cur : List UInt8), totW (wdB cur l) ≤ cur.length + l.length + 1
  | [], cur => by
    unfold wdB
    by_cases h : cur = []
    · rw [if_pos h]; simp [totW]
    · rw [if_neg h]; simp [totW]
  | c :: l, cur => by
    rw [wdB]
    by_cases hb : blB c = true
    · rw [if_pos hb]
      have ih := tot_wd l []
      simp only [List.length_nil, List.length_cons] at ih ⊢
      by_cases h : cur = []
      · rw [if_pos h]; omega
      · rw [if_neg h]; simp only [totW]; omega
    · rw [if_neg hb]
      have ih := tot_wd l (cur ++ [c])
      simp only [List.length_append, List.length_cons, List.length_nil] at ih ⊢
      omega
theorem tot_takeW : ∀ (l : List (List UInt8)) (m : Nat), totW (l.take m) ≤ totW l
  | [], m => by simp
  | t :: l, 0 => by simp [totW]
  | t :: l, m + 1 => by
    have := tot_takeW l m
    rw [List.take_succ_cons]
    simp only [totW]
    omega
theorem join_takeW (sep : List UInt8) (ts : List (List UInt8)) (m : Nat) (h : m < ts.length) : Lib.join (ts.take (m + 1)) sep = (if m = 0 then [] else Lib.join (ts.take m) sep ++ sep) ++ ts[m] := by
  rw [List.take_succ_eq_append_getElem h, join_snocW]
  by_cases e : m = 0
  · subst e; simp
  · rw [if_neg (by intro h9; rw [List.take_eq_nil_iff] at h9; rcases h9 with h9 | h9; exact e h9; rw [h9] at h; simp at h), if_neg e]
/-- A row of words. -/
def wsV (W : List (List UInt8)) : List Value := W.map fun x => .string ⟨x.toArray⟩
theorem wsV_snoc (W : List (List UInt8)) (C : ByteArray) : wsV W ++ [.string C] = wsV (W ++ [C.data.toList]) := by
  unfold wsV
  rw [List.map_append]
  simp
def WdRel (s : ByteArray) (w wr : World) (k : Nat) (C : ByteArray) (m : Nat) (ad : Option Addr) (c : Nat) : Prop :=
  ∃ W : List (List UInt8), W.length = m ∧ ((k ≤ s.size ∧ W ++ wdB C.data.toList (s.data.toList.drop k) = wdB [] s.data.toList) ∨ (k = s.size + 1 ∧ W = wdB [] s.data.toList)) ∧ C.size ≤ k ∧ m ≤ k ∧ wr.ownsRow w.heap.size 9 1 (.slice ad m c) m (wsV W) ∧ Below w.heap.size w wr
theorem wd_start (s : ByteArray) (w : World) : WdRel s w (w.alloc (.cells #[] 9)) 0 ⟨#[]⟩ 0 (some ⟨w.heap.size, 0, none⟩) 0 :=
  ⟨[], rfl, .inl ⟨Nat.zero_le _, rfl⟩, Nat.zero_le _, Nat.zero_le _, World.ownsRow_made (base := w.heap.size) (e := 9) (size := 1) w #[] 0 (Nat.le_refl _) (Nat.zero_le _) rfl, (Below.refl _ _).alloc (Nat.le_refl _) _⟩
section
variable {s : ByteArray} {w wr : World} {k : Nat} {C : ByteArray} {m : Nat} {ad : Option Addr} {c : Nat}
theorem drop_at9 (h : k < s.size) : s.data.toList.drop k = s[k] :: s.data.toList.drop (k + 1) := by
  have hl : k < s.data.toList.length := by simpa using h
  rw [List.drop_eq_getElem_cons hl]
  rfl
theorem wd_more (h : WdRel s w wr k C m ad c) (hk : k < s.size) (hc : blB s[k] = false) : WdRel s w wr (k + 1) (C ++ s.extract k (k + 1)) m ad c := by
  obtain ⟨W, h1, h2, h3, h4, h5, h6⟩ := h
  have e : (C ++ s.extract k (k + 1)).data.toList = C.data.toList ++ [s[k]] := by
    have e1 : (s.extract k (k + 1)).data.toList = [s[k]] := by
      rw [Lib.extract_data, drop_at9 hk]
      simp
    have e2 : (C ++ s.extract k (k + 1)).data.toList = C.data.toList ++ (s.extract k (k + 1)).data.toList := by simp [ByteArray.data_append]
    rw [e2, e1]
  refine ⟨W, h1, .inl ⟨by omega, ?_⟩, ?_, by omega, h5, h6⟩
  · rcases h2 with ⟨-, h2⟩ | ⟨h2, -⟩
    · rw [e, ← h2, drop_at9 hk, wdB, if_neg (by rw [hc]; simp)]
    · omega
  · have h8 := ByteArray.size_append (a := C) (b := s.extract k (k + 1))
    have h9 := ByteArray.size_extract (a := s) (b := k) (e := k + 1)
    omega
theorem wd_now (he : (∃ h : k < s.size, blB s[k] = true) ∨ k = s.size) (W : List (List UInt8)) (cur : List UInt8)
    (h2 : (k ≤ s.size ∧ W ++ wdB cur (s.data.toList.drop k) = wdB [] s.data.toList) ∨ (k = s.size + 1 ∧ W = wdB [] s.data.toList)) (W' : List (List UInt8)) (hW : W' = if cur = [] then W else W ++ [cur]) :
    (k + 1 ≤ s.size ∧ W' ++ wdB [] (s.data.toList.drop (k + 1)) = wdB [] s.data.toList) ∨ (k + 1 = s.size + 1 ∧ W' = wdB [] s.data.toList) := by
  rcases he with ⟨h, hc⟩ | rfl
  · left
    rcases h2 with ⟨-, h2⟩ | ⟨h2, -⟩
    · refine ⟨by omega, ?_⟩
      rw [← h2, drop_at9 h, wdB, if_pos hc, hW]
      by_cases e : cur = []
      · rw [if_pos e, if_pos e]
      · rw [if_neg e, if_neg e]; simp
    · omega
  · right
    refine ⟨rfl, ?_⟩
    rcases h2 with ⟨-, h2⟩ | ⟨h2, -⟩
    · rw [List.drop_of_length_le (by simp)] at h2
      rw [← h2, hW]
      unfold wdB
      by_cases e : cur = []
      · rw [if_pos e, if_pos e]; simp
      · rw [if_neg e, if_neg e]
    · omega
theorem wd_sep (h : WdRel s w wr k C m ad c) (he : (∃ h : k < s.size, blB s[k] = true) ∨ k = s.size) (hC : C.data.toList = []) : WdRel s w wr (k + 1) ⟨#[]⟩ m ad c := by
  obtain ⟨W, h1, h2, h3, h4, h5, h6⟩ := h
  exact ⟨W, h1, wd_now he W _ h2 W (by rw [if_pos hC]), Nat.zero_le _, by omega, h5, h6⟩
theorem wd_put {wr2 : World} {ad2 : Option Addr} {c2 : Nat} {W : List (List UInt8)} (h1 : W.length = m)
    (h2 : (k ≤ s.size ∧ W ++ wdB C.data.toList (s.data.toList.drop k) = wdB [] s.data.toList) ∨ (k = s.size + 1 ∧ W = wdB [] s.data.toList)) (h4 : m ≤ k)
    (he : (∃ h : k < s.size, blB s[k] = true) ∨ k = s.size) (hC : C.data.toList ≠ []) (ho : wr2.ownsRow w.heap.size 9 1 (.slice ad2 (m + 1) c2) (m + 1) (wsV W ++ [.string C])) (hb : Below w.heap.size w wr2) :
    WdRel s w wr2 (k + 1) ⟨#[]⟩ (m + 1) ad2 c2 := by
  refine ⟨W ++ [C.data.toList], by simp [h1], wd_now he W _ h2 _ (by rw [if_neg hC]), Nat.zero_le _, by omega, ?_, hb⟩
  rw [← wsV_snoc]
  exact ho
end
/-- The words, in a row of one's own. -/
def WdAns (s : ByteArray) (w : World) (e : Ending) (w' : World) : Prop := ∃ ad c, e = .returned (.slice ad (wdB [] s.data.toList).length c) ∧ w'.ownsRow w.heap.size 9 1 (.slice ad (wdB [] s.data.toList).length c) (wdB [] s.data.toList).length (wsV (wdB [] s.data.toList)) ∧ Below w.heap.size w w'
theorem emp_iff (C : ByteArray) : C.toList.isEmpty = true ↔ C.data.toList = [] := by
  rw [ByteArray.toList_eq]
  simp
set_option maxRecDepth 100000 in
set_option maxHeartbeats 8000000 in
theorem s_words (s : ByteArray) (w : World) (hs : s.size ≤ 1048576) : Calls Tryz.prog 111 #[.string s] w (WdAns s w) := by
  obtain ⟨i0, hi, hz0, hz1, hz2⟩ := info_parts infoStr9
  have hnot : ∀ (x : Bool) (w : World), (Op.unary .not (.bool x)).run Tryz.prog w = .ok (.bool (!x)) w := fun _ _ => rfl
  go_enter Tryz.func111, Tryz.ntmps111
  go_wp2
  go_loopw [3, 4, 5] (fun v nm iv wr => ∃ (k m : Nat) (C : ByteArray) (ad : Option Addr) (c : Nat), k ≤ s.size + 1 ∧ iv = .int .i64 k ∧ nm = .string C ∧ v = .slice ad m c ∧ WdRel s w wr k C m ad c) (fun _ _ iv _ => s.size + 1 - (intOf iv).toNat)
  case atStart => exact ⟨0, 0, ⟨#[]⟩, some ⟨w.heap.size, 0, none⟩, 0, Nat.zero_le _, rfl, rfl, rfl, wd_start s w⟩
  case round =>
    obtain ⟨k, m, C, ad, c, hk, rfl, rfl, rfl, hrel⟩ := hrel
    have HR := hide hrel
    obtain ⟨W, h1, h2, h3, h4, h5, h6⟩ := hrel
    have H1 := hide h1
    have H2 := hide h2
    have HO := hide h5
    have HB := hide h6
    have hsz : w.heap.size ≤ wr.heap.size := h6.size
    clear h1 h2 h5 h6
    have hCm : C.size ≤ maxLen := by unfold maxLen; omega
    by_cases hle : k ≤ s.size
    · have hlei : (k : Int) ≤ (s.size : Int) := by omega
      have hk0 : (0 : Int) ≤ (k : Int) := by omega
      by_cases hlt : k < s.size
      · have hlti : (k : Int) < (s.size : Int) := by omega
        have hk1 : (k : Int) + 1 ≤ (s.size : Int) := by omega
        have hk5 : (k : Int) ≤ k + 1 := by omega
        have hk6 : ((k : Int) + 1).toNat = k + 1 := by omega
        have CB := hide (s_blank s[k] wr)
        obtain ⟨b, hb⟩ : ∃ b, blB s[k] = b := ⟨_, rfl⟩
        have HBL := hide hb
        rw [hb] at CB
        clear hb
        cases b
        · have HM := hide (wd_more HR.out hlt HBL.out)
          go_wp2_with (first | (go_at_call 109; refine CB.out.mono ?_; rintro e w9 ⟨rfl, h9⟩; rw [h9]; clear h9 w9))
          go_roundw
          case rel => exact ⟨k + 1, m, _, ad, c, by omega, by go_num, rfl, rfl, HM.out⟩
          case measure => simp [intOf]; omega
        · cases f2 : C.toList.isEmpty
          · have HC : Hid (C.data.toList ≠ []) := hide (fun e => by rw [(emp_iff C).2 e] at f2; cases f2)
            go_wp2_with (first | (go_at_call 109; refine CB.out.mono ?_; rintro e w9 ⟨rfl, h9⟩; rw [h9]; clear h9 w9) | (at_builtin; refine wpList_append_own _ rfl (.tmp 33) (.tmp 35) 25 rfl w.heap.size 9 i0 (.string ByteArray.empty) 1 16 Tryz.underlying25 hi hz0 hz1 hz2 rfl (by decide) _ _ _ rfl (HO.out.alloc _) ⟨wr.heap.size, 0, none⟩ 1 1 [.string C] rfl rfl (fun j u hj => gOne_new wr _ _ j u hj) (gStr_list _) (by unfold maxLen; omega) (by omega) (by simp; omega) ?_; intro v2 w6 hown2 hgrow2 _; obtain ⟨ad2, c2', hv2⟩ := gOwn_shape hown2; rw [hv2] at hown2 ⊢; clear hv2; have HB6 := hide (gBelow_one HB.out HO.out hgrow2); have HO6 := hide hown2; clear hown2 hgrow2))
            go_roundw
            case rel => exact ⟨k + 1, m + 1, ⟨#[]⟩, ad2, c2', by omega, by go_num, rfl, rfl, wd_put H1.out H2.out h4 (.inl ⟨hlt, HBL.out⟩) HC.out HO6.out HB6.out⟩
            case measure => simp [intOf]; omega
          · have HM := hide (wd_sep HR.out (.inl ⟨hlt, HBL.out⟩) ((emp_iff C).1 f2))
            go_wp2_with (first | (go_at_call 109; refine CB.out.mono ?_; rintro e w9 ⟨rfl, h9⟩; rw [h9]; clear h9 w9))
            go_roundw
            case rel => exact ⟨k + 1, m, ⟨#[]⟩, ad, c, by omega, by go_num, rfl, rfl, HM.out⟩
            case measure => simp [intOf]; omega
      · have e : k = s.size := by omega
        subst e
        have hlti : ¬ (s.size : Int) < (s.size : Int) := by omega
        cases f2 : C.toList.isEmpty
        · have HC : Hid (C.data.toList ≠ []) := hide (fun e => by rw [(emp_iff C).2 e] at f2; cases f2)
          go_wp2_with (first | (at_builtin; refine wpList_append_own _ rfl (.tmp 33) (.tmp 35) 25 rfl w.heap.size 9 i0 (.string ByteArray.empty) 1 16 Tryz.underlying25 hi hz0 hz1 hz2 rfl (by decide) _ _ _ rfl (HO.out.alloc _) ⟨wr.heap.size, 0, none⟩ 1 1 [.string C] rfl rfl (fun j u hj => gOne_new wr _ _ j u hj) (gStr_list _) (by unfold maxLen; omega) (by omega) (by simp; omega) ?_; intro v2 w6 hown2 hgrow2 _; obtain ⟨ad2, c2', hv2⟩ := gOwn_shape hown2; rw [hv2] at hown2 ⊢; clear hv2; have HB6 := hide (gBelow_one HB.out HO.out hgrow2); have HO6 := hide hown2; clear hown2 hgrow2))
          go_roundw
          case rel => exact ⟨s.size + 1, m + 1, ⟨#[]⟩, ad2, c2', by omega, by go_num, rfl, rfl, wd_put H1.out H2.out h4 (.inr rfl) HC.out HO6.out HB6.out⟩
          case measure => simp [intOf]
        · have HM := hide (wd_sep HR.out (.inr rfl) ((emp_iff C).1 f2))
          go_wp2
          go_roundw
          case rel => exact ⟨s.size + 1, m, ⟨#[]⟩, ad, c, by omega, by go_num, rfl, rfl, HM.out⟩
          case measure => simp [intOf]
    · have e : k = s.size + 1 := by omega
      subst e
      have hlei : ¬ ((s.size + 1 : Nat) : Int) ≤ (s.size : Int) := by omega
      go_wp2
      go_ret
      rcases H2.out with ⟨h2, -⟩ | ⟨-, h2⟩
      · omega
      · subst h2
        refine ⟨ad, c, ?_, ?_, HB.out⟩
        · rw [H1.out]; rfl
        · rw [H1.out]; exact HO.out
end Go.Proofs.YtdepgkpfibmbgaaGreatDoor

/-
  spec.White, whole.
-/
namespace Go.Proofs.YtdepgkpfibmbgaaGreatDoor
open Go.RowKit
set_option linter.unusedVariables false
set_option linter.unusedSimpArgs false
/-- The words with one blank between them. -/
def jnB (s : ByteArray) : ByteArray := ⟨(Lib.join (wdB [] s.data.toList) [32]).toArray⟩
/-- What White answers. -/
def whB (s : ByteArray) (i : Int) : ByteArray := if i = 1 then ⟨(reB s.data.toList).toArray⟩ else if i = 2 then jnB s else s
theorem ws_cells {B : Nat} {w : World} {ad : Option Addr} {c : Nat} {W : List (List UInt8)} (h : w.ownsRow B 9 1 (.slice ad W.length c) W.length (wsV W)) (h0 : W ≠ []) : ∃ g, ad = some ⟨g, 0, none⟩ ∧ g < w.heap.size ∧ W.length ≤ c ∧ ∀ (j : Nat) (hj : j < W.length), w.cell? ⟨g, 0 + j, none⟩ = some (.string ⟨W[j].toArray⟩) := by
  have h9 := h
  obtain ⟨hl, h⟩ := h
  rcases h with ⟨-, hz⟩ | ⟨g, cap, cur, hv, hB, hh, hcap, -⟩
  · exact absurd (List.length_eq_zero_iff.1 hz) h0
  · simp only [Value.slice.injEq] at hv
    obtain ⟨rfl, -, rfl⟩ := hv
    refine ⟨g, rfl, (Array.getElem?_eq_some_iff.1 hh).1, by omega, fun j hj => ?_⟩
    rw [Nat.zero_add]
    have h8 := h9.cellAt j (by simpa using hj)
    rw [h8]
    simp [wsV, hj]
set_option maxRecDepth 100000 in
set_option maxHeartbeats 8000000 in
theorem s_join (B : Nat) (W : List (List UInt8)) (ad : Option Addr) (c : Nat) (w : World) (hW : totW W ≤ 1048578) (ho : w.ownsRow B 9 1 (.slice ad W.length c) W.length (wsV W)) :
    Calls Tryz.prog 110 #[.slice ad W.length c] w fun e w' => e = .returned (.string ⟨(Lib.join W [32]).toArray⟩) ∧ w' = w := by
  have HO := hide ho
  have HT := hide hW
  obtain ⟨n, hn⟩ : ∃ n, W.length = n := ⟨_, rfl⟩
  have HN := hide hn
  have hnl : n ≤ 1048578 := by
    have : ∀ l : List (List UInt8), l.length ≤ totW l := fun l => by
      induction l with
      | nil => simp
      | cons t l ih => simp only [totW, List.length_cons]; omega
    have := this W
    omega
  rw [hn]
  clear hn ho hW
  go_enter Tryz.func110, Tryz.ntmps110
  go_wp2
  go_loopw [3, 4] (fun tv iv wr => ∃ (m : Nat) (T : ByteArray), m ≤ n ∧ iv = .int .i64 m ∧ tv = .string T ∧ Hid (T.data.toList = Lib.join (W.take m) [32]) ∧ wr = w) (fun _ iv _ => n - (intOf iv).toNat)
  case atStart => exact ⟨0, ⟨#[]⟩, Nat.zero_le _, rfl, rfl, hide rfl, rfl⟩
  case round =>
    obtain ⟨m, T, hm, rfl, rfl, HJ, hw⟩ := hrel
    subst hw
    have hTs : T.size ≤ 1048578 := by
      have h1 := join_totW [32] rfl (W.take m)
      have h2 := tot_takeW W m
      have h3 := HT.out
      rw [← HJ.out] at h1
      have h4 : T.data.toList.length = T.size := by simp
      omega
    by_cases hlt : m < n
    · have hlti : (m : Int) < (n : Int) := by omega
      have hm0 : (0 : Int) ≤ (m : Int) := by omega
      have hmW : m < W.length := by rw [HN.out]; exact hlt
      have hW0 : W ≠ [] := fun e => by rw [e] at hmW; simp at hmW
      obtain ⟨g, rfl, hg, hcl, hcell⟩ := ws_cells HO.out hW0
      have hx := hcell m hmW
      rw [Nat.zero_add] at hx
      rw [HN.out] at hcl
      have HK := hide (join_takeW [32] W m hmW)
      obtain ⟨X, hX⟩ : ∃ X : ByteArray, X = ⟨W[m].toArray⟩ := ⟨_, rfl⟩
      have HX : Hid (X.data.toList = W[m]) := hide (by rw [hX])
      rw [← hX] at hx
      have hXs : T.size + 1 + X.size ≤ 2097158 := by
        have h1 := join_totW [32] rfl (W.take (m + 1))
        have h2 := tot_takeW W (m + 1)
        have h3 := HT.out
        rw [HK.out, ← HX.out] at h1
        have h4 : X.data.toList.length = X.size := by simp
        rw [List.length_append] at h1
        omega
      clear hX hcell hW0
      by_cases h0 : m = 0
      · subst h0
        have HT2 : Hid ((T ++ X).data.toList = Lib.join (W.take (0 + 1)) [32]) := hide (by
          rw [HK.out, ByteArray.data_append, Array.toList_append, HJ.out, HX.out]
          rfl)
        go_wp2
        go_roundw
        case rel => exact ⟨0 + 1, _, by omega, by go_num, rfl, HT2, by first | rfl | trivial⟩
        case measure => simp [intOf]; omega
      · have h0i : (0 : Int) < (m : Int) := by omega
        have HT2 : Hid (((T ++ ⟨#[32]⟩) ++ X).data.toList = Lib.join (W.take (m + 1)) [32]) := hide (by
          rw [HK.out, if_neg h0, ByteArray.data_append, Array.toList_append, ByteArray.data_append, Array.toList_append, HJ.out, HX.out])
        go_wp2
        go_roundw
        case rel => exact ⟨m + 1, _, by omega, by go_num, rfl, HT2, by first | rfl | trivial⟩
        case measure => simp [intOf]; omega
    · have e : m = n := by omega
      subst e
      have hlti : ¬ (m : Int) < (m : Int) := by omega
      have HE : Hid (T = ⟨(Lib.join W [32]).toArray⟩) := hide (by
        have h := HJ.out
        rw [List.take_of_length_le (by rw [HN.out]; exact Nat.le_refl _)] at h
        rw [← h])
      go_wp2
      go_ret
      refine ⟨?_, rfl⟩
      rw [← HE.out]
      rfl
set_option maxRecDepth 100000 in
set_option maxHeartbeats 8000000 in
theorem s_white (s : ByteArray) (i : Int) (w : World) (hs : s.size ≤ 1048576) :
    Calls Tryz.prog 84 #[.string s, .int .i64 i] w fun e w' => e = .returned (.string (whB s i)) ∧ Below w.heap.size w w' := by
  by_cases h1 : i = 1
  · subst h1
    refine (s_white1 s w hs).mono ?_
    rintro e w' ⟨rfl, hb⟩
    exact ⟨rfl, hb⟩
  · have e1 : (i == 1) = false := by simpa using h1
    by_cases h2 : i = 2
    · subst h2
      have CW := hide (s_words s w hs)
      have hbd := tot_wd s.data.toList []
      have HQ : Hid (totW (wdB [] s.data.toList) ≤ 1048578) := hide (by
        have : s.data.toList.length = s.size := by simp
        rw [this] at hbd
        simp at hbd
        omega)
      have HE : Hid (whB s 2 = jnB s) := hide rfl
      clear hbd
      go_enter Tryz.func84, Tryz.ntmps84
      go_wp2_with (first | (go_at_call 111; refine CW.out.mono ?_; rintro e w1 ⟨ad, c, rfl, ho, hb⟩; have CJ := hide (s_join w.heap.size _ ad c w1 HQ.out ho); have HB := hide hb; clear ho hb) | (go_at_call 110; refine CJ.out.mono ?_; rintro e w9 ⟨rfl, h9⟩; rw [h9]; clear h9 w9))
      go_ret
      refine ⟨?_, HB.out⟩
      rw [HE.out]
      rfl
    · have e2 : (i == 2) = false := by simpa using h2
      have HE : Hid (whB s i = s) := hide (by unfold whB; rw [if_neg h1, if_neg h2])
      go_enter Tryz.func84, Tryz.ntmps84
      go_wp2
      go_ret
      refine ⟨?_, Below.refl _ _⟩
      rw [HE.out]
      rfl
end Go.Proofs.YtdepgkpfibmbgaaGreatDoor

/-
  What a field says of an element. No step of the program in this text.
-/
namespace Go.Proofs.YtdepgkpfibmbgaaGreatDoor
open Go.RowKit
set_option linter.unusedVariables false
set_option linter.unusedSimpArgs false
/-- The values of the attributes of that name, among the first k. -/
def mtA (D : Dc) (p : Nat) (A : ByteArray) : Nat → List ByteArray
  | 0 => []
  | k + 1 => mtA D p A k ++ (if ((D.AN p k).toList == A.toList) = true then [D.AV p k] else [])
theorem mt_len (D : Dc) (p : Nat) (A : ByteArray) : ∀ k, (mtA D p A k).length ≤ k
  | 0 => Nat.le_refl _
  | k + 1 => by
    have := mt_len D p A k
    rw [mtA, List.length_append]
    split <;> simp <;> omega
theorem mt_yes {D : Dc} {p k : Nat} {A : ByteArray} (h : ((D.AN p k).toList == A.toList) = true) : mtA D p A (k + 1) = mtA D p A k ++ [D.AV p k] := by rw [mtA, if_pos h]
theorem mt_no {D : Dc} {p k : Nat} {A : ByteArray} (h : ((D.AN p k).toList == A.toList) = false) : mtA D p A (k + 1) = mtA D p A k := by rw [mtA, if_neg (by rw [h]; decide)]; simp
/-- What an element says: its text, or an attribute. -/
def vlA (D : Dc) (A : ByteArray) (p : Nat) : List ByteArray := if A.toList.isEmpty = true then [txF D p D.n] else mtA D p A (D.AC p)
def vlL (D : Dc) (A : ByteArray) (L : List Int) : List ByteArray := L.flatMap fun p => vlA D A p.toNat
theorem vl_take {D : Dc} {A : ByteArray} {L : List Int} {j : Nat} (h : j < L.length) : vlL D A (L.take (j + 1)) = vlL D A (L.take j) ++ vlA D A (L[j]?.getD 0).toNat := by
  unfold vlL
  rw [List.take_succ_eq_append_getElem h, List.flatMap_append, List.getElem?_eq_getElem h]
  simp
theorem vl_len {D : Dc} {A : ByteArray} (hac : ∀ p, p < D.n → D.AC p ≤ 10) : ∀ (L : List Int), (∀ j ∈ L, 0 ≤ j ∧ j < (D.n : Int)) → (vlL D A L).length ≤ 10 * L.length
  | [], _ => Nat.le_refl _
  | x :: L, h => by
    have ih := vl_len (A := A) hac L (fun j hj => h j (List.mem_cons_of_mem _ hj))
    have hx := h x (List.mem_cons_self ..)
    have h1 : (vlA D A x.toNat).length ≤ 10 := by
      unfold vlA
      split
      · simp
      · have := mt_len D x.toNat A (D.AC x.toNat)
        have := hac x.toNat (by omega)
        omega
    unfold vlL at ih ⊢
    rw [List.flatMap_cons, List.length_append, List.length_cons]
    omega
/-- The last of them, its blanks brought together. -/
def lstW (l : List ByteArray) : ByteArray := match l.getLast? with | none => ⟨#[]⟩ | some v => whB v 2
theorem lst_app (l : List ByteArray) (v : ByteArray) : lstW (l ++ [v]) = whB v 2 := by unfold lstW; simp
theorem lst_one (v : ByteArray) : lstW [v] = whB v 2 := rfl
/-- The answer. -/
def foA (l : List ByteArray) : ByteArray × Int := if l.length = 1 then (lstW l, 1) else (⟨#[]⟩, l.length)
def foV (D : Dc) (x : Int) (s : ByteArray) : ByteArray × Int := match fld s.data.toList with
  | none => (⟨#[]⟩, -1)
  | some q => if txOk D x = true then foA (vlL D ⟨q.2.toArray⟩ (srtL (sel D (st D x.toNat D.n false) q.1))) else (⟨#[]⟩, -1)
theorem fo_none {D : Dc} {x : Int} {s : ByteArray} (h : fld s.data.toList = none) : foV D x s = (⟨#[]⟩, -1) := by unfold foV; rw [h]
theorem fo_out {D : Dc} {x : Int} {s : ByteArray} (h : txOk D x = false) : foV D x s = (⟨#[]⟩, -1) := by
  unfold foV
  split
  · rfl
  · rw [if_neg (by rw [h]; decide)]
theorem fo_some {D : Dc} {x : Int} {s : ByteArray} {q : List (List UInt8) × List UInt8} (h : fld s.data.toList = some q) (h2 : txOk D x = true) : foV D x s = foA (vlL D ⟨q.2.toArray⟩ (srtL (sel D (st D x.toNat D.n false) q.1))) := by
  unfold foV
  rw [h]
  dsimp only
  rw [if_pos h2]
/-- The attributes of a right document. -/
theorem att_facts {D : Dc} (h : docokB D = true) {p : Nat} (hp : p < D.n) : D.AC p ≤ 10 ∧ (∀ j, j < D.AC p → ∀ i, i < j → ((D.AN p i).toList == (D.AN p j).toList) = false) := by
  have hi := (docok_facts h).2.1 p hp
  unfold itB pB partB at hi
  rw [Bool.and_eq_true] at hi
  have h2 := hi.2
  split at h2
  · simp only [Bool.and_eq_true, beq_iff_eq] at h2
    have : D.AC p = 0 := by omega
    rw [this]
    exact ⟨by omega, fun j hj => by omega⟩
  · simp only [Bool.and_eq_true] at h2
    have h3 := h2.2.2
    unfold attrsB at h3
    rw [Bool.and_eq_true, decide_eq_true_iff, List.all_eq_true] at h3
    refine ⟨h3.1, fun j hj i hij => ?_⟩
    have h4 := h3.2 j (by simpa using hj)
    unfold atB at h4
    simp only [Bool.and_eq_true, Bool.not_eq_true'] at h4
    have h5 := h4.2.2
    unfold anyS at h5
    rw [List.any_eq_false] at h5
    have h6 := h5 i (by simpa using hij)
    unfold sameS at h6
    cases hx : ((D.AN p i).toList == (D.AN p j).toList)
    · rfl
    · exact absurd hx h6
theorem mt_none {D : Dc} {p : Nat} {A : ByteArray} : ∀ k, (∀ j, j < k → ((D.AN p j).toList == A.toList) = false) → mtA D p A k = []
  | 0, _ => rfl
  | k + 1, h => by rw [mt_no (h k (by omega)), mt_none k (fun j hj => h j (by omega))]
theorem mt_stay {D : Dc} {p i : Nat} {A : ByteArray} : ∀ k, i ≤ k → (∀ j, i ≤ j → j < k → ((D.AN p j).toList == A.toList) = false) → mtA D p A k = mtA D p A i
  | 0, h, _ => by rw [show i = 0 by omega]
  | k + 1, h, h2 => by
    by_cases e : i = k + 1
    · rw [e]
    · rw [mt_no (h2 k (by omega) (by omega)), mt_stay k (by omega) (fun j h3 h4 => h2 j h3 (by omega))]
theorem mt_one {D : Dc} {p i : Nat} {A : ByteArray} (h : docokB D = true) (hp : p < D.n) (hi : i < D.AC p) (he : ((D.AN p i).toList == A.toList) = true) (hn : ∀ j, j < i → ((D.AN p j).toList == A.toList) = false) : mtA D p A (D.AC p) = [D.AV p i] := by
  have hu := (att_facts h hp).2
  rw [mt_stay (i := i + 1) (D.AC p) (by omega) (fun j h1 h2 => by
    have h3 := hu j h2 i (by omega)
    cases hx : ((D.AN p j).toList == A.toList)
    · rfl
    · rw [beq_iff_eq] at hx he
      rw [he, ← hx] at h3
      simp at h3), mt_yes he, mt_none i hn]
  rfl
theorem srt_one (x : Int) : srtL [x] = [x] := rfl
theorem sel_nil (D : Dc) (L : List Int) : sel D L [] = L := rfl
theorem st_no (D : Dc) (x n : Nat) : st D x n false = [(x : Int)] := rfl
/-- The places: they are the document's, and few. -/
theorem pl_facts {D : Dc} {x n : Nat} (hD : D.n = n) (hn : n ≤ 200) (hx : x < n) (ns : List (List UInt8)) : (srtL (sel D (st D x n false) ns)).length ≤ 200 ∧ ∀ j ∈ srtL (sel D (st D x n false) ns), 0 ≤ j ∧ j < (D.n : Int) := by
  have hs := st_ok (D := D) (x := x) (n := n) false hD hx
  have hs2 := sel_ok ns _ hs.1 hs.2
  refine ⟨?_, fun j hj => ?_⟩
  · rw [srt_len hs2.1]
    have := nodup_len hs2.1 hs2.2
    omega
  · exact hs2.2 j ((srt_mem _ _).1 hj)
end Go.Proofs.YtdepgkpfibmbgaaGreatDoor
