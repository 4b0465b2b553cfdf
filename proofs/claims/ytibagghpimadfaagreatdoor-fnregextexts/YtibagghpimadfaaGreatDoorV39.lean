/-
  Texts put together: RgE, RgN.
-/
import Derived.Test.YtibagghpimadfaaGreatDoorV38
import Derived.Test.YtibagghpimadfaaGreatDoorV4
import Derived.Deep.QuietTactic
/-
  Texts of expressions: the text of a right expression, if it is not too long, is read as that expression. No step of the program in this text.
-/
namespace Go.Proofs.YtibagghpimadfaaGreatDoor
open Go.RowKit Go.Joins
set_option linter.unusedVariables false
set_option linter.unusedSimpArgs false
def allC (L : List Int) : Prop := ∀ c ∈ L, chB c = true
theorem allC_app {a b : List Int} (h : allC a) (k : allC b) : allC (a ++ b) := fun c hc => by
  rcases List.mem_append.1 hc with h9 | h9
  · exact h c h9
  · exact k c h9
theorem allC_cons {c : Int} {b : List Int} (h : chB c = true) (k : allC b) : allC (c :: b) := fun d hd => by
  rcases List.mem_cons.1 hd with rfl | h9
  · exact h
  · exact k d h9
theorem allC_nil : allC [] := fun c hc => by cases hc
theorem chL_ch {l : List UInt8} {c : Int} (h : chB c = true) : allC (chL l c) := by
  unfold chL
  repeat' split
  all_goals first | exact allC_cons (by decide) (allC_cons (by decide) allC_nil) | exact allC_cons (by decide) (allC_cons h allC_nil) | exact allC_cons h allC_nil
theorem rgL_ch {p : Int × Int} (h : chB p.1 = true ∧ chB p.2 = true) : allC (rgL p) := by
  unfold rgL
  split
  · exact chL_ch h.1
  · exact allC_app (chL_ch h.1) (allC_cons (by decide) (chL_ch h.2))
theorem rgsL_ch : ∀ {L : List (Int × Int)}, (∀ p ∈ L, chB p.1 = true ∧ chB p.2 = true) → allC (rgsL L)
  | [], _ => allC_nil
  | p :: L, h => by
    have e : rgsL (p :: L) = rgL p ++ rgsL L := by simp [rgsL]
    rw [e]
    exact allC_app (rgL_ch (h p (by simp))) (rgsL_ch (fun q hq => h q (by simp [hq])))
theorem ctL_ch {nt : Bool} {L : List (Int × Int)} (h : ∀ p ∈ L, chB p.1 = true ∧ chB p.2 = true) : allC (ctL nt L) := by
  unfold ctL
  cases ho : oneL nt L with
  | some c =>
    obtain ⟨rfl, rfl⟩ := one_of ho
    exact chL_ch (h (c, c) (by simp)).1
  | none =>
    refine allC_cons (by decide) (allC_app ?_ (allC_app (rgsL_ch h) (allC_cons (by decide) allC_nil)))
    split
    · exact allC_cons (by decide) allC_nil
    · exact allC_nil
theorem itL_ch {n : Int} (h0 : 0 ≤ n) (h1 : n ≤ 20) : allC (itL n) := by
  have hc : ∀ x : Int, 0 ≤ x → x ≤ 100 → chB x = true := fun x h2 h3 => by unfold chB; rw [decide_eq_true_iff]; omega
  unfold itL
  split
  · exact allC_cons (hc _ (by omega) (by omega)) allC_nil
  · exact allC_cons (hc _ (by omega) (by omega)) (allC_cons (hc _ (by omega) (by omega)) allC_nil)
theorem cnL_ch {mn mx : Int} (h0 : 0 ≤ mn) (h1 : mn ≤ 20) (h2 : mx = -1 ∨ (0 ≤ mx ∧ mx ≤ 20)) : allC (cnL mn mx) := by
  unfold cnL
  split
  · exact allC_cons (by decide) allC_nil
  · split
    · exact allC_cons (by decide) allC_nil
    · split
      · exact allC_cons (by decide) allC_nil
      · split
        · exact allC_cons (by decide) (allC_app (itL_ch h0 h1) (allC_cons (by decide) allC_nil))
        · split
          · exact allC_cons (by decide) (allC_app (itL_ch h0 h1) (allC_cons (by decide) (allC_cons (by decide) allC_nil)))
          · exact allC_cons (by decide) (allC_app (itL_ch h0 h1) (allC_cons (by decide) (allC_app (itL_ch (by omega) (by omega)) (allC_cons (by decide) allC_nil))))
theorem wrL_ch {ks : List Int} {k : Int} {t : List Int} (h : allC t) : allC (wrL ks k t) := by
  unfold wrL
  split
  · exact allC_cons (by decide) (allC_app h (allC_cons (by decide) allC_nil))
  · exact h
theorem ntL_ch {X : List Nd} (hm : NdOk (rxOf X) X.length) : ∀ (m n : Nat), n < m → allC (ntL X n)
  | 0, n, h => by omega
  | m + 1, n, h => by
    have hout : ¬ n < X.length → (ndAt X n).k = 0 := fun h9 => by
      unfold ndAt
      rw [List.getElem?_eq_none (by omega)]
      rfl
    rw [ntL]
    split
    · rename_i e
      refine ctL_ch (fun p hp => ?_)
      have hn : n < X.length := by
        rcases Nat.lt_or_ge n X.length with h9 | h9
        · exact h9
        · rw [hout (by omega)] at e; cases e
      obtain ⟨-, h2, -⟩ := hm n hn
      obtain ⟨i, hi, rfl⟩ := List.mem_iff_getElem.1 hp
      have h3 := (h2 e).2.2 i hi
      have e1 : (rxOf X).L n i = ((ndAt X n).L[i]).1 := by show ((ndAt X n).L[i]?.getD (0, 0)).1 = _; rw [List.getElem?_eq_getElem hi]; rfl
      have e2 : (rxOf X).H n i = ((ndAt X n).L[i]).2 := by show ((ndAt X n).L[i]?.getD (0, 0)).2 = _; rw [List.getElem?_eq_getElem hi]; rfl
      rw [e1, e2] at h3
      exact ⟨h3.1, h3.2.1⟩
    · split
      · split
        · rename_i hh
          exact allC_app (wrL_ch (ntL_ch hm m _ (by omega))) (wrL_ch (ntL_ch hm m _ (by omega)))
        · exact allC_nil
      · split
        · split
          · rename_i hh
            exact allC_app (wrL_ch (ntL_ch hm m _ (by omega))) (allC_cons (by decide) (wrL_ch (ntL_ch hm m _ (by omega))))
          · exact allC_nil
        · split
          · rename_i e
            have hn : n < X.length := by
              rcases Nat.lt_or_ge n X.length with h9 | h9
              · exact h9
              · rw [hout (by omega)] at e; cases e
            obtain ⟨h5, -⟩ := hm n hn
            have h6 := h5 e
            have e1 : (rxOf X).MN n = (ndAt X n).mn := rfl
            have e2 : (rxOf X).MX n = (ndAt X n).mx := rfl
            rw [e1, e2] at h6
            split
            · exact allC_app (wrL_ch (ntL_ch hm m _ (by omega))) (cnL_ch h6.1 h6.2.1 (by omega))
            · exact allC_nil
          · exact allC_cons (by decide) (allC_cons (by decide) allC_nil)
theorem bL_enc : ∀ {L : List Int}, allC L → bL L = (encA L).map fun n => UInt8.ofNat n.toNat
  | [], _ => rfl
  | c :: L, h => by
    have hc := h c (by simp)
    rw [bL_cons, encA, List.map_append, bL_enc (fun d hd => h d (by simp [hd])), ← enc_nums hc]
    rfl
/-- The characters of a right expression's text. -/
theorem tx_runes {X : List Nd} (h : rxB (rxOf X) = true) {C : List Int} (hr : rns (rxT (rxOf X)) = some C) : C = txL X := by
  obtain ⟨h1, hm, ht⟩ := rx_ok h
  have hlen : 1 ≤ X.length ∧ X.length ≤ 120 := h1
  have hok : ∀ j, j < X.length → nodeX (rxOf X) j = true := fun j hj => by
    cases hx : nodeX (rxOf X) j with
    | false => rw [rxB_node (X := rxOf X) hj hx] at h; cases h
    | true => rfl
  have hb : (rxT (rxOf X)).data.toList = bL (txL X) := by
    unfold rxT txX txL
    rw [if_pos h, if_pos rfl]
    have hk : (rxOf X).K ((rxOf X).len - 1) = (ndAt X (X.length - 1)).k := rfl
    rw [hk]
    split
    · rfl
    · exact nt_bytes X hok X.length (X.length - 1) 0 (by omega) (by omega) ht
  have ha : allC (txL X) := by
    unfold txL
    split
    · exact allC_nil
    · exact ntL_ch hm X.length _ (by omega)
  unfold rns at hr
  split at hr
  · rw [hb, bL_enc ha, runes_enc _ (fun x hx => ha x hx)] at hr
    cases hr; rfl
  · cases hr
/-- It is read back. -/
theorem tx_read {X : List Nd} (h : rxB (rxOf X) = true) {C : List Int} (hr : rns (rxT (rxOf X)) = some C) (hl : C.length ≤ 400) : rgW C true = some X := by
  obtain rfl := tx_runes h hr
  unfold rgW
  rw [if_pos ⟨rfl, hl⟩, rd_back h]
  show (if rxB (rxOf X) = true then some X else none) = some X
  rw [if_pos h]
end Go.Proofs.YtibagghpimadfaaGreatDoor

/-
  Contract of the laws' helper: two rows of nodes that are alike are told so.
-/
namespace Go.Proofs.YtibagghpimadfaaGreatDoor
open Go.RowKit Go.Joins
set_option linter.unusedVariables false
set_option linter.unusedSimpArgs false
theorem kp9_block {w w' : World} {b o : Nat} (h : b < w.heap.size) (k : Below w.heap.size w w') : w'.cell? ⟨b, o, none⟩ = w.cell? ⟨b, o, none⟩ := by
  simp only [World.cell?]
  rw [k.block b h]
set_option maxRecDepth 100000 in
set_option maxHeartbeats 8000000 in
theorem l_sameNs (X : Rx) (n : Nat) (a1 a2 : Option Addr) (c1 c2 : Nat) (w : World) (hX : X.len = n) (hn : n ≤ 1048576) (hnr : ∀ j, j < n → X.NR j ≤ 1048576) (h1 : RxAt w a1 X w.heap.size) (h2 : RxAt w a2 X w.heap.size) :
    Calls Tryz.prog 11 #[.slice a1 n c1, .slice a2 n c2] w fun e w' => e = .returned (.bool true) ∧ Below w.heap.size w w' := by
  have H1 := hide h1
  have H2 := hide h2
  have HNR := hide hnr
  have HX := hide hX
  have hne : ((n : Int) != (n : Int)) = false := by simp
  clear h1 h2 hnr hX
  go_enter Tryz.func11, Tryz.ntmps11
  go_wp2_with fail
  go_loopw [5] (fun iv wr => ∃ i : Nat, i ≤ n ∧ iv = .int .i64 i ∧ Hid (Below w.heap.size w wr)) (fun iv _ => n - (intOf iv).toNat)
  case atStart => exact ⟨0, Nat.zero_le _, rfl, hide (Below.refl _ _)⟩
  case round =>
    obtain ⟨i, hi, rfl, HB⟩ := hrel
    by_cases hlt : i < n
    · have hii : (i : Int) < (n : Int) := by omega
      have hi0 : (0 : Int) ≤ (i : Int) := by omega
      obtain ⟨b1, o1, rfl, hb1, hr1⟩ := H1.out (by rw [HX.out]; omega)
      obtain ⟨b2, o2, rfl, hb2, hr2⟩ := H2.out (by rw [HX.out]; omega)
      obtain ⟨ad1, cp1, ⟨p0, p1, p2, p3, p4, p5, p6⟩, g1⟩ := hr1 i (by rw [HX.out]; exact hlt)
      obtain ⟨ad2, cp2, ⟨q0, q1, q2, q3, q4, q5, q6⟩, g2⟩ := hr2 i (by rw [HX.out]; exact hlt)
      have hnr := HNR.out i hlt
      rw [← kp9_block hb1 HB.out] at p0 p1 p2 p3 p4 p5 p6
      rw [← kp9_block hb2 HB.out] at q0 q1 q2 q3 q4 q5 q6
      have G1 := hide (rngAt_go g1 HB.out)
      have G2 := hide (rngAt_go g2 HB.out)
      have hs := HB.out.size
      have hbr1 : b1 < wr.heap.size := by omega
      have hbr2 : b2 < wr.heap.size := by omega
      obtain ⟨K, hK⟩ : ∃ K, X.K i = K := ⟨_, rfl⟩
      obtain ⟨NT, hNT⟩ : ∃ NT, X.NT i = NT := ⟨_, rfl⟩
      obtain ⟨A, hA⟩ : ∃ A, X.A i = A := ⟨_, rfl⟩
      obtain ⟨B, hB⟩ : ∃ B, X.B i = B := ⟨_, rfl⟩
      obtain ⟨MN, hMN⟩ : ∃ MN, X.MN i = MN := ⟨_, rfl⟩
      obtain ⟨MX, hMX⟩ : ∃ MX, X.MX i = MX := ⟨_, rfl⟩
      obtain ⟨NR, hNR⟩ : ∃ NR, X.NR i = NR := ⟨_, rfl⟩
      obtain ⟨LL, hLL⟩ : ∃ LL, X.L i = LL := ⟨_, rfl⟩
      obtain ⟨HL, hHL⟩ : ∃ HL, X.H i = HL := ⟨_, rfl⟩
      rw [hK] at p0 q0
      rw [hNT] at p1 q1
      rw [hNR] at p2 q2 G1 G2 hnr
      rw [hA] at p3 q3
      rw [hB] at p4 q4
      rw [hMN] at p5 q5
      rw [hMX] at p6 q6
      rw [hLL, hHL] at G1 G2
      have m0 : (K != K) = false := by simp
      have m1 : (NT != NT) = false := by simp
      have m3 : (A != A) = false := by simp
      have m4 : (B != B) = false := by simp
      have m5 : (MN != MN) = false := by simp
      have m6 : (MX != MX) = false := by simp
      have m2 : ((NR : Int) != (NR : Int)) = false := by simp
      clear g1 g2 hr1 hr2 hK hNT hA hB hMN hMX hNR hLL hHL
      have hA1 : ((wr.alloc (.cells #[.int .i64 K, .bool NT, .slice ad1 NR cp1, .int .i64 A, .int .i64 B, .int .i64 MN, .int .i64 MX] 39)).alloc (.cells #[.int .i64 K, .bool NT, .slice ad2 NR cp2, .int .i64 A, .int .i64 B, .int .i64 MN, .int .i64 MX] 39)).cell? ⟨wr.heap.size, 2, none⟩ = some (.slice ad1 NR cp1) := by
        rw [kp9_block (w := wr.alloc _) (by simp) ((Below.refl _ _).alloc (Nat.le_refl _) _), cell_of_row _ wr.heap.size 2 _ _ (0, 0) (heap_alloc_new wr _)]
        rfl
      have hA2 : ((wr.alloc (.cells #[.int .i64 K, .bool NT, .slice ad1 NR cp1, .int .i64 A, .int .i64 B, .int .i64 MN, .int .i64 MX] 39)).alloc (.cells #[.int .i64 K, .bool NT, .slice ad2 NR cp2, .int .i64 A, .int .i64 B, .int .i64 MN, .int .i64 MX] 39)).cell? ⟨wr.heap.size + 1, 2, none⟩ = some (.slice ad2 NR cp2) := by
        have h9 := heap_alloc_new (wr.alloc (.cells #[.int .i64 K, .bool NT, .slice ad1 NR cp1, .int .i64 A, .int .i64 B, .int .i64 MN, .int .i64 MX] 39)) (.cells #[.int .i64 K, .bool NT, .slice ad2 NR cp2, .int .i64 A, .int .i64 B, .int .i64 MN, .int .i64 MX] 39)
        rw [show (wr.alloc (.cells #[.int .i64 K, .bool NT, .slice ad1 NR cp1, .int .i64 A, .int .i64 B, .int .i64 MN, .int .i64 MX] 39)).heap.size = wr.heap.size + 1 by simp] at h9
        rw [cell_of_row _ (wr.heap.size + 1) 2 _ _ (0, 0) h9]
        rfl
      have HBA : Hid (Below wr.heap.size wr ((wr.alloc (.cells #[.int .i64 K, .bool NT, .slice ad1 NR cp1, .int .i64 A, .int .i64 B, .int .i64 MN, .int .i64 MX] 39)).alloc (.cells #[.int .i64 K, .bool NT, .slice ad2 NR cp2, .int .i64 A, .int .i64 B, .int .i64 MN, .int .i64 MX] 39))) := hide (((Below.refl _ _).alloc (Nat.le_refl _) _).alloc (by simp) _)
      have hsz : ((wr.alloc (.cells #[.int .i64 K, .bool NT, .slice ad1 NR cp1, .int .i64 A, .int .i64 B, .int .i64 MN, .int .i64 MX] 39)).alloc (.cells #[.int .i64 K, .bool NT, .slice ad2 NR cp2, .int .i64 A, .int .i64 B, .int .i64 MN, .int .i64 MX] 39)).heap.size = wr.heap.size + 1 + 1 := by simp
      have HA1 := hide hA1
      have HA2 := hide hA2
      have HSZ := hide hsz
      clear hA1 hA2 hsz
      go_wp2_with fail
      obtain ⟨W, hW⟩ : ∃ W, (wr.alloc (.cells #[.int .i64 K, .bool NT, .slice ad1 NR cp1, .int .i64 A, .int .i64 B, .int .i64 MN, .int .i64 MX] 39)).alloc (.cells #[.int .i64 K, .bool NT, .slice ad2 NR cp2, .int .i64 A, .int .i64 B, .int .i64 MN, .int .i64 MX] 39) = W := ⟨_, rfl⟩
      rw [hW] at HA1 HA2 HBA HSZ ⊢
      obtain ⟨Q, hQ⟩ : ∃ Q, wr.heap.size = Q := ⟨_, rfl⟩
      have HQ := hide hQ
      rw [hQ] at HA1 HA2 HSZ ⊢
      clear hW hQ p0 p1 p2 p3 p4 p5 p6 q0 q1 q2 q3 q4 q5 q6
      have HBW := hide (HB.out.trans (HBA.out.mono hs))
      have W1 := hide (rngAt_go G1.out (HBA.out.mono hs))
      have W2 := hide (rngAt_go G2.out (HBA.out.mono hs))
      have hwW : w.heap.size ≤ W.heap.size := HBW.out.size
      have hQW : Q + 1 < W.heap.size := by rw [HSZ.out]; omega
      clear HBA HSZ HQ G1 G2 HB
      go_loopw [8] (fun kv wx => ∃ k : Nat, k ≤ NR ∧ kv = .int .i64 k ∧ Hid (Below W.heap.size W wx)) (fun kv _ => NR - (intOf kv).toNat)
      case atStart => exact ⟨0, Nat.zero_le _, rfl, hide (Below.refl _ _)⟩
      case round =>
        obtain ⟨k, hk, rfl, HC⟩ := hrel
        have s1 : wr.cell? ⟨Q, 2, none⟩ = some (.slice ad1 NR cp1) := (kp9_block (by omega) HC.out).trans HA1.out
        have s2 : wr.cell? ⟨Q + 1, 2, none⟩ = some (.slice ad2 NR cp2) := (kp9_block (by omega) HC.out).trans HA2.out
        by_cases hk2 : k < NR
        · have hki : (k : Int) < (NR : Int) := by omega
          have hk0 : (0 : Int) ≤ (k : Int) := by omega
          obtain ⟨rb1, ro1, rfl, hrb1, hc1⟩ := W1.out (by omega)
          obtain ⟨rb2, ro2, rfl, hrb2, hc2⟩ := W2.out (by omega)
          obtain ⟨u1, u2⟩ := hc1 k hk2
          obtain ⟨v1, v2⟩ := hc2 k hk2
          rw [← kp9_block (by omega) HC.out] at u1 u2 v1 v2
          obtain ⟨lo9, hlo⟩ : ∃ lo9, LL k = lo9 := ⟨_, rfl⟩
          obtain ⟨hi9, hhi⟩ : ∃ hi9, HL k = hi9 := ⟨_, rfl⟩
          rw [hlo] at u1 v1
          rw [hhi] at u2 v2
          clear hc1 hc2 hlo hhi
          go_wp2
          go_quiet (fail)
          revert nq; intro n1
          go_wp2
          go_roundw
          case rel => exact ⟨k + 1, by omega, by go_num, hide (HC.out.trans ⟨rfl, rfl, rfl, Nat.le_refl _, fun _ _ => rfl⟩)⟩
          case measure => simp [intOf]; omega
        · have hkn : k = NR := by omega
          have hki : ¬ (k : Int) < (NR : Int) := by omega
          have HB9 := hide (HBW.out.trans (HC.out.mono hwW))
          go_wp2
          go_roundw
          case rel => exact ⟨i + 1, by omega, by go_num, HB9⟩
          case measure => simp [intOf]; omega
    · have hin : i = n := by omega
      subst hin
      have hii : ¬ (i : Int) < (i : Int) := by omega
      go_wp2
      go_ret
      exact ⟨rfl, HB.out⟩
end Go.Proofs.YtibagghpimadfaaGreatDoor
