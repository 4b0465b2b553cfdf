/-
  The walk of FnExactTableOf: at every document, place and key the two answers are the same table; the arguments are as they were, and the answer owns its memory.
-/
import Derived.Test.YtfbahffljhnjbaaGreatDoorC37
import Derived.Test.YtfbahffljhnjbaaGreatDoorC40
import Derived.Test.YtfbahffljhnjbaaGreatDoorC38
import Derived.Test.YtfbahffljhnjbaaGreatDoorC3
namespace Go.Proofs.YtfbahffljhnjbaaGreatDoor
open Go.RowKit Go.Joins
set_option linter.unusedVariables false
set_option linter.unusedSimpArgs false
theorem own_chg9 {w w' : World} {B lo hi : Nat} {e : TypeId} {v : Value} {n : Nat} {xs : List Value} (h : w.ownsRow B e 1 v n xs) (k : Chg lo hi w w') (hX : ∀ j, v.ownBlock = some j → j < lo ∨ hi ≤ j) : w'.ownsRow B e 1 v n xs := by
  refine ⟨h.1, ?_⟩
  rcases h.2 with hn | ⟨g, cap, cur, hv, hB, hg, rest⟩
  · exact .inl hn
  · refine .inr ⟨g, cap, cur, hv, hB, ?_, rest⟩
    rw [k.block g (Array.getElem?_eq_some_iff.1 hg).1 (hX g (by rw [hv]; rfl))]; exact hg
theorem sumN_ac9 {D : Dc} (h : dcTot D ≤ 1048576) : sumN D.AC D.n ≤ 1048576 := by
  unfold dcTot at h
  have h1 : ∀ m, sumN D.AC m ≤ sumN (itSz D) m := by
    intro m
    induction m with
    | zero => exact Nat.le_refl _
    | succ m ih =>
      show sumN D.AC m + D.AC m ≤ sumN (itSz D) m + itSz D m
      have : D.AC m ≤ itSz D m := by unfold itSz atTot; omega
      omega
  have := h1 D.n
  omega
theorem kyS_few {k : Ky} (h : kyS k ≤ 1048576) : k.nm.size ≤ 1048576 ∧ k.on.size ≤ 1048576 ∧ k.pa.size ≤ 1048576 ∧ k.fl.length ≤ 1048576 ∧ ∀ i, i < k.fl.length → (k.fl[i]?.getD ⟨#[]⟩).size ≤ 1048576 := by
  unfold kyS txTot at h
  refine ⟨by omega, by omega, by omega, by omega, fun i hi => ?_⟩
  have h4 := sumN_at (fun q => (k.fl[q]?.getD ⟨#[]⟩).size) hi
  unfold txS at h
  have h5 : (fun q => (k.fl[q]?.getD ⟨#[]⟩).size) i = (k.fl[i]?.getD ⟨#[]⟩).size := rfl
  omega
theorem tb_len {D : Dc} {kd : Int} {Qs : Nat → List (List UInt8) × List UInt8} {nf : Nat} {L : List Int} : ∀ (i : Nat) (T : List (List ByteArray)), tbI D kd Qs nf L i = some T → T.length ≤ i ∧ ∀ r ∈ T, r.length = nf
  | 0, T, h => by
    rw [tbI] at h
    cases h
    exact ⟨Nat.le_refl _, fun r hr => absurd hr List.not_mem_nil⟩
  | i + 1, T, h => by
    rw [tbI] at h
    cases h1 : tbI D kd Qs nf L i with
    | none => rw [h1] at h; cases h
    | some T1 =>
      rw [h1] at h
      dsimp only at h
      have ih := tb_len i T1 h1
      cases h2 : rwI D (L[i]?.getD 0).toNat kd Qs nf with
      | none => rw [h2] at h; cases h
      | some r =>
        rw [h2] at h
        dsimp only at h
        by_cases h3 : r.length = nf
        · rw [if_pos h3] at h
          cases h
          refine ⟨by rw [List.length_append]; simp; omega, fun q hq => ?_⟩
          rcases List.mem_append.1 hq with hq | hq
          · exact ih.2 q hq
          · simp at hq; subst hq; exact h3
        · rw [if_neg h3] at h
          cases h
          exact ⟨by omega, ih.2⟩
theorem kyP_len {D : Dc} {x : Nat} {k : Ky} (hdk : docokB D = true) (hx : x < D.n) : (kyP D x k).length ≤ 200 := by
  have hn : D.n ≤ 200 := (docok_facts hdk).1.2
  have hst := st_ok (D := D) (x := x) (n := D.n) (deepL k.pa.data.toList) rfl hx
  have hsl := sel_ok (sg [] (restL k.pa.data.toList)) _ hst.1 hst.2
  unfold kyP
  rw [srt_len hsl.1]
  have := nodup_len hsl.1 hsl.2
  omega
theorem tbO_small {D : Dc} {x : Int} {k : Ky} {T : List (List ByteArray)} (h : tbO D x k = some T) : T.length ≤ 200 ∧ ∀ r ∈ T, r.length ≤ 4 := by
  by_cases hk : KeyOne k ∧ txOk D x = true
  · rw [tbO_yes hk.1 hk.2] at h
    have h1 := tb_len _ _ h
    have h2 := hk.2
    unfold txOk at h2
    simp only [Bool.and_eq_true, decide_eq_true_eq] at h2
    have h3 := kyP_len (k := k) (x := x.toNat) h2.1 (by omega)
    have h4 := hk.1.2.2.2.2.1.2
    exact ⟨by omega, fun r hr => by rw [h1.2 r hr]; exact h4⟩
  · rw [tbO_no hk] at h; cases h
theorem offR_small (T : List (List ByteArray)) (h : ∀ r ∈ T, r.length ≤ 4) : ∀ n, offR T n ≤ 4 * n
  | 0 => Nat.le_refl _
  | n + 1 => by
    have h1 := offR_small T h n
    have h2 : (T[n]?.getD []).length ≤ 4 := by
      cases e : T[n]? with
      | none => exact Nat.zero_le _
      | some r => exact h r (List.mem_of_getElem? e)
    rw [offR]
    omega
/-- A table that a call made. -/
def TabO (B : Nat) (w : World) (ta : Option Addr) (tc N : Nat) (cs : List Value) (T : List (List ByteArray)) : Prop := w.ownsRow B 30 1 (.slice ta N tc) N cs ∧ RrS B w cs T ∧ T.length = N
section
variable {B : Nat} {w w' : World} {ta : Option Addr} {tc N : Nat} {cs : List Value} {T : List (List ByteArray)}
theorem tabO_go (h : TabO B w ta tc N cs T) (hb : Below w.heap.size w w') : TabO B w' ta tc N cs T := ⟨gOwn_after h.1 hb, rrs_go h.2.1 hb, h.2.2⟩
theorem tabO_at (h : TabO B w ta tc N cs T) : TabAt w ta T w.heap.size := tbl_own h.1 h.2.1 h.2.2
theorem tabO_chg {lo hi : Nat} (h : TabO B w ta tc N cs T) (k : Chg lo hi w w') (hB : hi ≤ B) : TabO B w' ta tc N cs T :=
  ⟨own_chg9 h.1 k (fun j hj => .inr (Nat.le_trans hB (h.1.lt j hj).1)), ⟨h.2.1.1, fun j hj => by
    obtain ⟨a, c, h1, h2⟩ := h.2.1.2.1 j hj
    exact ⟨a, c, h1, own_chg9 h2 k (fun j hj => .inr (Nat.le_trans hB (h2.lt j hj).1))⟩, h.2.1.2.2⟩, h.2.2⟩
theorem tabO_grown {G : Nat} (h : TabO B w ta tc N cs T) (k : w.grownBy w' (some G)) (hB : G < B) : TabO B w' ta tc N cs T := by
  have hq : ∀ {e : TypeId} {v : Value} {n : Nat} {xs : List Value}, w.ownsRow B e 1 v n xs → ∀ q, some G = some q → v.ownBlock ≠ some q := fun ho q e1 e2 => by
    cases e1
    have := (ho.lt _ e2).1
    omega
  refine ⟨own_keptB h.1 k (hq h.1), ⟨h.2.1.1, fun j hj => ?_, h.2.1.2.2⟩, h.2.2⟩
  obtain ⟨a, c, h1, h2⟩ := h.2.1.2.1 j hj
  exact ⟨a, c, h1, own_keptB h2 k (hq h2)⟩
end
theorem tab3 {o : Option (List (List ByteArray))} {w w' : World} {e : Ending} {TT : List (List ByteArray)} {N : Nat} {ok : Bool} (h : TabAns o w e w') (hT : o.getD [] = TT) (hN : TT.length = N) (hok : o.isSome = ok) : Below w.heap.size w w' ∧ ∃ ta tc cs, e = .returned (.tuple #[.slice ta N tc, .bool ok]) ∧ TabO w.heap.size w' ta tc N cs TT := by
  obtain ⟨hb, ⟨ta, tc, T, k, cs, ho, hk, rfl, h1, h2⟩ | ⟨ho, rfl⟩⟩ := h
  · subst ho
    have e1 : T = TT := hT
    subst e1
    subst hok
    have e2 : k = N := by omega
    subst e2
    exact ⟨hb, ta, tc, cs, rfl, h1, h2, hk⟩
  · subst ho
    have e1 : [] = TT := hT
    subst e1
    subst hok
    have e2 : 0 = N := hN
    subst e2
    exact ⟨hb, none, 0, [], rfl, ⟨rfl, .inl ⟨rfl, rfl⟩⟩, ⟨rfl, fun j hj => absurd hj (Nat.not_lt_zero j), fun i j u v _ hu => by simp at hu⟩, rfl⟩
theorem kd_goB {w w' : World} {G B : Nat} {cs : Array Value} (h : KdAt w G cs) (hG : G < B) (hb : Below B w w') : KdAt w' G cs := by
  obtain ⟨T, hT⟩ := h
  exact ⟨T, (hb.block G hG).trans hT⟩
theorem kd_chg {w w' : World} {G lo hi : Nat} {cs : Array Value} (h : KdAt w G cs) (k : Chg lo hi w w') (hG : G < lo ∨ hi ≤ G) : KdAt w' G cs := by
  obtain ⟨T, hT⟩ := h
  exact ⟨T, (k.block G (Array.getElem?_eq_some_iff.1 hT).1 hG).trans hT⟩
/-- While the key's box is read. -/
def KX (w w' : World) (cs : Array Value) : Prop := Below w.heap.size w w' ∧ KdAt w' w.heap.size cs
theorem kx_go {w w1 w2 : World} {cs : Array Value} (h : KX w w1 cs) (hb : Below w1.heap.size w1 w2) : KX w w2 cs := ⟨h.1.trans (hb.mono h.1.size), kd_go h.2 hb⟩
theorem kx_drew {w w1 : World} {cs : Array Value} (h : KX w w1 cs) : KX w w1.drew cs := kx_go h ⟨rfl, rfl, rfl, Nat.le_refl _, fun _ _ => rfl⟩
theorem kx_all {w w1 : World} {nm : ByteArray} {kd : Int} {on pa : ByteArray} {sl : Value} {re : ByteArray} (h : KX w w1 #[.string nm, .int .i64 kd, .string on, .string pa, sl, .string re]) : KX w w1 #[.string nm, .int .i64 kd, .string on, .string pa, sl, .string re] ∧ w1.cell? ⟨w.heap.size, 0, none⟩ = some (.string nm) ∧ w1.cell? ⟨w.heap.size, 1, none⟩ = some (.int .i64 kd) ∧ w1.cell? ⟨w.heap.size, 2, none⟩ = some (.string on) ∧ w1.cell? ⟨w.heap.size, 3, none⟩ = some (.string pa) ∧ w1.cell? ⟨w.heap.size, 4, none⟩ = some sl ∧ w1.cell? ⟨w.heap.size, 5, none⟩ = some (.string re) :=
  ⟨h, kd_cell h.2 0, kd_cell h.2 1, kd_cell h.2 2, kd_cell h.2 3, kd_cell h.2 4, kd_cell h.2 5⟩
/-- While both boxes are read. -/
def KY (w : World) (P : Nat) (w1 w' : World) (cs cs2 : Array Value) : Prop := Below w1.heap.size w1 w' ∧ KX w w' cs ∧ KdAt w' P cs2
theorem ky2_go {w w1 w2 w3 : World} {P : Nat} {cs cs2 : Array Value} (h : KY w P w1 w2 cs cs2) (hb : Below w2.heap.size w2 w3) : KY w P w1 w3 cs cs2 := ⟨h.1.trans (hb.mono h.1.size), kx_go h.2.1 hb, kd_go h.2.2 hb⟩
theorem ky2_drew {w w1 w2 : World} {P : Nat} {cs cs2 : Array Value} (h : KY w P w1 w2 cs cs2) : KY w P w1 w2.drew cs cs2 := ky2_go h ⟨rfl, rfl, rfl, Nat.le_refl _, fun _ _ => rfl⟩
theorem ky2_all {w w1 w2 : World} {P : Nat} {nm : ByteArray} {kd : Int} {on pa : ByteArray} {sl sl2 : Value} {re : ByteArray} (h : KY w P w1 w2 #[.string nm, .int .i64 kd, .string on, .string pa, sl, .string re] #[.string nm, .int .i64 kd, .string on, .string pa, sl2, .string re]) : KY w P w1 w2 #[.string nm, .int .i64 kd, .string on, .string pa, sl, .string re] #[.string nm, .int .i64 kd, .string on, .string pa, sl2, .string re] ∧ (w2.cell? ⟨w.heap.size, 0, none⟩ = some (.string nm) ∧ w2.cell? ⟨w.heap.size, 1, none⟩ = some (.int .i64 kd) ∧ w2.cell? ⟨w.heap.size, 2, none⟩ = some (.string on) ∧ w2.cell? ⟨w.heap.size, 3, none⟩ = some (.string pa) ∧ w2.cell? ⟨w.heap.size, 4, none⟩ = some sl ∧ w2.cell? ⟨w.heap.size, 5, none⟩ = some (.string re)) ∧ w2.cell? ⟨P, 0, none⟩ = some (.string nm) ∧ w2.cell? ⟨P, 1, none⟩ = some (.int .i64 kd) ∧ w2.cell? ⟨P, 2, none⟩ = some (.string on) ∧ w2.cell? ⟨P, 3, none⟩ = some (.string pa) ∧ w2.cell? ⟨P, 4, none⟩ = some sl2 ∧ w2.cell? ⟨P, 5, none⟩ = some (.string re) :=
  ⟨h, ⟨kd_cell h.2.1.2 0, kd_cell h.2.1.2 1, kd_cell h.2.1.2 2, kd_cell h.2.1.2 3, kd_cell h.2.1.2 4, kd_cell h.2.1.2 5⟩, kd_cell h.2.2 0, kd_cell h.2.2 1, kd_cell h.2.2 2, kd_cell h.2.2 3, kd_cell h.2.2 4, kd_cell h.2.2 5⟩
set_option maxRecDepth 100000 in
set_option maxHeartbeats 16000000 in
theorem tb_walk0 (D : Dc) (n : Nat) (a : Option Addr) (cap : Nat) (x : Int) (nm : ByteArray) (kd : Int) (on pa : ByteArray) (fl : List ByteArray) (re : ByteArray) (ad : Option Addr) (cp : Nat) (w : World) (hD : D.n = n) (hz : DcSz D) (hr : DcAt w a D w.heap.size) (hk : KyZ ⟨nm, kd, on, pa, fl, re⟩) (hcp : fl.length ≤ cp) (hat : TxAt w ad fl w.heap.size) (hT : Tabs w) (hM : MaxL w) :
    Calls Tryz.prog 4 #[.slice a n cap, .int .i64 x, .agg #[.string nm, .int .i64 kd, .string on, .string pa, .slice ad fl.length cp, .string re]] w fun e w' => e = .returned (.bool true) ∧ Below w.heap.size w w' := by
  have sx := fun o : Obj => (Below.refl w.heap.size w).alloc (Nat.le_refl _) o
  have CSZ := hide (fun o => l_szIs D n a cap (w.alloc o) hD hz (dcAt_up (dcAt_go hr (sx o)) (sx o).size))
  by_cases hbig : (dcTot D : Int) ≤ 1048576
  · have HL := hide (dn_yes hbig)
    have hl9 : (0 : Int) ≤ 1048576 - (dcTot D : Int) := by omega
    have CSK := hide (fun (W : World) (hb : Below w.heap.size w W) => l_szK ⟨nm, kd, on, pa, fl, re⟩ ad cp (1048576 - (dcTot D : Int)) W hk (tx_up (tx_go hat hb) hb.size) hl9 (by omega))
    dsimp only at CSK
    by_cases hbk : (kyS ⟨nm, kd, on, pa, fl, re⟩ : Int) ≤ 1048576 - (dcTot D : Int)
    · have HLK := hide (dn_yes hbk)
      have hlk9 : (0 : Int) ≤ 1048576 - (dcTot D : Int) - (kyS ⟨nm, kd, on, pa, fl, re⟩ : Int) := by omega
      obtain ⟨z0, z1, z2, z4, z5⟩ := kyS_few (k := ⟨nm, kd, on, pa, fl, re⟩) (by omega)
      dsimp only at z0 z1 z2 z4 z5
      obtain ⟨LL, hLL⟩ : ∃ LL, 1048576 - (dcTot D : Int) - (kyS ⟨nm, kd, on, pa, fl, re⟩ : Int) = LL := ⟨_, rfl⟩
      rw [hLL] at HLK hlk9
      have hb9 : dcTot D ≤ 1048576 := by omega
      have hl2 : n ≤ 1048576 := by rw [← hD]; exact (dc_sz hb9).1
      have hnr : ∀ j, j < n → D.AC j ≤ 1048576 := fun j hj => by have := ((dc_sz hb9).2 j (by omega)).1; omega
      have HNR := hide hnr
      have HAC : Hid (sumN D.AC n ≤ 1048576) := hide (by rw [← hD]; exact sumN_ac9 hb9)
      have HX := hide hD
      obtain ⟨O, hO⟩ : ∃ O, tbO D x ⟨nm, kd, on, pa, fl, re⟩ = O := ⟨_, rfl⟩
      obtain ⟨TT, hTT⟩ : ∃ TT, O.getD [] = TT := ⟨_, rfl⟩
      obtain ⟨N, hN⟩ : ∃ N, TT.length = N := ⟨_, rfl⟩
      obtain ⟨ok, hok⟩ : ∃ ok, O.isSome = ok := ⟨_, rfl⟩
      have hsm : TT.length ≤ 200 ∧ ∀ r ∈ TT, r.length ≤ 4 := by
        rw [← hTT]
        cases e : O with
        | none => exact ⟨Nat.zero_le _, fun r hr => absurd hr List.not_mem_nil⟩
        | some T => exact tbO_small (hO.trans e)
      have hN2 : N ≤ 1048576 := by omega
      have HNN := hide hN
      have HOF : Hid (offR TT N ≤ 1048576) := hide (by have := offR_small TT hsm.2 N; omega)
      have HRL : Hid (∀ j, j < N → (TT[j]?.getD []).length ≤ 1048576) := hide (fun j hj => by
        cases e : TT[j]? with
        | none => exact Nat.zero_le _
        | some r => have := hsm.2 r (List.mem_of_getElem? e); show r.length ≤ 1048576; omega)
      have CTI := hide (fun (W : World) (hb : Below w.heap.size w W) => l_toIs2 D n a cap W hD hl2 hnr (dcAt_up (dcAt_go hr hb) hb.size))
      have CTK := hide (fun (W : World) (hb : Below w.heap.size w W) => l_toKO nm kd on pa ad fl fl.length cp re W rfl z4 (tx_up (tx_go hat hb) hb.size))
      have CS : Hid (∀ (g G : Nat) (W : World), DcAt W (some ⟨g, 0, none⟩) D W.heap.size → TxAt W (some ⟨G, 0, none⟩) fl W.heap.size → Calls Tryz.prog 12 #[.slice (some ⟨g, 0, none⟩) n n, .int .i64 x, .agg #[.string nm, .int .i64 kd, .string on, .string pa, .slice (some ⟨G, 0, none⟩) fl.length fl.length, .string re]] W fun e w' => Below W.heap.size W w' ∧ ∃ ta tc cs, e = .returned (.tuple #[.slice ta N tc, .bool ok]) ∧ TabO W.heap.size w' ta tc N cs TT) := hide (fun g G W h1 h2 => (s_tableOf D n (some ⟨g, 0, none⟩) n x ⟨nm, kd, on, pa, fl, re⟩ (some ⟨G, 0, none⟩) fl.length W hD hb9 z0 z1 z2 z4 z5 (Nat.le_refl _) h1 h2).mono (fun e w' h => by rw [hO] at h; exact tab3 h hTT hN hok))
      have CI : Hid (∀ (g G : Nat) (W : World), DcAt W (some ⟨g, 0, none⟩) D W.heap.size → TxAt W (some ⟨G, 0, none⟩) fl W.heap.size → Below w.heap.size w W → Calls Tryz.prog 14 #[.slice (some ⟨g, 0, none⟩) n n, .int .i64 x, .agg #[.string nm, .int .i64 kd, .string on, .string pa, .slice (some ⟨G, 0, none⟩) fl.length fl.length, .string re]] W fun e w' => Below W.heap.size W w' ∧ ∃ ta tc cs, e = .returned (.tuple #[.slice ta N tc, .bool ok]) ∧ TabO W.heap.size w' ta tc N cs TT) := hide (fun g G W h1 h2 h3 => (i_tableOf D n (some ⟨g, 0, none⟩) n x ⟨nm, kd, on, pa, fl, re⟩ (some ⟨G, 0, none⟩) fl.length W hD hb9 z0 z1 z2 z4 z5 h1 h2 (tabs_below hT h3) (maxL_go hM h3 (Nat.le_refl _))).mono (fun e w' h => by rw [hO] at h; exact tab3 h hTT hN hok))
      have CEQ := hide (fun (a1 a2 : Option Addr) (c1 c2 : Nat) (W : World) (h1 : TabAt W a1 TT W.heap.size) (h2 : TabAt W a2 TT W.heap.size) => l_eqSS TT N a1 a2 c1 c2 W hN hN2 HRL.out h1 h2)
      have HR := hide hr
      have HAT := hide hat
      clear hr hD hz hT hM hat hk hb9 hnr hO hTT hN hok hsm z0 z1 z2 z5 hLL hbk
      go_enter Tryz.func4, Tryz.ntmps4
      go_wp2_with fail
      refine (CSZ.out _).mono ?_
      rintro e w1 ⟨rfl, hb1⟩
      rw [HL.out]
      have XX1 := hide (show KX w w1 #[.string nm, .int .i64 kd, .string on, .string pa, .slice ad fl.length cp, .string re] from ⟨(sx _).trans (hb1.mono (sx _).size), kd_go (kd_new w #[.string nm, .int .i64 kd, .string on, .string pa, .slice ad fl.length cp, .string re] 32) hb1⟩)
      obtain ⟨-, k0, k1, k2, k3, k4, k5⟩ := kx_all XX1.out
      clear hb1
      go_wp2_with fail
      refine (CSK.out _ XX1.out.1).mono ?_
      rintro e w2 ⟨rfl, hb2⟩
      rw [HLK.out]
      have XX := hide (kx_go XX1.out hb2)
      clear hb2 k0 k1 k2 k3 k4 k5 XX1
      go_upto_region 8 with fail
      go_cut [8, 9] (fun av bv wx => ∃ ta tc, av = .slice ta N tc ∧ bv = .bool ok ∧ Hid (KX w wx #[.string nm, .int .i64 kd, .string on, .string pa, .slice ad fl.length cp, .string re]) ∧ Hid (TabAt wx ta TT wx.heap.size))
      case first =>
        go_region_held3 (fun w' => KX w w' #[.string nm, .int .i64 kd, .string on, .string pa, .slice ad fl.length cp, .string re] ∧ w'.cell? ⟨w.heap.size, 0, none⟩ = some (.string nm) ∧ w'.cell? ⟨w.heap.size, 1, none⟩ = some (.int .i64 kd) ∧ w'.cell? ⟨w.heap.size, 2, none⟩ = some (.string on) ∧ w'.cell? ⟨w.heap.size, 3, none⟩ = some (.string pa) ∧ w'.cell? ⟨w.heap.size, 4, none⟩ = some (.slice ad fl.length cp) ∧ w'.cell? ⟨w.heap.size, 5, none⟩ = some (.string re)) (first | assumption | exact kx_all (kx_drew XX.out) | exact kx_all XX.out) (first | (go_at_call 8; refine (CTI.out _ (And.left (And.left (by assumption)))).mono ?_; rintro e wp ⟨gp, rfl, hgp, hrp, -, hbp⟩; have HRP := hide hrp; (first | (have X2 := hide (kx_go (kx_drew XX.out) hbp)) | (have X2 := hide (kx_go XX.out hbp))); replace XX := X2; clear X2 hbp hrp) | (go_at_call 13; refine (CTK.out _ (And.left (And.left (by assumption)))).mono ?_; rintro e wq ⟨gq, rfl, hgq, hoq, hbq⟩; have HOQ := hide (tx_own hoq); have HRQ := hide (dcAt_up (dcAt_go HRP.out hbq) hbq.size); (first | (have X2 := hide (kx_go XX.out hbq)) | (have X2 := hide (kx_go (kx_drew XX.out) hbq))); replace XX := X2; clear X2 hbq hoq) | (go_at_call 12; refine (CS.out gp gq _ HRQ.out HOQ.out).mono ?_; rintro e ws ⟨hbs9, tas, tcs, css, rfl, hos⟩; have HOS := hide hos; (first | (have X2 := hide (kx_go XX.out hbs9)) | (have X2 := hide (kx_go (kx_drew XX.out) hbs9))); replace XX := X2; clear X2 hbs9 hos))
        all_goals
          go_wp2
          go_meet
          exact ⟨_, _, rfl, rfl, XX, hide (tabO_at HOS.out)⟩
      case rest =>
        obtain ⟨taA, tcA, rfl, rfl, XX5, TA5⟩ := hcut
        clear XX
        rename World => w5
        go_wp2_with fail
        refine (CTI.out _ XX5.out.1).mono ?_
        rintro e w6 ⟨g6, rfl, hg6, hr6, hsh6, hb6⟩
        have HC6 := hide hb6
        have XX6 := hide (kx_go XX5.out hb6)
        have HR6 := hide hr6
        have HSH6 := hide hsh6
        obtain ⟨-, k0, k1, k2, k3, k4, k5⟩ := kx_all XX6.out
        clear hb6 hr6 hsh6
        go_wp2_with fail
        refine (CTK.out _ XX6.out.1).mono ?_
        rintro e w7 ⟨G7, rfl, hG7, ho7, hb7⟩
        have HC7 := hide (HC6.out.trans (hb7.mono HC6.out.size))
        have HB67 := hide hb7
        have XX7 := hide (kx_go XX6.out hb7)
        have HO7 := hide ho7
        have hGl : G7 < w7.heap.size := (ho7.lt G7 rfl).2
        clear hb7 ho7 k0 k1 k2 k3 k4 k5
        have HN7 := hide (kd_new w7 #[.string nm, .int .i64 kd, .string on, .string pa, .slice (some ⟨G7, 0, none⟩) fl.length fl.length, .string re] 37)
        have hs7 := (Below.refl w7.heap.size w7).alloc (Nat.le_refl _) (.cells #[.string nm, .int .i64 kd, .string on, .string pa, .slice (some ⟨G7, 0, none⟩) fl.length fl.length, .string re] 37)
        have HS7 := hide hs7
        clear hs7
        go_wp2_with fail
        refine (CI.out g6 G7 _ (dcAt_up (dcAt_go HR6.out (HB67.out.trans (HS7.out.mono HB67.out.size))) (Nat.le_trans HB67.out.size HS7.out.size)) (tx_up (tx_go (tx_own HO7.out) HS7.out) HS7.out.size) (XX7.out.1.trans (HS7.out.mono XX7.out.1.size))).mono ?_
        rintro e w8 ⟨hb8, taB, tcB, csB, rfl, hoB⟩
        have HB78 := hide (HS7.out.trans (hb8.mono HS7.out.size))
        have XX8 := hide (kx_go XX7.out HB78.out)
        have HC8 := hide (HC7.out.trans (HB78.out.mono HC7.out.size))
        have TB8 := hide hoB
        have TA8 := hide (tbl_up (tbl_go TA5.out HC8.out) HC8.out.size)
        have HN8 := hide (kd_go HN7.out hb8)
        have hP8 : w7.heap.size < w8.heap.size := Nat.lt_of_lt_of_le (by simp) hb8.size
        clear hb8 hoB
        go_wp2_with fail
        refine (CEQ.out taB taA tcB tcA _ (tabO_at TB8.out) TA8.out).mono ?_
        rintro e w9 ⟨rfl, hb9⟩
        have HD9 := hide hb9
        have HC9 := hide (HC8.out.trans (hb9.mono HC8.out.size))
        have XX9 := hide (kx_go XX8.out hb9)
        clear hb9
        go_wp2_with fail
        refine (CTI.out _ XX9.out.1).mono ?_
        rintro e w10 ⟨g10, rfl, hg10, hr10, -, hb10⟩
        have HD10 := hide (HD9.out.trans (hb10.mono HD9.out.size))
        have XX10 := hide (kx_go XX9.out hb10)
        have HR10 := hide hr10
        have H68 := hide (HB67.out.trans (HB78.out.mono HB67.out.size))
        have HR610 := hide (dcAt_up (dcAt_go HR6.out (H68.out.trans (HD10.out.mono H68.out.size))) (Nat.le_trans H68.out.size HD10.out.size))
        clear hb10 hr10
        go_wp2_with fail
        refine (l_eqIs D n _ _ _ _ _ HX.out hl2 HNR.out HR610.out HR10.out).mono ?_
        rintro e w11 ⟨rfl, hb11⟩
        have HD11 := hide (HD10.out.trans (hb11.mono HD10.out.size))
        have XX11 := hide (kx_go XX10.out hb11)
        have YY := hide (show KY w w7.heap.size w11 w11 #[.string nm, .int .i64 kd, .string on, .string pa, .slice ad fl.length cp, .string re] #[.string nm, .int .i64 kd, .string on, .string pa, .slice (some ⟨G7, 0, none⟩) fl.length fl.length, .string re] from ⟨Below.refl _ _, XX11.out, kd_go HN8.out HD11.out⟩)
        have HO11 := hide (gOwn_after HO7.out (HB78.out.trans (HD11.out.mono HB78.out.size)))
        have HTF := hide (tx_own HO11.out)
        clear hb11
        go_upto_region 16 with fail
        go_cut [67] (fun bv wx => bv = .bool false ∧ Hid (Below w11.heap.size w11 wx))
        case first =>
          go_region_held3 (fun w' => KY w w7.heap.size w11 w' #[.string nm, .int .i64 kd, .string on, .string pa, .slice ad fl.length cp, .string re] #[.string nm, .int .i64 kd, .string on, .string pa, .slice (some ⟨G7, 0, none⟩) fl.length fl.length, .string re] ∧ (w'.cell? ⟨w.heap.size, 0, none⟩ = some (.string nm) ∧ w'.cell? ⟨w.heap.size, 1, none⟩ = some (.int .i64 kd) ∧ w'.cell? ⟨w.heap.size, 2, none⟩ = some (.string on) ∧ w'.cell? ⟨w.heap.size, 3, none⟩ = some (.string pa) ∧ w'.cell? ⟨w.heap.size, 4, none⟩ = some (.slice ad fl.length cp) ∧ w'.cell? ⟨w.heap.size, 5, none⟩ = some (.string re)) ∧ w'.cell? ⟨w7.heap.size, 0, none⟩ = some (.string nm) ∧ w'.cell? ⟨w7.heap.size, 1, none⟩ = some (.int .i64 kd) ∧ w'.cell? ⟨w7.heap.size, 2, none⟩ = some (.string on) ∧ w'.cell? ⟨w7.heap.size, 3, none⟩ = some (.string pa) ∧ w'.cell? ⟨w7.heap.size, 4, none⟩ = some (.slice (some ⟨G7, 0, none⟩) fl.length fl.length) ∧ w'.cell? ⟨w7.heap.size, 5, none⟩ = some (.string re)) (first | assumption | exact ky2_all (ky2_drew YY.out) | exact ky2_all YY.out) (first | (go_at_call 13; refine (CTK.out _ (And.left (And.left (And.right (And.left (by assumption)))))).mono ?_; rintro e wq ⟨gq, rfl, hgq, hoq, hbq⟩; have HOQ := hide (tx_own hoq); (first | (have Y2 := hide (ky2_go (ky2_drew YY.out) hbq)) | (have Y2 := hide (ky2_go YY.out hbq))); replace YY := Y2; clear Y2 hbq hoq) | (go_at_call 16; refine (l_eqK nm kd on pa _ _ fl fl.length _ _ re _ rfl z4 (tx_up (tx_go HTF.out YY.out.1) YY.out.1.size) HOQ.out).mono ?_; rintro e ws ⟨rfl, hbs9⟩; have Y2 := hide (ky2_go YY.out hbs9); replace YY := Y2; clear Y2 hbs9))
          all_goals
            go_wp2
            go_meet
            exact ⟨rfl, hide YY.out.1⟩
        case rest =>
          obtain ⟨rfl, HB12⟩ := hcut
          clear YY
          rename World => w12
          have HD12 := hide (HD11.out.trans (HB12.out.mono HD11.out.size))
          have HSH12 := hide (shI_go HSH6.out (chg_below (lo := 0) (hi := 0) (H68.out.trans (HD12.out.mono H68.out.size))) (.inr (Nat.zero_le _)))
          have HC12 := hide (HC8.out.trans (HD12.out.mono HC8.out.size))
          have TB12 := hide (tabO_go TB8.out HD12.out)
          have HN12 := hide (kd_go HN8.out HD12.out)
          have HO12 := hide (gOwn_after HO11.out HB12.out)
          go_wp2_with fail
          refine (l_markIs9 g6 n n D.AC w5.heap.size w6.heap.size _ hl2 HAC.out HSH12.out).mono ?_
          rintro e w13 ⟨kk, rfl, hkk, hkk2, hc13⟩
          have hs67 := HB67.out.size
          have HW13 := hide hc13.size
          have HC13 := hide (below_chg HC12.out (Nat.le_refl _) (Nat.le_refl _) hc13)
          have TB13 := hide (tabO_chg TB12.out hc13 (by simp; omega))
          have HN13 := hide (kd_chg HN12.out hc13 (.inr hs67))
          have HO13 := hide (own_chg9 HO12.out hc13 (fun j hj => .inr (HO7.out.lt j hj).1))
          obtain ⟨j0, j1, j2, j3, j4, j5⟩ := (show (w13.cell? ⟨w7.heap.size, 0, none⟩ = some (.string nm) ∧ w13.cell? ⟨w7.heap.size, 1, none⟩ = some (.int .i64 kd) ∧ w13.cell? ⟨w7.heap.size, 2, none⟩ = some (.string on) ∧ w13.cell? ⟨w7.heap.size, 3, none⟩ = some (.string pa) ∧ w13.cell? ⟨w7.heap.size, 4, none⟩ = some (.slice (some ⟨G7, 0, none⟩) fl.length fl.length) ∧ w13.cell? ⟨w7.heap.size, 5, none⟩ = some (.string re)) from ⟨kd_cell HN13.out 0, kd_cell HN13.out 1, kd_cell HN13.out 2, kd_cell HN13.out 3, kd_cell HN13.out 4, kd_cell HN13.out 5⟩)
          obtain ⟨K, hK⟩ : ∃ K : Nat, kk = (K : Int) := ⟨kk.toNat, by omega⟩
          subst hK
          clear hc13
          go_wp2_with fail
          refine (l_markK w6.heap.size G7 fl.length K fl nm kd on pa re _ rfl z4 (by omega) (by omega) HO13.out).mono ?_
          rintro e w14 ⟨rfl, hg14⟩
          have HW14 := hide hg14.size
          have HC14 := hide (HC13.out.grown hg14 HC13.out.size (fun q hq => by cases hq; exact Nat.le_trans HC6.out.size hG7))
          have TB14 := hide (tabO_grown TB13.out hg14 (by simp; omega))
          have TA14 := hide (tbl_up (tbl_go TA5.out HC14.out) HC14.out.size)
          have hkp : ¬ ((K + fl.length : Nat) : Int) < 0 := by omega
          clear hg14 j0 j1 j2 j3 j4 j5
          go_wp2_with fail
          refine (CEQ.out taB taA tcB tcA _ (tabO_at TB14.out) TA14.out).mono ?_
          rintro e w15 ⟨rfl, hb15⟩
          have HC15 := hide (HC14.out.trans (hb15.mono HC14.out.size))
          have TB15 := hide (tabO_go TB14.out hb15)
          have h5w : w5.heap.size ≤ (w7.alloc (.cells #[.string nm, .int .i64 kd, .string on, .string pa, .slice (some ⟨G7, 0, none⟩) fl.length fl.length, .string re] 37)).heap.size := Nat.le_trans HC7.out.size HS7.out.size
          have hw15 : (w7.alloc (.cells #[.string nm, .int .i64 kd, .string on, .string pa, .slice (some ⟨G7, 0, none⟩) fl.length fl.length, .string re] 37)).heap.size ≤ w15.heap.size := by
            have h1 := HD12.out.size
            have h2 := HW13.out
            have h3 := hb15.size
            have h4 := HW14.out
            simp
            omega
          clear hb15
          go_wp2_with fail
          refine (l_markSS _ taB N tcB csB TT _ HNN.out hN2 HOF.out hw15 TB15.out.1 TB15.out.2.1).mono ?_
          rintro e w16 ⟨rfl, M, hMl, hMj, hoM, hrM, hbM⟩
          have HC16 := hide (HC15.out.trans (hbM.mono h5w))
          have TM16 := hide (tbl_own hoM hrM hMl)
          have HMl := hide hMl
          have HMj := hide hMj
          clear hMl hMj hoM hrM hbM
          go_wp2_with fail
          refine (l_heldSS taB N tcB M TT _ HMl.out hN2 HOF.out HMj.out TM16.out).mono ?_
          rintro e w17 ⟨rfl, hb17⟩
          have HC17 := hide (HC16.out.trans (hb17.mono HC16.out.size))
          have TM17 := hide (tbl_up (tbl_go TM16.out hb17) hb17.size)
          have hmp : ¬ ((1 + offR TT N : Nat) : Int) < 0 := by omega
          have XX := hide (show KX w w17 #[.string nm, .int .i64 kd, .string on, .string pa, .slice ad fl.length cp, .string re] from ⟨XX5.out.1.trans (HC17.out.mono XX5.out.1.size), kd_goB XX5.out.2 (kd_lt XX5.out.2) HC17.out⟩)
          clear hb17
          go_upto_region 31 with fail
          go_cut [17, 18] (fun av bv wx => ∃ ta tc, av = .slice ta N tc ∧ bv = .bool ok ∧ Hid (Below w17.heap.size w17 wx) ∧ Hid (TabAt wx ta TT wx.heap.size))
          case first =>
            have ZZ := hide (Below.refl w17.heap.size w17)
            go_region_held3 (fun w' => KX w w' #[.string nm, .int .i64 kd, .string on, .string pa, .slice ad fl.length cp, .string re] ∧ w'.cell? ⟨w.heap.size, 0, none⟩ = some (.string nm) ∧ w'.cell? ⟨w.heap.size, 1, none⟩ = some (.int .i64 kd) ∧ w'.cell? ⟨w.heap.size, 2, none⟩ = some (.string on) ∧ w'.cell? ⟨w.heap.size, 3, none⟩ = some (.string pa) ∧ w'.cell? ⟨w.heap.size, 4, none⟩ = some (.slice ad fl.length cp) ∧ w'.cell? ⟨w.heap.size, 5, none⟩ = some (.string re)) (first | assumption | exact kx_all (kx_drew XX.out) | exact kx_all XX.out) (first | (go_at_call 8; refine (CTI.out _ (And.left (And.left (by assumption)))).mono ?_; rintro e wp ⟨gp, rfl, hgp, hrp, -, hbp⟩; have HRP := hide hrp; (first | (have X2 := hide (kx_go (kx_drew XX.out) hbp)) | (have X2 := hide (kx_go XX.out hbp))); replace XX := X2; replace ZZ := hide (ZZ.out.trans ((show Below w17.heap.size w17 wp from ⟨hbp.os, hbp.tape, hbp.output, hbp.size, hbp.block⟩))); clear X2 hbp hrp) | (go_at_call 13; refine (CTK.out _ (And.left (And.left (by assumption)))).mono ?_; rintro e wq ⟨gq, rfl, hgq, hoq, hbq⟩; have HOQ := hide (tx_own hoq); have HRQ := hide (dcAt_up (dcAt_go HRP.out hbq) hbq.size); (first | (have X2 := hide (kx_go XX.out hbq)) | (have X2 := hide (kx_go (kx_drew XX.out) hbq))); replace XX := X2; replace ZZ := hide (ZZ.out.trans (hbq.mono ZZ.out.size)); clear X2 hbq hoq) | (go_at_call 14; refine (CI.out gp gq _ HRQ.out HOQ.out XX.out.1).mono ?_; rintro e ws ⟨hbs9, tas, tcs, css, rfl, hos⟩; have HOS := hide hos; (first | (have X2 := hide (kx_go XX.out hbs9)) | (have X2 := hide (kx_go (kx_drew XX.out) hbs9))); replace XX := X2; replace ZZ := hide (ZZ.out.trans (hbs9.mono ZZ.out.size)); clear X2 hbs9 hos))
            all_goals
              go_wp2
              go_meet
              exact ⟨_, _, rfl, rfl, ZZ, hide (tabO_at HOS.out)⟩
          case rest =>
            obtain ⟨taC, tcC, rfl, rfl, HB18, TC18⟩ := hcut
            clear XX
            rename World => w18
            have HC18 := hide (HC17.out.trans (HB18.out.mono HC17.out.size))
            have TA18 := hide (tbl_up (tbl_go TA5.out HC18.out) HC18.out.size)
            have TM18 := hide (tbl_up (tbl_go TM17.out HB18.out) HB18.out.size)
            go_wp2_with fail
            refine (CEQ.out taC taA tcC tcA _ TC18.out TA18.out).mono ?_
            rintro e w19 ⟨rfl, hb19⟩
            have HC19 := hide (HC18.out.trans (hb19.mono HC18.out.size))
            have TM19 := hide (tbl_up (tbl_go TM18.out hb19) hb19.size)
            clear hb19
            go_wp2_with fail
            refine (l_heldSS taB N tcB M TT _ HMl.out hN2 HOF.out HMj.out TM19.out).mono ?_
            rintro e w20 ⟨rfl, hb20⟩
            have HC20 := hide (HC19.out.trans (hb20.mono HC19.out.size))
            clear hb20
            go_wp2
            go_ret
            exact ⟨rfl, XX5.out.1.trans (HC20.out.mono XX5.out.1.size)⟩
    · have HLK := hide (dn_no hbk)
      clear hr hD hz hT hM hat hk
      go_enter Tryz.func4, Tryz.ntmps4
      go_wp2_with fail
      refine (CSZ.out _).mono ?_
      rintro e w1 ⟨rfl, hb1⟩
      rw [HL.out]
      have XX1 := hide (show KX w w1 #[.string nm, .int .i64 kd, .string on, .string pa, .slice ad fl.length cp, .string re] from ⟨(sx _).trans (hb1.mono (sx _).size), kd_go (kd_new w #[.string nm, .int .i64 kd, .string on, .string pa, .slice ad fl.length cp, .string re] 32) hb1⟩)
      obtain ⟨-, k0, k1, k2, k3, k4, k5⟩ := kx_all XX1.out
      clear hb1 hbk
      go_wp2_with fail
      refine (CSK.out _ XX1.out.1).mono ?_
      rintro e w2 ⟨rfl, hb2⟩
      rw [HLK.out]
      have HB2 := hide (kx_go XX1.out hb2)
      clear hb2
      go_wp2
      go_ret
      exact ⟨rfl, HB2.out.1⟩
  · have HL := hide (dn_no hbig)
    clear hr hD hz hT hM hat hk
    go_enter Tryz.func4, Tryz.ntmps4
    go_wp2_with fail
    refine (CSZ.out _).mono ?_
    rintro e w1 ⟨rfl, hb1⟩
    rw [HL.out]
    have HB1 := hide ((sx _).trans (hb1.mono (sx _).size))
    clear hb1
    go_wp2
    go_ret
    exact ⟨rfl, HB1.out⟩
theorem tb_walk (D : Dc) (n : Nat) (a : Option Addr) (cap : Nat) (x : Int) (k : Ky) (ad : Option Addr) (cp : Nat) (w : World) (hD : D.n = n) (hz : DcSz D) (hr : DcAt w a D w.heap.size) (hk : KyZ k) (hcp : k.fl.length ≤ cp) (hat : TxAt w ad k.fl w.heap.size) (hT : Tabs w) (hM : MaxL w) :
    Calls Tryz.prog 4 #[.slice a n cap, .int .i64 x, .agg #[.string k.nm, .int .i64 k.kd, .string k.on, .string k.pa, .slice ad k.fl.length cp, .string k.re]] w fun e w' => e = .returned (.bool true) ∧ Below w.heap.size w w' := by
  obtain ⟨nm, kd, on, pa, fl, re⟩ := k
  exact tb_walk0 D n a cap x nm kd on pa fl re ad cp w hD hz hr hk hcp hat hT hM
end Go.Proofs.YtfbahffljhnjbaaGreatDoor
