/-
  Texts put together: KsA, DocAt3.
-/
import Derived.Test.YtdepgkpfibmbgaaGreatDoorF17
import Derived.Test.YtdepgkpfibmbgaaGreatDoorF19
import Derived.Test.YtdepgkpfibmbgaaGreatDoorF14
import Derived.Test.YtdepgkpfibmbgaaGreatDoorF20
import Derived.Test.YtdepgkpfibmbgaaGreatDoorF13
import Derived.Test.YtdepgkpfibmbgaaGreatDoorF16
/-
  Drawn rows of keys: what lies in memory, and r.keys.
-/
namespace Go.Proofs.YtdepgkpfibmbgaaGreatDoor
open Go.RowKit Go.Joins
set_option linter.unusedVariables false
set_option linter.unusedSimpArgs false
/-- A key with the row of its fields. -/
structure Kq where
  k : Ky
  fa : Option Addr
  fc : Nat
def kq0 : Kq := ⟨ky0, none, 0⟩
def kqA (Q : List Kq) (j : Nat) : Kq := Q[j]?.getD kq0
def kqV (q : Kq) : List Value := [.string q.k.nm, .int .i64 q.k.kd, .string q.k.on, .string q.k.pa, .slice q.fa q.k.fl.length q.fc, .string q.k.re]
def KqS (B : Nat) (w : World) (Q : List Kq) : Prop := ∀ q ∈ Q, w.ownsRow B 9 1 (.slice q.fa q.k.fl.length q.fc) q.k.fl.length (q.k.fl.map Value.string)
def KqO (B : Nat) (w : World) (ad : Option Addr) (m c : Nat) (Q : List Kq) : Prop := Q.length = m ∧ w.ownsRow B 27 6 (.slice ad m c) m (Q.flatMap kqV) ∧ KqS B w Q
def KqOk (Q : List Kq) : Prop := ∀ q ∈ Q, KOk q.k.nm q.k.kd q.k.on q.k.pa q.k.re ∧ q.k.fl.length ≤ 2 ∧ ∀ t ∈ q.k.fl, t.size ≤ 8
theorem kq_len : ∀ (Q : List Kq), (Q.flatMap kqV).length = Q.length * 6
  | [] => rfl
  | q :: Q => by rw [List.flatMap_cons, List.length_append, kq_len Q, List.length_cons]; show 6 + _ = _; omega
theorem kq_flat : ∀ (Q : List Kq) (j i : Nat), i < 6 → j < Q.length → (Q.flatMap kqV)[j * 6 + i]? = (kqV (kqA Q j))[i]?
  | [], j, i, _, h => absurd h (Nat.not_lt_zero _)
  | q :: Q, 0, i, hi, _ => by
    rw [List.flatMap_cons, Nat.zero_mul, Nat.zero_add, List.getElem?_append_left (by show i < 6; exact hi)]
    rfl
  | q :: Q, j + 1, i, hi, h => by
    rw [List.flatMap_cons, List.getElem?_append_right (by show 6 ≤ _; omega), show (j + 1) * 6 + i - (kqV q).length = j * 6 + i by show _ - 6 = _; omega, kq_flat Q j i hi (by simpa using h)]
    rfl
theorem kq_one (Q : List Kq) : ∀ u ∈ Q.flatMap kqV, u.oneCell' = true := by
  intro u hu
  obtain ⟨q, -, hq⟩ := List.mem_flatMap.1 hu
  unfold kqV at hq
  simp only [List.mem_cons, List.mem_nil_iff, or_false] at hq
  rcases hq with rfl | rfl | rfl | rfl | rfl | rfl <;> rfl
theorem kqA_mem {Q : List Kq} {j : Nat} (h : j < Q.length) : kqA Q j ∈ Q := by unfold kqA; rw [List.getElem?_eq_getElem h]; exact List.getElem_mem h
theorem kqA_k {Q : List Kq} {j : Nat} (h : j < Q.length) : kyA (Q.map (·.k)) j = (kqA Q j).k := by
  unfold kyA kqA
  rw [List.getElem?_map, List.getElem?_eq_getElem h]
  rfl
theorem kyAt_kq {B : Nat} {w : World} {ad : Option Addr} {m c : Nat} {Q : List Kq} (h : KqO B w ad m c Q) : KyAt w ad (Q.map (·.k)) w.heap.size := fun h0 => by
  obtain ⟨hl, ho, hs⟩ := h
  have hm : 0 < m := by
    rcases Nat.eq_zero_or_pos m with e | e
    · rw [e] at hl; exact absurd (by rw [List.length_eq_zero_iff.1 hl]; rfl) h0
    · exact e
  have ho2 := ho
  rcases ho.2 with ⟨e, hz⟩ | ⟨g, cap, cur, e, -, hg, -⟩
  · omega
  · simp only [Value.slice.injEq] at e
    obtain ⟨rfl, -⟩ := e
    refine ⟨g, 0, rfl, (Array.getElem?_eq_some_iff.1 hg).1, fun j hj => ?_⟩
    have hj2 : j < Q.length := by simpa using hj
    have hown := hs _ (kqA_mem hj2)
    have hc : ∀ i, i < 6 → w.cell? ⟨g, 0 + j * 6 + i, none⟩ = (kqV (kqA Q j))[i]? := fun i hi => by
      rw [Nat.zero_add, ho2.cellAt (j * 6 + i) (by omega), kq_flat Q j i hi hj2]
    rw [kqA_k hj2]
    exact ⟨(kqA Q j).fa, (kqA Q j).fc, ⟨hc 0 (by decide), hc 1 (by decide), hc 2 (by decide), hc 3 (by decide), hc 4 (by decide), hc 5 (by decide)⟩, tx_own hown, own_capK hown⟩
theorem kq_few {Q : List Kq} (h : KqOk Q) (hl : Q.length ≤ 1000) : KyFew (Q.map (·.k)) := ⟨by rw [List.length_map]; omega, fun j hj => by
  have hj2 : j < Q.length := by simpa using hj
  rw [kqA_k hj2]
  obtain ⟨⟨h1, h2, h3, h4, -⟩, h5, h6⟩ := h _ (kqA_mem hj2)
  refine ⟨by omega, by omega, by omega, by omega, by omega, fun i hi => ?_⟩
  rw [List.getElem?_eq_getElem hi]
  have := h6 _ (List.getElem_mem hi)
  show _ ≤ _
  simp only [Option.getD_some]
  omega⟩
/-- The blocks of the row lie below N. -/
def KqB (N : Nat) (ad : Option Addr) (m c : Nat) (Q : List Kq) : Prop := (∀ b, (Value.slice ad m c).ownBlock = some b → b < N) ∧ ∀ q ∈ Q, ∀ b, (Value.slice q.fa q.k.fl.length q.fc).ownBlock = some b → b < N
/-- While keys are drawn. -/
def KJ (G : Nat) (a : Option Addr) (n cap : Nat) (zs : List Int) (w0 : World) (N : Nat) (ad : Option Addr) (m c : Nat) (Q : List Kq) (w : World) : Prop := G < w0.heap.size ∧ w0.heap.size ≤ N ∧ KqO w0.heap.size w ad m c Q ∧ KqB N ad m c Q ∧ Drew G a n cap zs w0 w
section
variable {G : Nat} {a : Option Addr} {n cap : Nat} {zs : List Int} {w0 w w1 : World} {N : Nat} {ad : Option Addr} {m c : Nat} {Q : List Kq}
theorem kqB_of (h : KqO w0.heap.size w ad m c Q) : KqB w.heap.size ad m c Q := ⟨fun b hb => (h.2.1.lt b hb).2, fun q hq b hb => ((h.2.2 q hq).lt b hb).2⟩
theorem kq_kept {B : Nat} {row : Option Nat} (h : KqO B w ad m c Q) (hb : KqB N ad m c Q) (hg : w.grownBy w1 row) (hr : ∀ k, row = some k → N ≤ k ∨ k < B) : KqO B w1 ad m c Q := by
  refine ⟨h.1, own_keptB h.2.1 hg (fun k hk e => ?_), fun q hq => own_keptB (h.2.2 q hq) hg (fun k hk e => ?_)⟩
  · have h1 := hb.1 k e
    have h2 := (h.2.1.lt k e).1
    rcases hr k hk with h3 | h3 <;> omega
  · have h1 := hb.2 q hq k e
    have h2 := ((h.2.2 q hq).lt k e).1
    rcases hr k hk with h3 | h3 <;> omega
theorem gk_far {row : Option Nat} (h : w0.grownBy w (some G)) (hg : w.grownBy w1 row) (hr : ∀ k, row = some k → w0.heap.size ≤ k) : w0.grownBy w1 (some G) :=
  ⟨hg.os.trans h.os, hg.tape.trans h.tape, hg.output.trans h.output, Nat.le_trans h.size hg.size, fun k hk hne => (hg.block k (Nat.lt_of_lt_of_le hk h.size) (fun e => by have := hr k e.symm; omega)).trans (h.block k hk hne)⟩
theorem kj_grown {row : Option Nat} (h : KJ G a n cap zs w0 N ad m c Q w) (hg : w.grownBy w1 row) (hr : ∀ k, row = some k → N ≤ k) : KJ G a n cap zs w0 N ad m c Q w1 :=
  ⟨h.1, h.2.1, kq_kept h.2.2.1 h.2.2.2.1 hg (fun k hk => .inl (hr k hk)), h.2.2.2.1, rd_grown h.2.2.2.2.1 hg (fun k hk => by have := hr k hk; have := h.1; have := h.2.1; omega), gk_far h.2.2.2.2.2 hg (fun k hk => Nat.le_trans h.2.1 (hr k hk))⟩
theorem kj_drew (h : KJ G a n cap zs w0 N ad m c Q w) (hd : Drew G a n cap zs w w1) : KJ G a n cap zs w0 N ad m c Q w1 :=
  ⟨h.1, h.2.1, kq_kept h.2.2.1 h.2.2.2.1 hd.2 (fun k hk => by cases hk; exact .inr h.1), h.2.2.2.1, drew_trans h.2.2.2.2 hd⟩
theorem kj_below (h : KJ G a n cap zs w0 N ad m c Q w) (hb : Below w.heap.size w w1) : KJ G a n cap zs w0 N ad m c Q w1 :=
  kj_grown h (row := none) ⟨hb.os, hb.tape, hb.output, hb.size, fun k hk _ => hb.block k hk⟩ (fun k hk => by cases hk)
theorem kj_start (h : RdAt w0 G a n cap zs) (hd : Drew G a n cap zs (w0.alloc (.cells #[] 27)) w) : KqO w0.heap.size w (some ⟨w0.heap.size, 0, none⟩) 0 0 [] ∧ Drew G a n cap zs w0 w := by
  have hlt := rd_lt h
  refine ⟨⟨rfl, ?_, fun q hq => by cases hq⟩, drew_alloc _ hd⟩
  have h1 : (w0.alloc (.cells #[] 27)).ownsRow w0.heap.size 27 6 (.slice (some ⟨w0.heap.size, 0, none⟩) 0 0) 0 [] := ⟨rfl, .inr ⟨w0.heap.size, 0, #[], rfl, Nat.le_refl _, heap_alloc_new w0 _, Nat.le_refl _, by unfold maxLen; omega, rfl, rfl⟩⟩
  exact own_keptB h1 hd.2 (fun k hk e => by cases hk; have := (h1.lt G e).1; omega)
theorem kq_empty (w : World) : (w.alloc (.cells #[] 27)).ownsRow w.heap.size 27 6 (.slice (some ⟨w.heap.size, 0, none⟩) 0 0) 0 [] := ⟨rfl, .inr ⟨w.heap.size, 0, #[], rfl, Nat.le_refl _, heap_alloc_new w _, Nat.le_refl _, by unfold maxLen; omega, rfl, rfl⟩⟩
/-- What an append reads of a row of keys. -/
theorem kq_src {B : Nat} (h : KqO B w ad m c Q) (hm : 0 < m) : ∃ p, ad = some p ∧ ∀ j u, (Q.flatMap kqV)[j]? = some u → (w.alloc (.cells #[] 27)).cell? (p.add j) = some u := by
  have h2 := h.2.1
  rcases h.2.1.2 with ⟨e, hz⟩ | ⟨g, cp, cur, e, -, hg, -⟩
  · omega
  · simp only [Value.slice.injEq] at e
    obtain ⟨rfl, -⟩ := e
    refine ⟨⟨g, 0, none⟩, rfl, fun j u hj => ?_⟩
    have hj2 : j < m * 6 := by
      have := (List.getElem?_eq_some_iff.1 hj).1
      rw [kq_len, h.1] at this
      exact this
    have h3 := (h.2.1.alloc (.cells #[] 27)).cellAt j hj2
    rw [show (⟨g, 0, none⟩ : Addr).add j = ⟨g, j, none⟩ from by
      unfold Addr.add
      simp only [Nat.zero_add]
      split
      · rename_i e; rw [e]
      · rfl, h3]
    exact hj
theorem kq_new (w : World) (q : Kq) (j : Nat) (u : Value) (hj : (kqV q)[j]? = some u) : (w.alloc (.cells (kqV q).toArray 27)).cell? ((⟨w.heap.size, 0, none⟩ : Addr).add j) = some u := by
  rw [show (⟨w.heap.size, 0, none⟩ : Addr).add j = ⟨w.heap.size, j, none⟩ from by
    unfold Addr.add
    simp only [Nat.zero_add]
    split
    · rename_i e; rw [e]
    · rfl]
  rw [cell_of_row _ w.heap.size j _ 27 (0, 0) (heap_alloc_new w _)]
  simpa using hj
theorem kqV_one (q : Kq) : ∀ u ∈ kqV q, u.oneCell' = true := fun u hu => kq_one [q] u (by simpa using hu)
theorem kq_drew (hlt : G < w0.heap.size) (h : KqO w0.heap.size w ad m c Q) (hd : Drew G a n cap zs w w1) : KqO w0.heap.size w1 ad m c Q := kq_kept h (kqB_of h) hd.2 (fun k hk => by cases hk; exact .inr hlt)
theorem kqO_go {B : Nat} (h : KqO B w ad m c Q) (hb : Below w.heap.size w w1) : KqO B w1 ad m c Q := ⟨h.1, gOwn_after h.2.1 hb, fun q hq => gOwn_after (h.2.2 q hq) hb⟩
theorem kq_more {q : Kq} {ad2 : Option Addr} {c2 B2 B3 : Nat} (h : KqO w0.heap.size w ad m c Q) (ho : w.ownsRow B2 27 6 (.slice ad2 (m + 1) c2) (m + 1) (Q.flatMap kqV ++ kqV q)) (hB2 : w0.heap.size ≤ B2) (hf : w.ownsRow B3 9 1 (.slice q.fa q.k.fl.length q.fc) q.k.fl.length (q.k.fl.map Value.string)) (hB3 : B2 ≤ B3) : KqO w0.heap.size w ad2 (m + 1) c2 (Q ++ [q]) :=
  ⟨by rw [List.length_append, h.1]; rfl, by rw [List.flatMap_append]; have := gOwn_lower ho hB2; simpa using this, fun p hp => by
    rcases List.mem_append.1 hp with hp | hp
    · exact h.2.2 p hp
    · rw [List.mem_singleton] at hp; subst hp; exact gOwn_lower hf (Nat.le_trans hB2 hB3)⟩
theorem kqOk_more {q : Kq} (h : KqOk Q) (h1 : KOk q.k.nm q.k.kd q.k.on q.k.pa q.k.re) (h2 : q.k.fl.length ≤ 2) (h3 : ∀ t ∈ q.k.fl, t.size ≤ 8) : KqOk (Q ++ [q]) := fun p hp => by
  rcases List.mem_append.1 hp with hp | hp
  · exact h p hp
  · rw [List.mem_singleton] at hp; subst hp; exact ⟨h1, h2, h3⟩
end
theorem infoKq : (Tryz.prog.info? 27).map (fun i => (i.zero, i.size, i.bytes)) = some (some (.agg #[.string ⟨#[]⟩, .int .i64 0, .string ⟨#[]⟩, .string ⟨#[]⟩, .slice none 0 0, .string ⟨#[]⟩]), 6, 96) := by kernel_rfl
set_option maxRecDepth 100000 in
set_option maxHeartbeats 8000000 in
theorem d_keys (G : Nat) (a : Option Addr) (n cap : Nat) (zs : List Int) (w0 : World) (h : RdAt w0 G a n cap zs) :
    Calls Tryz.prog 33 #[.pointer (some ⟨G, 0, none⟩)] w0 fun e w' => ∃ ad m c Q, e = .returned (.slice ad m c) ∧ m ≤ 4 ∧ KqO w0.heap.size w' ad m c Q ∧ KqOk Q ∧ Drew G a n cap zs w0 w' := by
  obtain ⟨i0, hi, hz0, hz1, hz2⟩ := info_parts infoKq
  have hlt := rd_lt h
  have HH := hide h
  clear h
  go_enter Tryz.func33, Tryz.ntmps33
  go_wp2_with fail
  refine (d_below G a n cap zs 5 _ (by omega) (by omega) (rd_alloc HH.out _)).mono ?_
  rintro e w2 ⟨x, hx0, hx5, rfl, hd⟩
  have HST := hide (kj_start HH.out hd)
  obtain ⟨i, rfl⟩ : ∃ i : Nat, x = i := ⟨x.toNat, by omega⟩
  clear hd
  go_wp2
  go_loopw [3, 4] (fun ov iv wr => ∃ (i m c : Nat) (ad : Option Addr) (Q : List Kq), iv = .int .i64 i ∧ ov = .slice ad m c ∧ i + m ≤ 4 ∧ Hid (KqO w0.heap.size wr ad m c Q) ∧ Hid (KqOk Q) ∧ Hid (Drew G a n cap zs w0 wr)) (fun _ iv _ => (intOf iv).toNat)
  case atStart => exact ⟨i, 0, 0, _, [], rfl, rfl, by omega, hide HST.out.1, hide (fun q hq => by cases hq), hide HST.out.2⟩
  case round =>
    obtain ⟨i, m, c, ad, Q, rfl, rfl, him, HO, HOK, HD⟩ := hrel
    obtain ⟨WR, rfl⟩ : ∃ WR, WR = wr := ⟨_, rfl⟩
    by_cases hi0 : 0 < i
    · have hii : (0 : Int) < (i : Int) := by omega
      have HJ := hide (show KJ G a n cap zs w0 WR.heap.size ad m c Q WR from ⟨hlt, HD.out.2.size, HO.out, kqB_of HO.out, HD.out⟩)
      have hsz : w0.heap.size ≤ WR.heap.size := HD.out.2.size
      have HLEN : Hid ((Q.flatMap kqV).length = m * 6) := hide (by rw [kq_len, HO.out.1])
      have HSRC := hide (fun hm => kq_src HO.out hm)
      have HONE := hide (kq_one Q)
      go_wp2_with (first
        | (at_builtin; refine wpList_append_src (by rfl) (.tmp 13) (.tmp 14) 38 (by rfl) WR.heap.size 27 i0 (.agg #[.string ⟨#[]⟩, .int .i64 0, .string ⟨#[]⟩, .string ⟨#[]⟩, .slice none 0 0, .string ⟨#[]⟩]) 6 96 Tryz.underlying38 hi hz0 hz1 hz2 rfl (by decide) (.slice (some ⟨WR.heap.size, 0, none⟩) 0 0) 0 [] (by rfl) (kq_empty WR) ad m c (Q.flatMap kqV) (by rfl) HLEN.out HSRC.out HONE.out (by unfold maxLen; omega) (by omega) (by simp) ?_; intro a9 c9 w9 hown9 hgr9; rw [Nat.zero_add, List.nil_append] at hown9; have HC9 := hide hown9; have hz9 : WR.heap.size ≤ w9.heap.size := (by have h9 := hgr9.size; simp at h9; omega); have HJ9 := hide (kj_grown (kj_below HJ.out ((Below.refl _ _).alloc (Nat.le_refl _) _)) hgr9 (fun k hk => by cases hk; exact Nat.le_refl _)); clear hown9 hgr9; rw [Nat.zero_add])
        | (go_at_call 23; refine (d_key G a n cap zs (m : Int) _ (by omega) (by omega) HJ9.out.2.2.2.2.1).mono ?_; rintro e w5 ⟨nm, kd, on, pa, kad, fl, cp, re, rfl, hok, hf2, hf8, hown, hd⟩; have hz5 : WR.heap.size ≤ w5.heap.size := Nat.le_trans hz9 hd.2.size; have HJ5 := hide (kj_drew HJ9.out hd); have HC5 := hide (own_keptB HC9.out hd.2 (fun k hk e => by cases hk; have h1 := (HC9.out.lt G e).1; omega)); have HF5 := hide hown; have HOK5 := hide hok; have HF2 := hide hf2; have HF8 := hide hf8; clear hok hf2 hf8 hown hd)
        | (at_builtin; refine wpList_append_own _ rfl (.tmp 15) (.tmp 20) 38 rfl WR.heap.size 27 i0 (.agg #[.string ⟨#[]⟩, .int .i64 0, .string ⟨#[]⟩, .string ⟨#[]⟩, .slice none 0 0, .string ⟨#[]⟩]) 6 96 Tryz.underlying38 hi hz0 hz1 hz2 rfl (by decide) _ _ _ rfl (HC5.out.alloc _) ⟨w5.heap.size, 0, none⟩ 1 1 (kqV ⟨⟨nm, kd, on, pa, fl, re⟩, kad, cp⟩) rfl rfl (fun j u hj => kq_new w5 ⟨⟨nm, kd, on, pa, fl, re⟩, kad, cp⟩ j u hj) (kqV_one _) (by unfold maxLen; omega) (by omega) (by simp; omega) ?_; intro v2 w7 hown2 hgrow2 _; obtain ⟨ad2, c2', hv2⟩ := gOwn_shape hown2; rw [hv2] at hown2 ⊢; clear hv2; have HJ7 := hide (kj_grown (kj_below HJ5.out ((Below.refl _ _).alloc (Nat.le_refl _) _)) hgrow2 (fun k hk => (HC5.out.lt k hk).1)); have HF7 := hide (own_keptB (HF5.out.alloc _) hgrow2 (own_apart HF5.out HC5.out (by decide))); have HO7 := hide hown2; have hz7 : WR.heap.size ≤ w7.heap.size := (by have h9 := hgrow2.size; simp at h9; omega); clear hown2 hgrow2))
      have HN7 : Hid (KqO w0.heap.size w7 ad2 (m + 1) c2' (Q ++ [⟨⟨nm, kd, on, pa, fl, re⟩, kad, cp⟩])) := hide (kq_more HJ7.out.2.2.1 HO7.out hsz HF7.out hz9)
      have HK7 : Hid (KqOk (Q ++ [⟨⟨nm, kd, on, pa, fl, re⟩, kad, cp⟩])) := hide (kqOk_more HOK.out HOK5.out HF2.out HF8.out)
      have HL7 : Hid ((Q ++ [(⟨⟨nm, kd, on, pa, fl, re⟩, kad, cp⟩ : Kq)]).length = m + 1) := hide HN7.out.1
      refine (s_keys ((Q ++ [(⟨⟨nm, kd, on, pa, fl, re⟩, kad, cp⟩ : Kq)]).map Kq.k) (m + 1) ad2 c2' _ (by rw [List.length_map]; exact HL7.out) (kq_few HK7.out (by rw [HL7.out]; omega)) (kyAt_kq HN7.out)).mono ?_
      rintro e w8 ⟨hb8, B, rfl, -⟩
      have HJ8 := hide (kj_below HJ7.out hb8)
      have HN8 := hide (kqO_go HN7.out hb8)
      clear hb8
      cases B
      · go_wp2_with fail
        refine (d_once G a n cap zs 30 _ (by omega) (by omega) HJ8.out.2.2.2.2.1).mono ?_
        rintro e w10 ⟨x, rfl, hd⟩
        have HJ10 := hide (kj_drew HJ8.out hd)
        have HN10 := hide (kq_drew hlt HN8.out hd)
        clear hd
        cases x
        · go_wp2
          go_roundw
          case rel => exact ⟨i - 1, m, c, ad, Q, by go_num, rfl, by omega, hide HJ10.out.2.2.1, HOK, hide HJ10.out.2.2.2.2⟩
          case measure => simp [intOf]; omega
        · go_wp2
          go_roundw
          case rel => exact ⟨i - 1, m + 1, c2', ad2, Q ++ [⟨⟨nm, kd, on, pa, fl, re⟩, kad, cp⟩], by go_num, rfl, by omega, HN10, HK7, hide HJ10.out.2.2.2.2⟩
          case measure => simp [intOf]; omega
      · go_wp2
        go_roundw
        case rel => exact ⟨i - 1, m + 1, c2', ad2, Q ++ [⟨⟨nm, kd, on, pa, fl, re⟩, kad, cp⟩], by go_num, rfl, by omega, HN8, HK7, hide HJ8.out.2.2.2.2⟩
        case measure => simp [intOf]; omega
    · have hie : i = 0 := by omega
      subst hie
      go_wp2
      go_ret
      exact ⟨ad, m, c, Q, rfl, by omega, HO.out, HOK.out, HD.out⟩
end Go.Proofs.YtdepgkpfibmbgaaGreatDoor

/-
  Contract: rows of attributes, by the program.
-/
namespace Go.Proofs.YtdepgkpfibmbgaaGreatDoor
open Go.RowKit Go.Joins
set_option linter.unusedVariables false
set_option linter.unusedSimpArgs false
/-- An attribute lies in block G; all that was there is as it was. -/
def AS (w w' : World) (G : Nat) (x y : ByteArray) : Prop := (∃ T, w'.heap[G]? = some (.cells #[.string x, .string y] T (0, 0))) ∧ Below w.heap.size w w'
section
variable {w w1 w2 : World} {G : Nat} {x y : ByteArray}
theorem as_go (h : AS w w1 G x y) (k : Below w1.heap.size w1 w2) : AS w w2 G x y := by
  obtain ⟨⟨T, h1⟩, h2⟩ := h
  exact ⟨⟨T, (k.block G (Array.getElem?_eq_some_iff.1 h1).1).trans h1⟩, h2.trans (k.mono h2.size)⟩
theorem as_drew (h : AS w w1 G x y) : AS w w1.drew G x y := as_go h ⟨rfl, rfl, rfl, Nat.le_refl _, fun _ _ => rfl⟩
theorem as_all (h : AS w w1 G x y) : AS w w1 G x y ∧ w1.cell? ⟨G, 0, none⟩ = some (.string x) ∧ w1.cell? ⟨G, 1, none⟩ = some (.string y) := by
  have h' := h
  obtain ⟨⟨T, h1⟩, -⟩ := h
  have e : ∀ i, w1.cell? ⟨G, i, none⟩ = #[Value.string x, .string y][i]? := fun i => by rw [cell_of_row w1 G i _ T (0, 0) h1]
  exact ⟨h', e 0, e 1⟩
theorem as_below (h : AS w w1 G x y) : Below w.heap.size w w1 := h.2
theorem as_new (hb : Below w.heap.size w w1) (T : TypeId) : AS w (w1.alloc (.cells #[.string x, .string y] T)) w1.heap.size x y := ⟨⟨T, heap_alloc_new w1 _⟩, hb.alloc hb.size _⟩
theorem as_at {a : Option Addr} {n k : Nat} {N V : Nat → ByteArray} (h : AS w w1 G x y) (hr : AtAt w a n N V w.heap.size) (hk : k ≤ n) : AtAt w1 a k N V w1.heap.size := fun h0 => by
  obtain ⟨b, off, e, hb, hc⟩ := atAt_up (atAt_go hr h.2) h.2.size (by omega)
  exact ⟨b, off, e, hb, fun j hj => hc j (by omega)⟩
end
/-- What each operation leaves, where a name stands twice. -/
def valA (G b off n c k : Nat) (x : ByteArray) : Nat → Value
  | 0 => .pointer (some ⟨G, 0, none⟩)
  | 1 => .string x
  | 2 => .bool true
  | 3 => .bool false
  | 4 => .bool false
  | 5 => .slice (some ⟨b, off, none⟩) n c
  | 6 => .int .i64 (k : Int)
  | 7 => .slice (some ⟨b, off, none⟩) k c
  | 8 => .pointer (some ⟨G, 0, none⟩)
  | 9 => .string x
  | 10 => .bool true
  | 11 => .bool true
  | 12 => .bool true
  | 17 => .bool true
  | _ => undef
theorem i_qualF (s : ByteArray) (w : World) (hs : s.size ≤ 1048576) (h : qualB s = false) : Calls Tryz.prog 103 #[.string s] w fun e w' => e = .returned (.bool false) ∧ ∃ q, w' = w.drewN q := by
  have := i_qual s w hs
  rw [h] at this
  exact this
theorem i_qualT (s : ByteArray) (w : World) (hs : s.size ≤ 1048576) (h : qualB s = true) : Calls Tryz.prog 103 #[.string s] w fun e w' => e = .returned (.bool true) ∧ ∃ q, w' = w.drewN q := by
  have := i_qual s w hs
  rw [h] at this
  exact this
set_option maxRecDepth 100000 in
set_option maxHeartbeats 4000000 in
theorem i_attrs (a : Option Addr) (n c : Nat) (N V : Nat → ByteArray) (w : World) (hn : n ≤ 1048576) (hcap : n ≤ c) (hs : ∀ j, j < n → (N j).size ≤ 1048576 ∧ (V j).size ≤ 1048576) (hr : AtAt w a n N V w.heap.size) (hT : Tabs w) :
    Calls Tryz.prog 104 #[.slice a n c] w fun e w' => e = .returned (.bool (attrsB n N V)) ∧ Below w.heap.size w w' := by
  have HS := hide hs
  have HR := hide hr
  have HT := hide hT
  clear hr hs hT
  by_cases h10 : n ≤ 10
  · have h10' : (n : Int) ≤ 10 := by omega
    go_enter Tryz.func104, Tryz.ntmps104
    go_wp2
    go_loopw [10] (fun i wr => ∃ k : Nat, k ≤ n ∧ i = .int .i64 k ∧ Below w.heap.size w wr ∧ Hid (∀ j, j < k → atB N V j = true)) (fun i _ => n - (intOf i).toNat)
    case atStart => exact ⟨0, Nat.zero_le _, rfl, Below.refl _ _, fun j h => by omega⟩
    case round =>
      obtain ⟨k, hk, rfl, hb, HM⟩ := hrel
      by_cases hlt : k < n
      · obtain ⟨b, off, rfl, hbs, hc⟩ := HR.out (by omega)
        have c0 : wr.cell? ⟨b, off + k * 2, none⟩ = some (.string (N k)) := (hb.cell hbs).trans (hc k hlt).1
        have c1 : wr.cell? ⟨b, off + k * 2 + 1, none⟩ = some (.string (V k)) := (hb.cell hbs).trans (hc k hlt).2
        obtain ⟨s0, s1⟩ := HS.out k hlt
        have HS0 := hide s0
        have HS1 := hide s1
        have HA0 := hide (fun T => as_new (x := N k) (y := V k) hb T)
        have hi : (k : Int) < (n : Int) := by omega
        have hkc : (k : Int) ≤ (c : Int) := by omega
        have hk0 : (0 : Int) ≤ (k : Int) := by omega
        clear hc hb s0 s1
        cases hq : qualB (N k)
        · have hv := hide (attrsB_no (N := N) (V := V) hlt (by unfold atB; rw [hq]; rfl))
          go_wp2
          go_big_quiet (first | (go_at_call 103; refine Calls.quiet_of (i_qualF _ _ HS0.out hq)))
          all_goals
            go_wp2
            go_ret
            exact ⟨ret_bool hv.out.symm, as_below (as_go (HA0.out _) (drewN_below _ _))⟩
        · cases ha : anyS k N (N k)
          · cases hp : plainB (V k)
            · have hv := hide (attrsB_no (N := N) (V := V) hlt (by unfold atB; rw [hq, hp]; rfl))
              go_wp2
              go_region_held3 (fun w' => AS w w' wr.heap.size (N k) (V k) ∧ w'.cell? ⟨wr.heap.size, 0, none⟩ = some (.string (N k)) ∧ w'.cell? ⟨wr.heap.size, 1, none⟩ = some (.string (V k))) (first | assumption | exact as_all (as_go (HA0.out _) (drewN_below _ _)) | exact as_all HTB.out | exact as_all HTC.out | exact as_all (as_drew (HA0.out _)) | exact as_all (HA0.out _)) (first | (go_at_call 103; refine (i_qual _ _ HS0.out).mono ?_; rintro e w2 ⟨rfl, q, rfl⟩; rw [hq]) | (go_at_call 140; refine (i_has _ _ _ N V _ _ (by omega) (as_at (And.left (by assumption)) HR.out (by omega))).mono ?_; rintro e w3 ⟨rfl, hb3⟩; rw [ha]; have HTB := hide (as_go (And.left (by assumption)) hb3); clear hb3) | (go_at_call 102; refine (i_plain _ _ HS1.out (tabs_below HT.out (as_below (And.left (by assumption))))).mono ?_; rintro e w4 ⟨rfl, hb4⟩; rw [hp]; have HTC := hide (as_go (And.left (by assumption)) hb4); clear hb4))
              all_goals
                go_wp2
                go_ret
                exact ⟨ret_bool hv.out.symm, as_below (And.left (by assumption))⟩
            · have hv : atB N V k = true := by unfold atB; rw [hq, hp, ha]; rfl
              go_wp2
              go_region_held3 (fun w' => AS w w' wr.heap.size (N k) (V k) ∧ w'.cell? ⟨wr.heap.size, 0, none⟩ = some (.string (N k)) ∧ w'.cell? ⟨wr.heap.size, 1, none⟩ = some (.string (V k))) (first | assumption | exact as_all (as_go (HA0.out _) (drewN_below _ _)) | exact as_all HTB.out | exact as_all HTC.out | exact as_all (as_drew (HA0.out _)) | exact as_all (HA0.out _)) (first | (go_at_call 103; refine (i_qual _ _ HS0.out).mono ?_; rintro e w2 ⟨rfl, q, rfl⟩; rw [hq]) | (go_at_call 140; refine (i_has _ _ _ N V _ _ (by omega) (as_at (And.left (by assumption)) HR.out (by omega))).mono ?_; rintro e w3 ⟨rfl, hb3⟩; rw [ha]; have HTB := hide (as_go (And.left (by assumption)) hb3); clear hb3) | (go_at_call 102; refine (i_plain _ _ HS1.out (tabs_below HT.out (as_below (And.left (by assumption))))).mono ?_; rintro e w4 ⟨rfl, hb4⟩; rw [hp]; have HTC := hide (as_go (And.left (by assumption)) hb4); clear hb4))
              all_goals
                go_wp2
                go_roundw
                case rel =>
                  refine ⟨k + 1, by omega, by go_num, as_below (And.left (by assumption)), fun j hj => ?_⟩
                  by_cases e : j = k
                  · subst e; exact hv
                  · exact HM.out j (by omega)
                case measure => simp [intOf]; omega
          · have hv := hide (attrsB_no (N := N) (V := V) hlt (by unfold atB; rw [hq, ha]; simp))
            go_wp2
            refine wp_region_inv (by kernel_rfl) (by kernel_rfl) (fun u => { tmps := #[.slice (some ⟨b, off, none⟩) n c, undef, u2, .int .i64 (k : Int), .pointer (some ⟨wr.heap.size, 0, none⟩), .slice (some ⟨b, off, none⟩) n c, .int .i64 (n : Int), .bool (decide ((10 : Int) < (n : Int))), .slice (some ⟨b, off, none⟩) n c, .int .i64 (n : Int), .int .i64 (k : Int), .bool true, .int .i64 (k : Int), .pointer (some ⟨b, off + k * 2, none⟩), .agg #[.string (N k), .string (V k)], u 15, u 16, u 17, u 18, u 19, u 20, u 21, u 22, u 23, u 24, u 25, u 26, u 27, u 28, u 29, u 30, u 31, u 32, u33], defers := [] }) (fun i => i + 15) (fun i x _ => x = valA wr.heap.size b off n c k (N k) i) (fun w' => AS w w' wr.heap.size (N k) (V k)) (fun i => #[u15, u16, u17, u18, u19, u20, u21, u22, u23, u24, u25, u26, u27, u28, u29, u30, u31, u32].getD (i - 15) undef) (as_drew (HA0.out _)) ?hput ?hD ?step ?done
            case hput =>
              intro i o ho u v
              have hi := (Array.getElem?_eq_some_iff.1 ho).1
              have hi' : i < 18 := hi
              clear hi
              rcases (show i = 0 ∨ i = 1 ∨ i = 2 ∨ i = 3 ∨ i = 4 ∨ i = 5 ∨ i = 6 ∨ i = 7 ∨ i = 8 ∨ i = 9 ∨ i = 10 ∨ i = 11 ∨ i = 12 ∨ i = 13 ∨ i = 14 ∨ i = 15 ∨ i = 16 ∨ i = 17 by omega) with e | e | e | e | e | e | e | e | e | e | e | e | e | e | e | e | e | e
              all_goals
                subst e
                obtain rfl := Option.some.inj ho
                rfl
            case hD =>
              intro i k hi hk hne
              omega
            case step =>
              intro i o ho u v hj hV K9 hK
              have hi := (Array.getElem?_eq_some_iff.1 ho).1
              have hi' : i < 18 := hi
              clear hi
              rcases (show i = 0 ∨ i = 1 ∨ i = 2 ∨ i = 3 ∨ i = 4 ∨ i = 5 ∨ i = 6 ∨ i = 7 ∨ i = 8 ∨ i = 9 ∨ i = 10 ∨ i = 11 ∨ i = 12 ∨ i = 13 ∨ i = 14 ∨ i = 15 ∨ i = 16 ∨ i = 17 by omega) with e | e | e | e | e | e | e | e | e | e | e | e | e | e | e | e | e | e
              all_goals
                subst e
                obtain rfl := Option.some.inj ho
                clear ho hi'
                try dsimp only at hV hK ⊢
              · have HJ := hide hj
                clear hj
                go_simp
                exact hK _ _ HJ.out rfl (fun _ _ h => h)
              · have HJ := hide hj
                obtain ⟨-, g0, g1⟩ := as_all hj
                have h0 : u 15 = .pointer (some ⟨wr.heap.size, 0, none⟩) := hV ⟨0, .data⟩ (by simp) rfl
                clear hj
                rw [h0] at hK ⊢
                go_simp
                exact hK _ _ HJ.out rfl (fun _ _ h => h)
              · have HJ := hide hj
                have h1 : u 16 = .string (N k) := hV ⟨1, .data⟩ (by simp) rfl
                clear hj
                rw [h1] at hK ⊢
                go_simp
                refine (i_qualT _ _ HS0.out hq).mono ?_
                rintro e v1 ⟨rfl, q, rfl⟩
                exact hK _ _ (as_go HJ.out (drewN_below _ q)) rfl (fun _ _ h => h)
              · have HJ := hide hj
                have h2 : u 17 = .bool true := hV ⟨2, .data⟩ (by simp) rfl
                clear hj
                rw [h2] at hK ⊢
                go_simp
                exact hK _ _ HJ.out rfl (fun _ _ h => h)
              · have HJ := hide hj
                have h3 : u 18 = .bool false := hV ⟨3, .data⟩ (by simp) rfl
                clear hj
                rw [h3] at hK ⊢
                go_simp
                exact hK _ _ HJ.out rfl (fun _ _ h => h)
              · have HJ := hide hj
                have h4 : u 19 = .bool false := hV ⟨4, .guard⟩ (by simp) rfl
                clear hj
                rw [h4] at hK ⊢
                go_simp
                exact hK _ _ HJ.out rfl (fun _ _ h => h)
              · have HJ := hide hj
                have h4 : u 19 = .bool false := hV ⟨4, .guard⟩ (by simp) rfl
                clear hj
                rw [h4] at hK ⊢
                go_simp
                exact hK _ _ HJ.out rfl (fun _ _ h => h)
              · have HJ := hide hj
                have h5 : u 20 = .slice (some ⟨b, off, none⟩) n c := hV ⟨5, .data⟩ (by simp) rfl
                have h6 : u 21 = .int .i64 (k : Int) := hV ⟨6, .data⟩ (by simp) rfl
                have h4 : u 19 = .bool false := hV ⟨4, .guard⟩ (by simp) rfl
                clear hj
                rw [h5, h6, h4] at hK ⊢
                go_simp
                exact hK _ _ HJ.out rfl (fun _ _ h => h)
              · have HJ := hide hj
                have h4 : u 19 = .bool false := hV ⟨4, .guard⟩ (by simp) rfl
                clear hj
                rw [h4] at hK ⊢
                go_simp
                exact hK _ _ HJ.out rfl (fun _ _ h => h)
              · have HJ := hide hj
                obtain ⟨-, g0, g1⟩ := as_all hj
                have h8 : u 23 = .pointer (some ⟨wr.heap.size, 0, none⟩) := hV ⟨8, .data⟩ (by simp) rfl
                have h4 : u 19 = .bool false := hV ⟨4, .guard⟩ (by simp) rfl
                clear hj
                rw [h8, h4] at hK ⊢
                go_simp
                exact hK _ _ HJ.out rfl (fun _ _ h => h)
              · have HJ := hide hj
                have h7 : u 22 = .slice (some ⟨b, off, none⟩) k c := hV ⟨7, .data⟩ (by simp) rfl
                have h9 : u 24 = .string (N k) := hV ⟨9, .data⟩ (by simp) rfl
                have h4 : u 19 = .bool false := hV ⟨4, .guard⟩ (by simp) rfl
                clear hj
                rw [h7, h9, h4] at hK ⊢
                go_simp
                refine (i_has _ _ _ N V _ _ (by omega) (as_at HJ.out HR.out (by omega))).mono ?_
                rintro e v1 ⟨rfl, hb3⟩
                rw [ha]
                exact hK _ _ (as_go HJ.out hb3) rfl (fun _ _ h => h)
              · have HJ := hide hj
                have h4 : u 19 = .bool false := hV ⟨4, .data⟩ (by simp) rfl
                have h10 : u 25 = .bool true := hV ⟨10, .data⟩ (by simp) rfl
                clear hj
                rw [h4, h10] at hK ⊢
                go_simp
                exact hK _ _ HJ.out rfl (fun _ _ h => h)
              · have HJ := hide hj
                have h11 : u 26 = .bool true := hV ⟨11, .data⟩ (by simp) rfl
                clear hj
                rw [h11] at hK ⊢
                go_simp
                exact hK _ _ HJ.out rfl (fun _ _ h => h)
              · have HJ := hide hj
                have h12 : u 27 = .bool true := hV ⟨12, .guard⟩ (by simp) rfl
                clear hj
                rw [h12] at hK ⊢
                go_simp
                exact hK _ _ HJ.out rfl (fun _ _ h => h)
              · have HJ := hide hj
                have h12 : u 27 = .bool true := hV ⟨12, .guard⟩ (by simp) rfl
                clear hj
                rw [h12] at hK ⊢
                go_simp
                exact hK _ _ HJ.out rfl (fun _ _ h => h)
              · have HJ := hide hj
                have h12 : u 27 = .bool true := hV ⟨12, .guard⟩ (by simp) rfl
                clear hj
                rw [h12] at hK ⊢
                go_simp
                exact hK _ _ HJ.out rfl (fun _ _ h => h)
              · have HJ := hide hj
                have h12 : u 27 = .bool true := hV ⟨12, .guard⟩ (by simp) rfl
                clear hj
                rw [h12] at hK ⊢
                go_simp
                exact hK _ _ HJ.out rfl (fun _ _ h => h)
              · have HJ := hide hj
                have h12 : u 27 = .bool true := hV ⟨12, .data⟩ (by simp) rfl
                clear hj
                rw [h12] at hK ⊢
                go_simp
                exact hK _ _ HJ.out rfl (fun _ _ h => h)
            case done =>
              intro u v hj hV
              have h17 : u 32 = .bool true := hV 17 (by decide)
              have HB := hide (as_below hj)
              clear hj hV
              rw [h17]
              go_wp2
              go_ret
              exact ⟨ret_bool hv.out.symm, HB.out⟩
      · have hkn : k = n := by omega
        subst hkn
        go_wp2
        go_ret
        exact ⟨ret_bool (attrsB_yes h10 HM.out).symm, hb⟩
  · have h10' : (10 : Int) < (n : Int) := by omega
    have hv := hide (attrsB_long (N := N) (V := V) (by omega : 10 < n))
    go_enter Tryz.func104, Tryz.ntmps104
    go_wp2
    go_ret
    exact ⟨ret_bool hv.out.symm, Below.refl _ _⟩
end Go.Proofs.YtdepgkpfibmbgaaGreatDoor
