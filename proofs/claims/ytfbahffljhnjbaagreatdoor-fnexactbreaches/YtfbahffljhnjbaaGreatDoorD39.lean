/-
  Texts put together: BrI, BrJ, BrJ2.
-/
import Derived.Test.YtfbahffljhnjbaaGreatDoorD37
import Derived.Test.YtfbahffljhnjbaaGreatDoorD38
import Derived.Test.YtfbahffljhnjbaaGreatDoorD19
import Derived.Deep.RegionWith
import Derived.Test.YtfbahffljhnjbaaGreatDoorD21
/-
  Contract of the program: does a key hold at an element?
-/
namespace Go.Proofs.YtfbahffljhnjbaaGreatDoor
open Go.RowKit Go.Joins Go.Maps
set_option linter.unusedVariables false
set_option linter.unusedSimpArgs false
section
variable {D : Dc} {L : List Ky} {x i q : Nat} {T : List (List ByteArray)}
theorem brk_none (h : tbK D x (kyA L i) = none) : brk D L x i := fun T hT => by rw [h] at hT; cases hT
theorem brk_dup (h : tbK D x (kyA L i) = some T) (h3 : (kyA L i).kd ≠ 3) : brk D L x i ↔ dupT T := by
  constructor
  · intro hb
    rcases hb T h with ⟨-, h9⟩ | ⟨h9, -⟩
    · exact h9
    · exact absurd h9 h3
  · intro hd T' hT'
    rw [h] at hT'
    cases hT'
    exact .inl ⟨h3, hd⟩
theorem brk_ref (hK : KeysP L) (hi : i < L.length) (h : tbK D x (kyA L i) = some T) (h3 : (kyA L i).kd = 3) (hq : q < i) (hn : (kyA L q).nm = (kyA L i).re) : brk D L x i ↔ ∃ r ∈ T, ∀ U, tbK D x (kyA L q) = some U → r ∉ U := by
  constructor
  · intro hb
    rcases hb T h with ⟨h9, -⟩ | ⟨-, j, hj, hjn, h9⟩
    · exact absurd h3 h9
    · have e := ref_one hK hi hj hjn hq hn
      rw [← e]
      exact h9
  · intro hd T' hT'
    rw [h] at hT'
    cases hT'
    exact .inr ⟨h3, q, hq, hn, hd⟩
theorem brk_nil (h : tbK D x (kyA L i) = some T) (h3 : (kyA L i).kd = 3) (h0 : T.length = 0) : ¬ brk D L x i := fun hb => by
  rcases hb T h with ⟨h9, -⟩ | ⟨-, j, hj, hjn, r, hr, -⟩
  · exact absurd h3 h9
  · rw [List.length_eq_zero_iff.1 h0] at hr; cases hr
theorem dup_iff {m : Nat} (hl : ∀ r ∈ T, r.length = m) (h4 : m ≤ 4) : (∀ a c, c < a → a < T.length → rkV (T[a]?.getD []) ≠ rkV (T[c]?.getD [])) ↔ ¬ dupT T := by
  have hat : ∀ a, a < T.length → (T[a]?.getD []).length = m := fun a ha => by rw [List.getElem?_eq_getElem ha]; exact hl _ (List.getElem_mem ha)
  constructor
  · rintro h ⟨a, c, h1, h2, h3⟩
    exact h a c h1 h2 (by rw [h3])
  · intro h a c h1 h2 h3
    exact h ⟨a, c, h1, h2, rk_inj (by rw [hat a h2, hat c (by omega)]) (by rw [hat a h2]; exact h4) h3⟩
theorem among_iff {U : List (List ByteArray)} {m : Nat} (hl : ∀ r ∈ T, r.length = m) (hu : ∀ r ∈ U, r.length = m) (h4 : m ≤ 4) : (∀ i, i < T.length → ∃ j, j < U.length ∧ rkV (U[j]?.getD []) = rkV (T[i]?.getD [])) ↔ ¬ ∃ r ∈ T, r ∉ U := by
  constructor
  · rintro h ⟨r, hr, hn⟩
    obtain ⟨i, hi, e⟩ := List.mem_iff_getElem.1 hr
    obtain ⟨j, hj, h9⟩ := h i hi
    rw [List.getElem?_eq_getElem hi, List.getElem?_eq_getElem hj] at h9
    simp only [Option.getD_some] at h9
    have h8 := rk_inj (by rw [hu _ (List.getElem_mem hj), hl _ (List.getElem_mem hi)]) (by rw [hu _ (List.getElem_mem hj)]; exact h4) h9
    rw [e] at h8
    exact hn (h8 ▸ List.getElem_mem hj)
  · intro h i hi
    have hm : T[i] ∈ U := Classical.byContradiction (fun hn => h ⟨_, List.getElem_mem hi, hn⟩)
    obtain ⟨j, hj, e⟩ := List.mem_iff_getElem.1 hm
    exact ⟨j, hj, by rw [List.getElem?_eq_getElem hi, List.getElem?_eq_getElem hj, e]⟩
end
theorem plC_row {B : Nat} {w : World} {ad : Option Addr} {m c : Nat} {Ps : List Pl} (h : PlO B w ad m c Ps) (j : Nat) (hj : j < m) : ∃ g, ad = some ⟨g, 0, none⟩ ∧ PlC w g (j * 10) (plA Ps j) := by
  obtain ⟨g, h1, h2, h3, h4⟩ := plO_cell h j hj
  exact ⟨g, h1, h3, h4⟩
theorem pls_at {B : Nat} {w : World} {Ps : List Pl} (h : PlsW B w Ps) {j : Nat} (hj : j < Ps.length) : PlW B w (plA Ps j) := by
  unfold plA
  rw [List.getElem?_eq_getElem hj]
  exact h _ (List.getElem_mem hj)
theorem plC_new (w : World) (p : Pl) (T : TypeId) : PlC (w.alloc (.cells (plV p).toArray T)) w.heap.size 0 p := ⟨by simp, fun i hi => by
  rw [Nat.zero_add, cellsAt_cell (cellsAt_new w (plV p).toArray T) i]
  simp⟩
theorem tk_ok {D : Dc} (hdk : docokB D = true) {x : Nat} (hx : x < D.n) {k : Ky} (hk : KeyOne k) {T : List (List ByteArray)} (h : tbK D x k = some T) : RwsOk T := by
  obtain ⟨h1, h2⟩ := tk_rows hdk hx h
  refine ⟨h1, fun r hr => ⟨?_, fun v hv => ?_⟩⟩
  · rw [(h2 r hr).1]; exact hk.2.2.2.2.1.2
  · have := (h2 r hr).2 v hv; unfold maxLen; omega
set_option maxRecDepth 100000 in
set_option maxHeartbeats 8000000 in
theorem i_holdsAt (D : Dc) (n b off cap : Nat) (L : List Ky) (np : Nat) (B : Nat) (pa : Option Addr) (pc : Nat) (Ps : List Pl) (i x : Nat) (w : World) (hD : D.n = n) (hdk : docokB D = true) (hx : x < n) (hK : KeysP L) (hL : L.length = np) (hi : i < np) (hPO : PlO B w pa np pc Ps) (hPK : PlK L Ps np) (hPW : PlsW B w Ps) (hRf : PlRf Ps np) (hbs : b < w.heap.size) (hr : DcRow w b off D w.heap.size) :
    Calls Tryz.prog 85 #[.slice (some ⟨b, off, none⟩) n cap, .slice pa np pc, .int .i64 i, .int .i64 x] w fun e w' => (∃ V : Bool, e = .returned (.bool V) ∧ (V = true ↔ ¬ brk D L x i)) ∧ Below w.heap.size w w' := by
  have hnp : np ≤ 10 := by rw [← hL]; exact hK.1
  have hPs : Ps.length = np := hPO.1
  have hxD : x < D.n := by omega
  have hii : (i : Int) < (np : Int) := by omega
  obtain ⟨g, hga, hPC⟩ := plC_row hPO i hi
  have hki := hPK i hi
  have hone : KeyOne (kyA L i) := (hK.2 i (by omega)).1
  have HRQ : Hid ((kyA L i).kd = 3 → ∃ q : Nat, (plA Ps i).r = q ∧ q < i ∧ (kyA L q).nm = (kyA L i).re) := hide (fun h3 => by
    obtain ⟨q, a, b, c⟩ := hRf i hi (by rw [hki]; exact h3)
    rw [hki, hPK q (by omega)] at c
    exact ⟨q, a, b, c⟩)
  have HT0 : Hid (∀ (P o : Nat) (w3 : World) (j : Nat), j < np → Below w.heap.size w w3 → PlC w3 P o (plA Ps j) → Calls Tryz.prog 45 #[.pointer (some ⟨P, o, none⟩), .slice (some ⟨b, off, none⟩) n cap, .int .i64 x] w3 (TabAns (tbK D x (kyA L j)) w3)) := hide (fun P o w3 j hj h3 hc => by
    have h9 := i_tabP D n b off cap x P o (plA Ps j) B w3 hD hdk hx hc (plw_go (pls_at hPW (by omega)) h3) (Nat.lt_of_lt_of_le hbs h3.size) (dcRow_up (dcRow_go hr hbs h3) h3.size)
    rw [hPK j hj] at h9
    exact h9)
  have HROW : Hid (∀ q, q < np → PlC w g (q * 10) (plA Ps q)) := hide (fun q hq => by
    obtain ⟨g2, e, h9⟩ := plC_row hPO q hq
    rw [hga] at e
    cases e
    exact h9)
  have HTK : Hid (∀ j T, j < np → tbK D x (kyA L j) = some T → RwsOk T ∧ ∀ r ∈ T, r.length = (kyA L j).fl.length) := hide (fun j T hj h => ⟨tk_ok hdk hxD (hK.2 j (by omega)).1 h, fun r hr => ((tk_rows hdk hxD h).2 r hr).1⟩)
  have HK := hide hK
  have HL := hide hL
  have HNEW := hide (plC_new w (plA Ps i))
  have hf4 : (kyA L i).fl.length ≤ 4 := hone.2.2.2.2.1.2
  obtain ⟨p, hp⟩ : ∃ p, plA Ps i = p := ⟨_, rfl⟩
  rw [hp] at hPC hki HRQ HNEW
  have HPI := hide hp
  obtain ⟨⟨nm, kd, on, pth, fl, re⟩, af, cf, d, a1, n1, c1, fa, fc, rr⟩ := p
  have hkd : (kyA L i).kd = kd := by rw [← hki]
  have HKD := hide hkd
  obtain ⟨fm, hfm⟩ : ∃ fm, fl.length = fm := ⟨_, rfl⟩
  have hc := hPC.2
  have hgl := hPC.1
  have q0 : w.cell? ⟨g, i * 10, none⟩ = some (.string nm) := hc 0 (by decide)
  have q1 : w.cell? ⟨g, i * 10 + 1, none⟩ = some (.int .i64 kd) := hc 1 (by decide)
  have q2 : w.cell? ⟨g, i * 10 + 2, none⟩ = some (.string on) := hc 2 (by decide)
  have q3 : w.cell? ⟨g, i * 10 + 3, none⟩ = some (.string pth) := hc 3 (by decide)
  have q4 : w.cell? ⟨g, i * 10 + 4, none⟩ = some (.slice af fl.length cf) := hc 4 (by decide)
  have q5 : w.cell? ⟨g, i * 10 + 5, none⟩ = some (.string re) := hc 5 (by decide)
  have q6 : w.cell? ⟨g, i * 10 + 6, none⟩ = some (.bool d) := hc 6 (by decide)
  have q7 : w.cell? ⟨g, i * 10 + 7, none⟩ = some (.slice a1 n1 c1) := hc 7 (by decide)
  have q8 : w.cell? ⟨g, i * 10 + 8, none⟩ = some (.slice fa fl.length fc) := hc 8 (by decide)
  have q9 : w.cell? ⟨g, i * 10 + 9, none⟩ = some (.int .i64 rr) := hc 9 (by decide)
  unfold plV at HNEW
  simp only at HNEW
  rw [hfm] at q4 q8 HNEW
  subst hga
  have HB1 : Hid (∀ o, Below w.heap.size w (w.alloc o)) := hide (fun o => (Below.refl _ _).alloc (Nat.le_refl _) o)
  have CT1 : Hid (∀ (T : TypeId), Calls Tryz.prog 45 #[.pointer (some ⟨w.heap.size, 0, none⟩), .slice (some ⟨b, off, none⟩) n cap, .int .i64 x] (w.alloc (.cells #[.string nm, .int .i64 kd, .string on, .string pth, .slice af fm cf, .string re, .bool d, .slice a1 n1 c1, .slice fa fm fc, .int .i64 rr] T)) (TabAns (tbK D x (kyA L i)) (w.alloc (.cells #[.string nm, .int .i64 kd, .string on, .string pth, .slice af fm cf, .string re, .bool d, .slice a1 n1 c1, .slice fa fm fc, .int .i64 rr] T)))) := hide (fun T => HT0.out w.heap.size 0 _ i hi (HB1.out _) (by rw [HPI.out]; exact HNEW.out T))
  clear hPO hPK hPW hRf hr hD hdk hxD hPC hki hone hc hp hkd hK hL hfm hPs hx
  go_enter Tryz.func85, Tryz.ntmps85
  go_wp2_with fail
  refine (CT1.out _).mono ?_
  rintro e w2 ⟨hb2, hans⟩
  have hcz : CellsAt w2 w.heap.size #[.string nm, .int .i64 kd, .string on, .string pth, .slice af fm cf, .string re, .bool d, .slice a1 n1 c1, .slice fa fm fc, .int .i64 rr] := cellsAt_go (cellsAt_new w _ _) hb2 (by simp)
  have z1 : w2.cell? ⟨w.heap.size, 1, none⟩ = some (.int .i64 kd) := cellsAt_cell hcz 1
  have z9 : w2.cell? ⟨w.heap.size, 9, none⟩ = some (.int .i64 rr) := cellsAt_cell hcz 9
  have HB2 := hide ((HB1.out _).trans (hb2.mono (HB1.out _).size))
  have hs2 : w.heap.size < w2.heap.size := cellsAt_lt hcz
  clear hb2 hcz q0 q1 q2 q3 q4 q5 q6 q7 q8 q9
  rcases hans with ⟨ta, tc, T, k, cs, ho, hk, rfl, hto, hrr⟩ | ⟨ho, rfl⟩
  · have HTA : Hid (TbAt _ w2 ta k tc T) := hide ⟨hk, cs, hto, hrr⟩
    obtain ⟨hok, hlen⟩ := HTK.out i T hi ho
    have HOK := hide hok
    have HLEN := hide hlen
    have HO := hide ho
    have HKL := hide hk
    have hk200 : k ≤ 200 := by have := hok.1; omega
    clear hto hrr hok hlen ho hk
    by_cases h3 : kd = 3
    · have h3b : (kd != 3) = false := by rw [h3]; rfl
      obtain ⟨q, hrq, hqi, hqn⟩ := HRQ.out (by rw [HKD.out]; exact h3)
      have hrq' : rr = (q : Int) := hrq
      subst hrq'
      have hqnp : q < np := by omega
      have hqn2 : (q : Int) < (np : Int) := by omega
      have HREF := hide (brk_ref HK.out (by rw [HL.out]; exact hi) HO.out (by rw [HKD.out]; exact h3) hqi hqn)
      by_cases hk0 : k = 0
      · have HNB := hide (brk_nil HO.out (by rw [HKD.out]; exact h3) (by rw [HKL.out]; exact hk0))
        have hk0b : ((k : Int) == 0) = true := by rw [hk0]; rfl
        clear h3 hrq hk0
        go_wp2
        go_ret
        exact ⟨⟨true, rfl, ⟨fun _ => HNB.out, fun _ => rfl⟩⟩, HB2.out⟩
      · have hk0b : ((k : Int) == 0) = false := by rw [beq_eq_false_iff_ne]; omega
        have CT2 := hide (HT0.out g (q * 10) w2 q hqnp HB2.out (plC_go (HROW.out q hqnp) HB2.out))
        have HFE : Hid ((kyA L q).fl.length = (kyA L i).fl.length) := hide (ref_at HK.out (by rw [HL.out]; exact hi) (by rw [HKD.out]; exact h3) hqi hqn)
        have hk00 : 0 < k := by omega
        clear h3 hrq hk0 hqn
        go_wp2_with fail
        refine CT2.out.mono ?_
        rintro e w3 ⟨hb3, hans⟩
        have HB3 := hide (HB2.out.trans (hb3.mono HB2.out.size))
        have HTA3 := hide (tbAt_go HTA.out hb3)
        clear hb3
        rcases hans with ⟨ua, uc, U, m, cs2, ho, hm, rfl, hto, hrr⟩ | ⟨ho, rfl⟩
        · have HUA : Hid (TbAt _ w3 ua m uc U) := hide ⟨hm, cs2, hto, hrr⟩
          obtain ⟨hok, hlen⟩ := HTK.out q U hqnp ho
          have hm200 : m ≤ 200 := by have := hok.1; omega
          have HOKU := hide hok
          have HFIN : Hid ((∀ i, i < k → ∃ j, j < m ∧ rkV (U[j]?.getD []) = rkV (T[i]?.getD [])) ↔ ¬ brk D L x i) := hide (by
            have h9 := among_iff HLEN.out (fun r hr => (hlen r hr).trans HFE.out) hf4
            rw [HKL.out, hm] at h9
            rw [h9, HREF.out]
            constructor
            · rintro h8 ⟨r, hr, hn⟩; exact h8 ⟨r, hr, hn U ho⟩
            · rintro h8 ⟨r, hr, hn⟩; exact h8 ⟨r, hr, fun U' hU' => by rw [ho] at hU'; cases hU'; exact hn⟩)
          clear hto hrr hok hlen ho hm
          have CRI := hide (i_rowsIn _ ua m uc U w3 HUA.out HOKU.out)
          go_wp2_with (first
            | (go_at_call 120; refine CRI.out.mono ?_; rintro e w4 ⟨rfl, hrs4, hb4⟩; have HB4 := hide (HB3.out.trans (hb4.mono HB3.out.size)); have CAL := hide (i_allAmong _ ta k tc T w3.heap.size m U w4 (tbAt_go HTA3.out hb4) HOK.out hrs4); clear hrs4 hb4)
            | (go_at_call 121; refine CAL.out.mono ?_; rintro e w5 ⟨⟨V, rfl, hV⟩, hb5⟩; have HB5 := hide (HB4.out.trans (hb5.mono HB4.out.size)); have HV := hide hV; clear hV hb5))
          go_ret
          exact ⟨⟨V, rfl, by rw [HV.out]; exact HFIN.out⟩, HB5.out⟩
        · have HBR : Hid (brk D L x i) := hide (HREF.out.2 (by
            have hT0 : T ≠ [] := fun e => by have := HKL.out; rw [e] at this; simp at this; omega
            obtain ⟨r, T', rfl⟩ := List.exists_cons_of_ne_nil hT0
            exact ⟨r, List.mem_cons_self .., fun U hU => by rw [ho] at hU; cases hU⟩))
          clear ho
          go_wp2
          go_ret
          exact ⟨⟨false, rfl, ⟨fun h => (by cases h), fun h => absurd HBR.out h⟩⟩, HB3.out⟩
    · have h3b : (kd != 3) = true := by rw [bne_iff_ne]; exact h3
      have HFIN : Hid ((∀ a c, c < a → a < k → rkV (T[a]?.getD []) ≠ rkV (T[c]?.getD [])) ↔ ¬ brk D L x i) := hide (by
        rw [brk_dup HO.out (by rw [HKD.out]; exact h3), ← dup_iff HLEN.out hf4, HKL.out])
      have CRI := hide (i_rowsIn _ ta k tc T w2 HTA.out HOK.out)
      clear h3
      go_wp2_with (go_at_call 120; refine CRI.out.mono ?_; rintro e w4 ⟨rfl, hrs4, hb4⟩; have HB4 := hide (HB2.out.trans (hb4.mono HB2.out.size)); obtain ⟨DD, h1, -, -, hsz, hdd⟩ := hrs4; have hlen := fun ty => h1.len Tryz.underlying146 ty; have HDD := hide hdd; obtain ⟨sz, hsz2⟩ : ∃ sz, Maps.size DD = sz := ⟨_, rfl⟩; rw [hsz2] at hlen HDD hsz; clear h1 hdd hsz2 hb4)
      go_ret
      exact ⟨⟨_, rfl, by rw [← HFIN.out, ← HDD.out]; simp; omega⟩, HB4.out⟩
  · have HBR := hide (brk_none ho)
    clear ho
    go_wp2
    go_ret
    exact ⟨⟨false, rfl, ⟨fun h => (by cases h), fun h => absurd HBR.out h⟩⟩, HB2.out⟩
end Go.Proofs.YtfbahffljhnjbaaGreatDoor

/-
  Contract of the program: which keys are broken.
-/
namespace Go.Proofs.YtfbahffljhnjbaaGreatDoor
open Go.RowKit Go.Joins Go.Maps
set_option linter.unusedVariables false
set_option linter.unusedSimpArgs false
theorem br_drewN {b : Nat} {w w1 : World} (h : Below b w w1) (q : Nat) : Below b w (w1.drewN q) := h.trans ⟨rfl, rfl, rfl, Nat.le_refl _, fun _ _ => rfl⟩
theorem br_drew {b : Nat} {w w1 : World} (h : Below b w w1) : Below b w w1.drew := h.trans ⟨rfl, rfl, rfl, Nat.le_refl _, fun _ _ => rfl⟩
set_option maxRecDepth 100000 in
set_option maxHeartbeats 8000000 in
theorem i_holds (D : Dc) (n b off cap : Nat) (L : List Ky) (np : Nat) (B : Nat) (pa : Option Addr) (pc : Nat) (Ps : List Pl) (i : Nat) (w : World) (hD : D.n = n) (hdk : docokB D = true) (hK : KeysP L) (hL : L.length = np) (hi : i < np) (hPO : PlO B w pa np pc Ps) (hPK : PlK L Ps np) (hPW : PlsW B w Ps) (hRf : PlRf Ps np) (hbs : b < w.heap.size) (hr : DcRow w b off D w.heap.size) :
    Calls Tryz.prog 54 #[.slice (some ⟨b, off, none⟩) n cap, .slice pa np pc, .int .i64 i] w fun e w' => (∃ V : Bool, e = .returned (.bool V) ∧ (V = true ↔ ¬ badK D L i)) ∧ Below w.heap.size w w' := by
  have hn : n ≤ 200 := by rw [← hD]; exact (docok_facts hdk).1.2
  have hnp : np ≤ 10 := by rw [← hL]; exact hK.1
  have hii : (i : Int) < (np : Int) := by omega
  obtain ⟨g, hga, hPC⟩ := plC_row hPO i hi
  have q2 := hPC.2 2 (by decide)
  have hki := hPK i hi
  obtain ⟨on, hon⟩ : ∃ on, (kyA L i).on = on := ⟨_, rfl⟩
  have Q2 : Hid (∀ w3, Below w.heap.size w w3 → w3.cell? ⟨g, i * 10 + 2, none⟩ = some (.string on)) := hide (fun w3 h3 => (h3.cell (p := ⟨g, i * 10 + 2, none⟩) hPC.1).trans (q2.trans (by unfold plV; simp; rw [hki]; exact hon)))
  have CH : Hid (∀ (x : Nat) (w3 : World), x < n → Below w.heap.size w w3 → Calls Tryz.prog 85 #[.slice (some ⟨b, off, none⟩) n cap, .slice pa np pc, .int .i64 i, .int .i64 x] w3 fun e w' => (∃ V : Bool, e = .returned (.bool V) ∧ (V = true ↔ ¬ brk D L x i)) ∧ Below w3.heap.size w3 w') := hide (fun x w3 hx h3 => i_holdsAt D n b off cap L np B pa pc Ps i x w3 hD hdk hx hK hL hi ⟨hPO.1, gOwn_after hPO.2 h3⟩ hPK (pls_go hPW h3) hRf (Nat.lt_of_lt_of_le hbs h3.size) (dcRow_up (dcRow_go hr hbs h3) h3.size))
  have HR := hide hr
  have HD := hide hD
  have HON := hide hon
  subst hga
  clear hPO hPK hPW hRf hr hD hdk hK hL hki hPC q2 hon
  go_enter Tryz.func54, Tryz.ntmps54
  go_wp2
  go_loopw [11] (fun iv wr => ∃ x : Nat, x ≤ n ∧ iv = .int .i64 x ∧ Hid (∀ y, y < x → D.NM y = on → ¬ brk D L y i) ∧ Hid (Below w.heap.size w wr)) (fun iv _ => n - (intOf iv).toNat)
  case atStart => exact ⟨0, Nat.zero_le _, rfl, hide (fun y h => by omega), hide (Below.refl _ _)⟩
  case round =>
    obtain ⟨x, hxn, rfl, HA, HB⟩ := hrel
    obtain ⟨WR, rfl⟩ : ∃ WR, WR = wr := ⟨_, rfl⟩
    by_cases hlt : x < n
    · have hxi : (x : Int) < (n : Int) := by omega
      obtain ⟨ad, cp, hc, -, -⟩ := HR.out x (by rw [HD.out]; exact hlt)
      obtain ⟨c0, c1, c2, c3⟩ := dcCells_go hc hbs HB.out
      obtain ⟨U, hU⟩ : ∃ U, D.U x = U := ⟨_, rfl⟩
      obtain ⟨NM, hNM⟩ : ∃ NM, D.NM x = NM := ⟨_, rfl⟩
      obtain ⟨TX, hTX⟩ : ∃ TX, D.TX x = TX := ⟨_, rfl⟩
      obtain ⟨AC, hAC⟩ : ∃ AC, D.AC x = AC := ⟨_, rfl⟩
      rw [hU] at c0
      rw [hNM] at c1
      rw [hTX] at c2
      rw [hAC] at c3
      have HNM := hide hNM
      have HW1 : Hid (∀ o, Below w.heap.size w (WR.alloc o)) := hide (fun o => HB.out.alloc HB.out.size o)
      have k2 := fun o => Q2.out (WR.alloc o) (HW1.out o)
      have hgW : g < WR.heap.size ∨ True := .inr trivial
      clear hc hU hNM hTX hAC hgW
      cases he : (NM.toList == on.toList)
      · have HA2 : Hid (∀ y, y < x + 1 → D.NM y = on → ¬ brk D L y i) := hide (fun y hy hn => by
          by_cases e : y = x
          · subst e; rw [HNM.out] at hn; exact absurd hn (ba_ne he)
          · exact HA.out y (by omega) hn)
        go_wp2
        go_quiet (fail)
        go_wp2
        go_roundw
        case rel => exact ⟨x + 1, by omega, by go_num, HA2, hide (br_drewN (HW1.out _) _)⟩
        case measure => simp [intOf]; omega
      · have HNO := hide (HNM.out.trans ((ba_eq _ _).1 he))
        have CH2 := hide (fun w3 h3 => CH.out x w3 hlt h3)
        go_upto_region 4 with fail
        go_cut [32] (fun vv wx => ∃ V : Bool, vv = .bool (!V) ∧ Hid (V = true ↔ ¬ brk D L x i) ∧ Hid (Below w.heap.size w wx))
        case first =>
          go_region_with (go_at_call 85; refine (CH2.out _ (br_drew (HW1.out _))).mono ?_; rintro e w5 ⟨⟨V, rfl, hV⟩, hb5⟩; have HV := hide hV; have HB5 : Hid (Below w.heap.size w w5) := hide ((br_drew (HW1.out _)).trans (hb5.mono (br_drew (HW1.out _)).size)); clear hV hb5)
          all_goals
            go_wp2
            go_meet
            exact ⟨V, rfl, HV, HB5⟩
        case rest =>
          obtain ⟨V, rfl, HV, HB5⟩ := hcut
          cases V
          · have HBR : Hid (badK D L i) := hide ⟨x, by rw [HD.out]; exact hlt, by rw [HON.out]; exact HNO.out, Classical.byContradiction (fun h => by have h9 := HV.out.2 h; cases h9)⟩
            go_wp2
            go_ret
            exact ⟨⟨false, rfl, ⟨fun h => (by cases h), fun h => absurd HBR.out h⟩⟩, HB5.out⟩
          · have HA2 : Hid (∀ y, y < x + 1 → D.NM y = on → ¬ brk D L y i) := hide (fun y hy hn => by
              by_cases e : y = x
              · subst e; exact HV.out.1 rfl
              · exact HA.out y (by omega) hn)
            go_wp2
            go_roundw
            case rel => exact ⟨x + 1, by omega, by go_num, HA2, HB5⟩
            case measure => simp [intOf]; omega
    · have hxe : x = n := by omega
      subst hxe
      go_wp2
      go_ret
      exact ⟨⟨true, rfl, ⟨fun _ => fun ⟨y, h1, h2, h3⟩ => HA.out y (by rw [← HD.out]; exact h1) (by rw [h2, HON.out]) h3, fun _ => rfl⟩⟩, HB.out⟩
end Go.Proofs.YtfbahffljhnjbaaGreatDoor

/-
  Contract of the program: Breaches.
-/
namespace Go.Proofs.YtfbahffljhnjbaaGreatDoor
open Go.RowKit Go.Joins Go.Maps
set_option linter.unusedVariables false
set_option linter.unusedSimpArgs false
set_option maxRecDepth 100000 in
set_option maxHeartbeats 8000000 in
theorem i_breaches (D : Dc) (n : Nat) (a : Option Addr) (cap : Nat) (K : List Ky) (kn : Nat) (ka : Option Addr) (kc : Nat) (w : World) (hD : D.n = n) (hz : dcTot D ≤ 1048576) (hL : K.length = kn) (hf : KyFewI K) (hr : DcAt w a D w.heap.size) (hkr : KyAt w ka K w.heap.size) (hT : Tabs w) (hM : MaxL w) :
    Calls Tryz.prog 24 #[.slice a n cap, .slice ka kn kc] w fun e w' => ∃ ad c, e = .returned (.slice ad (brV D K).length c) ∧ IntR w.heap.size w' ad c (brV D K) ∧ Below w.heap.size w w' := by
  obtain ⟨i0, hi, hz0, hz1, hz2⟩ := info_parts info64
  have CP := hide (i_plans2 K kn ka kc w hL hf hkr hM)
  have CD := hide (fun (w2 : World) (hb : Below w.heap.size w w2) => i_docok D n a cap w2 hD hz (dcAt_up (dcAt_go hr hb) hb.size) (tabs_below hT hb))
  have HR := hide hr
  have HD := hide hD
  have HL := hide hL
  clear hr hD hL hkr hT hM hf hz
  go_enter Tryz.func24, Tryz.ntmps24
  go_wp2_with fail
  refine CP.out.mono ?_
  rintro e w2 ⟨hb2, hans⟩
  have HB2 := hide hb2
  have hs2 : w.heap.size ≤ w2.heap.size := hb2.size
  clear hb2 CP
  rcases hans with ⟨hK, pa, pc, Ps, rfl, hPO, hPK, hPW, hPR⟩ | ⟨hK, rfl⟩
  · have hkn : kn ≤ 10 := by rw [← HL.out]; exact hK.1
    have HK := hide hK
    have HPO := hide hPO
    have HPK := hide hPK
    have HPW := hide hPW
    have HPR := hide hPR
    clear hK hPO hPK hPW hPR
    cases hd : docokB D
    · have HV := hide (brV_no (D := D) (L := K) (fun h => by rw [hd] at h; exact absurd h.1 (by decide)))
      rw [hd] at CD
      go_wp2_with (go_at_call 53; refine (CD.out _ HB2.out).mono ?_; rintro e w3 ⟨rfl, hb3⟩; have HB3 := hide (HB2.out.trans (hb3.mono HB2.out.size)); clear hb3)
      go_ret
      rw [HV.out]
      exact ⟨none, 0, rfl, intR_nil _ _, HB3.out⟩
    · rw [hd] at CD
      have hdn := (docok_facts hd).1
      obtain ⟨b, off, rfl, hbs, hrow⟩ := HR.out (by omega)
      have HV := hide (brV_yes hd HK.out)
      have HH : Hid (∀ (i : Nat) (w9 : World), i < kn → Below w.heap.size w w9 → Below w2.heap.size w2 w9 → Calls Tryz.prog 54 #[.slice (some ⟨b, off, none⟩) n cap, .slice pa kn pc, .int .i64 i] w9 fun e w' => (∃ V : Bool, e = .returned (.bool V) ∧ (V = true ↔ ¬ badK D K i)) ∧ Below w9.heap.size w9 w') := hide (fun i w9 hi h1 h2 => i_holds D n b off cap K kn w.heap.size pa pc Ps i w9 HD.out hd HK.out HL.out hi ⟨HPO.out.1, gOwn_after HPO.out.2 h2⟩ HPK.out (pls_go HPW.out h2) HPR.out (Nat.lt_of_lt_of_le hbs h1.size) (dcRow_up (dcRow_go hrow hbs h1) h1.size))
      clear hdn hrow hd
      go_wp2_with (go_at_call 53; refine (CD.out _ HB2.out).mono ?_; rintro e w3 ⟨rfl, hb3⟩; have HB3 := hide (HB2.out.trans (hb3.mono HB2.out.size)); have HC3 := hide hb3; clear hb3)
      go_loopw [7, 23] (fun pv iv wr => ∃ (i L c8 : Nat) (a8 : Option Addr), i ≤ kn ∧ iv = .int .i64 i ∧ pv = .slice a8 L c8 ∧ L ≤ i ∧ Hid ((brL D K i).length = L) ∧ Hid (IntR w2.heap.size wr a8 c8 (brL D K i)) ∧ Hid (Below w2.heap.size w2 wr)) (fun _ iv _ => kn - (intOf iv).toNat)
      case atStart => exact ⟨0, 0, 0, none, Nat.zero_le _, rfl, rfl, Nat.le_refl _, hide rfl, hide (intR_nil _ _), HC3⟩
      case round =>
        obtain ⟨i, L, c8, a8, hik, rfl, rfl, hLi, HLL, HO, HC⟩ := hrel
        obtain ⟨WR, rfl⟩ : ∃ WR, WR = wr := ⟨_, rfl⟩
        have HB := hide (HB2.out.trans (HC.out.mono hs2))
        by_cases hlt : i < kn
        · have hci : (i : Int) < (kn : Int) := by omega
          have CH := hide (HH.out i WR hlt HB.out HC.out)
          go_wp2_with fail
          refine CH.out.mono ?_
          rintro e w4 ⟨⟨V, rfl, hV⟩, hb4⟩
          have HB4 := hide (HB.out.trans (hb4.mono HB.out.size))
          have HC4 := hide (HC.out.trans (hb4.mono HC.out.size))
          have hs4 : w2.heap.size ≤ w4.heap.size := HC4.out.size
          have hown4 : w4.ownsRow w2.heap.size 2 1 (.slice a8 L c8) L ((brL D K i).map (Value.int .i64)) := by
            have h9 := gOwn_after HO.out hb4
            rw [HLL.out] at h9
            exact h9
          have HO4 := hide hown4
          clear hb4 hown4
          cases V
          · have HL1 := hide (br_yes (D := D) (L := K) (i := i) (Classical.byContradiction (fun h => by have h9 := hV.2 h; cases h9)))
            clear hV
            go_wp2_with (at_builtin; refine wpList_append_own _ rfl (.tmp 31) (.tmp 33) 47 rfl w2.heap.size 2 i0 (.int .i64 0) 1 8 Tryz.underlying47 hi hz0 hz1 hz2 rfl (by decide) _ _ _ rfl (HO4.out.alloc _) ⟨w4.heap.size, 0, none⟩ 1 1 [.int .i64 (i : Int)] rfl rfl (fun j u hj => gOne_new w4 _ _ j u hj) (gOne_list _ _) (by unfold maxLen; omega) (by omega) (by simp; omega) ?_; intro v2 w7 hown2 hgrow2 _; obtain ⟨ad2, c2', hv2⟩ := gOwn_shape hown2; rw [hv2] at hown2 ⊢; clear hv2; have HC7 := hide (gBelow_one HC4.out HO4.out hgrow2); have HO7 := hide hown2; clear hown2 hgrow2)
            go_roundw
            case rel =>
              refine ⟨i + 1, L + 1, c2', ad2, by omega, by go_num, rfl, by omega, hide (by rw [HL1.out, List.length_append, HLL.out]; rfl), hide ?_, HC7⟩
              rw [HL1.out]
              unfold IntR
              rw [List.length_append, HLL.out, List.map_append]
              exact HO7.out
            case measure => simp [intOf]; omega
          · have HL1 := hide (br_no (D := D) (L := K) (i := i) (hV.1 rfl))
            clear hV
            go_wp2
            go_roundw
            case rel => exact ⟨i + 1, L, c8, a8, by omega, by go_num, rfl, by omega, hide (by rw [HL1.out]; exact HLL.out), hide (by rw [HL1.out]; unfold IntR; rw [HLL.out]; exact HO4.out), HC4⟩
            case measure => simp [intOf]; omega
        · have hie : i = kn := by omega
          subst hie
          go_wp2
          go_ret
          rw [HV.out, HL.out]
          rw [HLL.out]
          exact ⟨a8, c8, rfl, gOwn_lower HO.out hs2, HB.out⟩
  · have HV := hide (brV_no (D := D) (L := K) (fun h => hK h.2))
    clear hK
    go_wp2
    go_ret
    rw [HV.out]
    exact ⟨none, 0, rfl, intR_nil _ _, HB2.out⟩
end Go.Proofs.YtfbahffljhnjbaaGreatDoor
