/-
  Contract: the set of places behind a character.
-/
import Derived.Test.YtepommmmmfaihaaDoorC13
import Derived.Deep.RegionHeld3
namespace Go.Proofs.YtepommmmmfaihaaDoor
open Go.RowKit Go.Joins Go.Maps
set_option linter.unusedVariables false
set_option linter.unusedSimpArgs false
theorem run_makeHint (k : Int) (w : World) : (Instr.makeMap 59 (some (.int .i64 k))).run Tryd.prog w = .ok (.map (some w.heap.size)) (w.alloc (.map #[] 0)) := by kernel_rfl
/-- What has been met so far. -/
def AfS (M : List Sp) (d : Nat → Bool) (S : Nat → Bool) (left : Lit → Bool) (T : Nat → Bool) : Prop := ∀ x, T x = true ↔ ∃ p s, S p = true ∧ left (.int .i64 (p : Nat)) = false ∧ M[p]? = some s ∧ s.fk = false ∧ d s.cs = true ∧ Rch M s.nx x
section
variable {M : List Sp} {d : Nat → Bool} {S : Nat → Bool} {left : Lit → Bool} {T T' : Nat → Bool} {q : Nat} {s : Sp}
theorem strike_at (left : Lit → Bool) (q p : Nat) : ((fun z : Lit => left z && !z.sameKey (.int .i64 (q : Int))) (.int .i64 (p : Int)) = false) ↔ left (.int .i64 (p : Int)) = false ∨ p = q := by
  show (left _ && !(Lit.int .i64 (p : Int)).sameKey (.int .i64 (q : Int))) = false ↔ _
  have e : (Lit.int .i64 (p : Int)).sameKey (.int .i64 (q : Int)) = decide (p = q) := by
    by_cases h : p = q
    · subst h; simp [Lit.sameKey]
    · have h2 : (p : Int) ≠ (q : Int) := by omega
      simp [Lit.sameKey, h, h2]
  rw [e]
  cases left (.int .i64 (p : Int)) <;> simp
theorem afs_skip (h : AfS M d S left T) (hs : M[q]? = some s) (hn : ¬ (s.fk = false ∧ d s.cs = true)) : AfS M d S (fun z => left z && !z.sameKey (.int .i64 (q : Int))) T := fun x => by
  rw [h x]
  constructor
  · rintro ⟨p, u, h1, h2, h3⟩
    exact ⟨p, u, h1, (strike_at left q p).2 (.inl h2), h3⟩
  · rintro ⟨p, u, h1, h2, h3, h4, h5, h6⟩
    rcases (strike_at left q p).1 h2 with h2 | rfl
    · exact ⟨p, u, h1, h2, h3, h4, h5, h6⟩
    · rw [hs] at h3; cases h3
      exact absurd ⟨h4, h5⟩ hn
theorem afs_put (h : AfS M d S left T) (hS : S q = true) (hs : M[q]? = some s) (h4 : s.fk = false) (h5 : d s.cs = true) (hT : ∀ x, T' x = true ↔ T x = true ∨ Rch M s.nx x) : AfS M d S (fun z => left z && !z.sameKey (.int .i64 (q : Int))) T' := fun x => by
  rw [hT x, h x]
  constructor
  · rintro (⟨p, u, h1, h2, h3⟩ | hr)
    · exact ⟨p, u, h1, (strike_at left q p).2 (.inl h2), h3⟩
    · exact ⟨q, s, hS, (strike_at left q q).2 (.inr rfl), hs, h4, h5, hr⟩
  · rintro ⟨p, u, h1, h2, h3, h4', h5', h6⟩
    rcases (strike_at left q p).1 h2 with h2 | rfl
    · exact .inl ⟨p, u, h1, h2, h3, h4', h5', h6⟩
    · rw [hs] at h3; cases h3
      exact .inr h6
theorem afs_start {D : DataW Unit} (hh : ∀ p : Nat, Maps.has D (.int .i64 (p : Int)) = S p) : AfS M d S (Maps.has D) (fun _ => false) := fun x => by
  constructor
  · intro h; cases h
  · rintro ⟨p, s, h1, h2, -⟩
    rw [hh p, h1] at h2; cases h2
theorem afs_end (h : AfS M d S left T) (hl : ∀ kl, left kl = false) : Aft M d S T := fun x => by
  rw [h x]
  constructor
  · rintro ⟨p, s, h1, h2, h3⟩; exact ⟨p, s, h1, h3⟩
  · rintro ⟨p, s, h1, h3⟩; exact ⟨p, s, h1, hl _, h3⟩
end
theorem kp_blM {w w' : World} (h : Below w.heap.size w w') (S : Nat → Prop) : Kp S w w' := ⟨h.os, h.tape, h.output, h.size, fun j hj _ => h.block j hj⟩
def dX (X : Rx) (ch : Int) (n : Nat) : Bool := inC (X.NT n) (X.NR n) (X.L n) (X.H n) ch
def AfA (X : Rx) (M : List Sp) (K : Nat) (ch : Int) (S : Nat → Bool) (w : World) (e : Ending) (w' : World) : Prop := ∃ T, e = .returned (.map (some w.heap.size)) ∧ PS w' w.heap.size T K ∧ Clo M T ∧ Aft M (dX X ch) S T ∧ Below w.heap.size w w'
set_option maxRecDepth 100000 in
set_option maxHeartbeats 8000000 in
theorem i_after (X : Rx) (len : Nat) (hX : X.len = len) (hlen : len ≤ 120) (hnr : ∀ j, j < len → X.NR j ≤ maxLen) (b0 off cap B R : Nat) (v2 v3 : Value) (M : List Sp) (K b : Nat) (ch : Int) (hM : M.length = K) (hK4 : K ≤ 400000) (hW : Wf X M) (S : Nat → Bool) (w : World) (hr : RxRow w b0 off X B) (hb0 : b0 < B) (h : MA B w R (.slice (some ⟨b0, off, none⟩) len cap) v2 v3 M) (hps : PS w b S K) :
    Calls Tryd.prog 40 #[.pointer (some ⟨R, 0, none⟩), .map (some b), .int .i64 ch] w (AfA X M K ch S w) := by
  have hb := ps_lt hps
  obtain ⟨n, D, hown, hn, hmap, hh, hSK⟩ := hps
  have HHas := hide (ps_has hh)
  have HH := hide hh
  have HSK := hide hSK
  have HM := hide h
  have HR := hide hr
  have hB := (ma_lt h).1
  have HW := hide hW
  have HML := hide hM
  have HXL := hide hX
  have HNR := hide hnr
  have HOW := hide hown
  have hmm := run_makeHint
  have e1 : (w.alloc (.map #[] 0)).heap.size = w.heap.size + 1 := by simp
  have HPS0 := hide (ps_made (K := K) (World.ownsMap_made (H := Unit) w Tryd.prog 2 unitElem))
  clear hW hown hmap hh hSK h hM hr hX hnr
  go_enter Tryd.func40, Tryd.ntmps40
  go_wp2_with (first
    | (at_len; refine wpList_len_own _ rfl _ 59 rfl 2 79 Tryd.underlying59 _ b n D rfl HOW.out ?_)
    | (at_range; refine wpList_range_own _ rfl _ 59 rfl 2 79 lawI Tryd.underlying59 _ b n _ rfl (HOW.out.alloc _) ?_; intro w0 hrg0 hg0 hs0))
  go_frame
  rw [e1] at hrg0 hs0 ⊢
  clear hmm
  go_loopw [8] (fun _ wr => ∃ (left : Lit → Bool) (cnt : Nat) (T : Nat → Bool), Hid (wr.ranges (H := Unit) Tryd.prog 2 unitElem b (w.heap.size + 1) n D left cnt) ∧ Hid (PS wr w.heap.size T K) ∧ Hid (Clo M T) ∧ Hid (AfS M (dX X ch) S left T) ∧ Hid (∀ z, left z = true → Maps.has D z = true) ∧ Hid (Below w.heap.size w wr))
    (fun _ wr => wr.rangeLeft b (w.heap.size + 1))
  case atStart =>
    refine ⟨_, _, fun _ => false, hide hrg0, hide (ps_kp HPS0.out (kp_grown (S := fun _ => False) hg0 (fun k hk => by cases hk)) (fun e => e)), hide (clo_none M), hide (afs_start HHas.out), hide (fun z h => h), hide (((Below.refl _ _).alloc (Nat.le_refl _) _).grown hg0 (by simp) (fun j hj => by cases hj))⟩
  case round =>
    obtain ⟨left, cnt, T, Hrg, HP, HC, HA, HL, HB⟩ := hrel
    go_wp2_with (first
      | (at_next; refine wpList_next_ranges (β := Unit) _ rfl _ rfl 2 lawI unitElem (Value.int .i64) (fun _ => Value.agg #[]) (fun key kl hkey => by obtain ⟨x, rfl, _⟩ := Maps.keyOf_int_inv Tryd.underlying2 hkey; exact ⟨x, rfl⟩) (fun v y hv => by obtain ⟨rfl, -⟩ := unitElem_inv hv; exact ⟨(), rfl⟩) b (w.heap.size + 1) n _ _ _ rfl Hrg.out ?_ ?_))
    · intro hc0 hl0
      go_wp2
      go_ret
      exact ⟨T, rfl, HP.out, HC.out, afs_end HA.out hl0, HB.out⟩
    · intro x c kl y w1 cnt1 hkey hlk hv hat hrg1 hlt hg1 hs1 hen
      obtain ⟨x', ex, ekl, -⟩ := Maps.keyOf_int_inv Tryd.underlying2 hkey
      cases ex
      subst ekl
      obtain ⟨q, rfl, hSq⟩ := (HH.out x).1 (HL.out _ hlk)
      have hqK := HSK.out q hSq
      have hB1 := HB.out.grown hg1 HB.out.size (fun j hj => by cases hj; exact Nat.le_succ _)
      have HB1 := hide hB1
      have HP1 := hide (ps_kp HP.out (kp_grown (S := fun j => j = w.heap.size + 1) hg1 (fun k hk => (Option.some.inj hk).symm)) (fun e => by have e' : w.heap.size = w.heap.size + 1 := e; omega))
      have HM1 := hide (ma_go HM.out hB1)
      have HR1 := hide (rxRow_go HR.out hb0 (hB1.mono hB))
      have hsz1 := hB1.size
      obtain ⟨sa, sc, q0, q1, q2, q3, ha⟩ := ma_at HM1.out
      rw [HML.out] at q1
      obtain ⟨s, hs⟩ : ∃ s, M[q]? = some s := ⟨_, List.getElem?_eq_getElem (by rw [HML.out]; exact hqK)⟩
      obtain ⟨g, rfl, hg, s0, s1, s2, s3⟩ := ha q _ hs
      obtain ⟨w1', w2', w3'⟩ := HW.out q s hs
      obtain ⟨fk, cs, nx, ot⟩ := s
      simp only at s0 s1 s2 s3 w1' w2' w3'
      have HS := hide hs
      have HRG := hide hrg1
      have HG1 := hide hg1
      have HSQ := hide hSq
      have hi : (q : Int) < (K : Int) := by omega
      have hi0 : (0 : Int) ≤ (q : Int) := by omega
      have HHE := hen
      clear hkey hat hv hrg1 hg1 hs hSq ha hB1 hlk hs1
      cases fk
      · have hcs := w3' rfl
        rw [HXL.out] at hcs
        obtain ⟨ad, cp, hc, hrg⟩ := HR1.out cs (by rw [HXL.out]; exact hcs.1)
        have HRg := hide hrg
        have hici : (cs : Int) < (len : Int) := by omega
        have hici0 : (0 : Int) ≤ (cs : Int) := by omega
        have bA := hide ((Below.refl w1.heap.size w1).alloc (Nat.le_refl _) (.cells #[.bool false, .int .i64 cs, .int .i64 nx, .int .i64 ot] 97))
        have HX1 := hide (sx_new w1 false cs nx ot)
        have HMW := hide (ma_go HM1.out bA.out)
        have HPW := hide (ps_kp HP1.out (kp_blM bA.out (fun _ => False)) (fun e => e))
        have hWd : ∃ W, (w1.alloc (.cells #[.bool false, .int .i64 cs, .int .i64 nx, .int .i64 ot] 97)) = W := ⟨_, rfl⟩
        obtain ⟨W, hWd⟩ := hWd
        rw [hWd] at bA HX1 HMW HPW
        have hbW : b0 < W.heap.size := Nat.lt_of_lt_of_le hb0 (Nat.le_trans (Nat.le_trans hB hsz1) bA.out.size)
        have HcW := hide (rxCells_go hc (Nat.lt_of_lt_of_le hb0 (Nat.le_trans hB hsz1)) bA.out)
        have HRW := hide (rngAt_up (rngAt_go (rngAt_up HRg.out (Nat.le_trans hB hsz1)) bA.out) bA.out.size)
        obtain ⟨G1, hG1⟩ : ∃ G1, w1.heap.size = G1 := ⟨_, rfl⟩
        have HG1e := hide hG1
        rw [hG1] at HX1
        have HKS : Hid (∀ W9, Below W.heap.size W W9 → Below W.heap.size W W9 ∧ W9.cell? ⟨R, 0, none⟩ = some (.slice (some ⟨b0, off, none⟩) len cap) ∧ W9.cell? ⟨G1, 0, none⟩ = some (.bool false) ∧ W9.cell? ⟨G1, 1, none⟩ = some (.int .i64 cs) ∧ W9.cell? ⟨b0, off + cs * 7, none⟩ = some (.int .i64 (X.K cs)) ∧ W9.cell? ⟨b0, off + cs * 7 + 1, none⟩ = some (.bool (X.NT cs)) ∧ W9.cell? ⟨b0, off + cs * 7 + 2, none⟩ = some (.slice ad (X.NR cs) cp) ∧ W9.cell? ⟨b0, off + cs * 7 + 3, none⟩ = some (.int .i64 (X.A cs)) ∧ W9.cell? ⟨b0, off + cs * 7 + 4, none⟩ = some (.int .i64 (X.B cs)) ∧ W9.cell? ⟨b0, off + cs * 7 + 5, none⟩ = some (.int .i64 (X.MN cs)) ∧ W9.cell? ⟨b0, off + cs * 7 + 6, none⟩ = some (.int .i64 (X.MX cs))) := hide (fun W9 h9 => by
          obtain ⟨_, _, z0, -⟩ := ma_at (ma_go HMW.out h9)
          obtain ⟨y0, y1, -⟩ := sx_cellsM (sx_kp HX1.out (kp_blM h9 (fun _ => False)) (fun e => e))
          obtain ⟨c0, c1, c2, c3, c4, c5, c6⟩ := rxCells_go HcW.out hbW h9
          exact ⟨h9, z0, y0, y1, c0, c1, c2, c3, c4, c5, c6⟩)
        have CI : Hid (∀ W9, Below W.heap.size W W9 → Calls Tryd.prog 55 #[.agg #[.int .i64 (X.K cs), .bool (X.NT cs), .slice ad (X.NR cs) cp, .int .i64 (X.A cs), .int .i64 (X.B cs), .int .i64 (X.MN cs), .int .i64 (X.MX cs)], .int .i64 ch] W9 fun e w' => e = .returned (.bool (dX X ch cs)) ∧ Below W9.heap.size W9 w') := hide (fun W9 h9 => i_inC (X.K cs) (X.NT cs) ad (X.NR cs) cp (X.A cs) (X.B cs) (X.MN cs) (X.MX cs) (X.L cs) (X.H cs) ch W9 (HNR.out cs hcs.1) (rngAt_up (rngAt_go HRW.out h9) h9.size))
        have XX : Hid (Below W.heap.size W W.drew) := hide ⟨rfl, rfl, rfl, Nat.le_refl _, fun _ _ => rfl⟩
        obtain ⟨kk, hkk⟩ : ∃ kk, X.K cs = kk := ⟨_, rfl⟩
        clear hkk
        have hcs1 := hcs.1
        clear hc hrg w3' hcs
        obtain ⟨dv, hd⟩ : ∃ dv, dX X ch cs = dv := ⟨_, rfl⟩
        rw [hd] at CI
        have HD := hide hd
        clear hd
        go_wp2_with fail
        try rw [hWd]
        try rw [hG1]
        clear hWd hG1
        go_cut [40] (fun v wx => v = .bool dv ∧ Hid (Below W.heap.size W wx))
        case first =>
          go_region_held3 (fun W9 => Below W.heap.size W W9 ∧ W9.cell? ⟨R, 0, none⟩ = some (.slice (some ⟨b0, off, none⟩) len cap) ∧ W9.cell? ⟨G1, 0, none⟩ = some (.bool false) ∧ W9.cell? ⟨G1, 1, none⟩ = some (.int .i64 cs) ∧ W9.cell? ⟨b0, off + cs * 7, none⟩ = some (.int .i64 (X.K cs)) ∧ W9.cell? ⟨b0, off + cs * 7 + 1, none⟩ = some (.bool (X.NT cs)) ∧ W9.cell? ⟨b0, off + cs * 7 + 2, none⟩ = some (.slice ad (X.NR cs) cp) ∧ W9.cell? ⟨b0, off + cs * 7 + 3, none⟩ = some (.int .i64 (X.A cs)) ∧ W9.cell? ⟨b0, off + cs * 7 + 4, none⟩ = some (.int .i64 (X.B cs)) ∧ W9.cell? ⟨b0, off + cs * 7 + 5, none⟩ = some (.int .i64 (X.MN cs)) ∧ W9.cell? ⟨b0, off + cs * 7 + 6, none⟩ = some (.int .i64 (X.MX cs))) (first | assumption | exact HKS.out _ XX.out) (first | (go_at_call 55; refine (CI.out _ XX.out).mono ?_; rintro e w9 ⟨rfl, hb9⟩; have X2 := hide (XX.out.trans (hb9.mono XX.out.size)); replace XX := X2; clear X2 hb9))
          all_goals
            go_wp2
            go_meet
            exact ⟨rfl, XX⟩
        case rest =>
          obtain ⟨rfl, HB2⟩ := hcut
          clear XX
          rename World => w2
          have HM2 := hide (ma_go HMW.out HB2.out)
          have HP2 := hide (ps_kp HPW.out (kp_blM HB2.out (fun _ => False)) (fun e => e))
          obtain ⟨b0', b1', b2', b3'⟩ := sx_cellsM (sx_kp HX1.out (kp_blM HB2.out (fun _ => False)) (fun e => e))
          have HK12 := hide ((kp_blM bA.out (fun j => j = w.heap.size)).trans (kp_blM HB2.out (fun j => j = w.heap.size)) (fun _ _ e => e))
          have hbne : b ≠ w.heap.size := by omega
          have HBN := hide hbne
          clear hbne
          cases dv
          · go_wp2
            have HRG3 := HRG.out.kept (kp_grownBy HK12.out (fun j e => e)) (fun e => HBN.out (Option.some.inj e)) (fun e => by have := Option.some.inj e; omega)
            go_roundw
            case rel => exact ⟨_, cnt1, T, hide HRG3, HP2, HC, hide (afs_skip HA.out HS.out (fun e => by rw [HD.out] at e; cases e.2)), hide (fun z hz => HL.out z (by simp only [Bool.and_eq_true] at hz; exact hz.1)), hide (HB1.out.trans (kp_below HK12.out HB1.out.size (fun j e => by have e' : j = w.heap.size := e; omega)))⟩
            case measure => rw [HRG3.left_eq, Hrg.out.left_eq]; exact hlt
          · have CR := hide (i_reach X B R (.slice (some ⟨b0, off, none⟩) len cap) v2 v3 M K w.heap.size HML.out hK4 HW.out (nf T K + 1) T nx w2 (by omega) (by rw [HML.out] at w1'; exact w1') HM2.out HP2.out)
            go_wp2_with (go_at_call 38; refine CR.out.mono ?_; rintro e w4 ⟨rfl, T4, hp4, hr4, hk4⟩; have HP4 := hide hp4; have HR4 := hide (rc_clo HC.out hr4); have HK4 := hide (HK12.out.trans hk4 (fun _ _ e => e)); clear hp4 hr4 hk4)
            have HRG3 := HRG.out.kept (kp_grownBy HK4.out (fun j e => e)) (fun e => HBN.out (Option.some.inj e)) (fun e => by have := Option.some.inj e; omega)
            go_roundw
            case rel => exact ⟨_, cnt1, T4, hide HRG3, HP4, hide HR4.out.1, hide (afs_put HA.out HSQ.out HS.out rfl HD.out HR4.out.2), hide (fun z hz => HL.out z (by simp only [Bool.and_eq_true] at hz; exact hz.1)), hide (HB1.out.trans (kp_below HK4.out HB1.out.size (fun j e => by have e' : j = w.heap.size := e; omega)))⟩
            case measure => rw [HRG3.left_eq, Hrg.out.left_eq]; exact hlt
      · go_wp2_with fail
        go_big_quiet (fail)
        go_wp2
        have HK12 := hide ((kp_alloc (S := fun j => j = w.heap.size) w1 (.cells #[.bool true, .int .i64 cs, .int .i64 nx, .int .i64 ot] 97)).trans (kp_drewN (S := fun j => j = w.heap.size) _ nq) (fun _ _ e => e))
        have HK13 := hide ((kp_alloc (S := fun _ => False) w1 (.cells #[.bool true, .int .i64 cs, .int .i64 nx, .int .i64 ot] 97)).trans (kp_drewN (S := fun _ => False) _ nq) (fun _ _ e => e))
        have hbne : b ≠ w.heap.size := by omega
        have HRG3 := HRG.out.kept (kp_grownBy HK12.out (fun j e => e)) (fun e => hbne (Option.some.inj e)) (fun e => by have := Option.some.inj e; omega)
        go_roundw
        case rel => exact ⟨_, cnt1, T, hide HRG3, hide (ps_kp HP1.out HK13.out (fun e => e)), HC, hide (afs_skip HA.out HS.out (fun e => by cases e.1)), hide (fun z hz => HL.out z (by simp only [Bool.and_eq_true] at hz; exact hz.1)), hide (HB1.out.trans (kp_below HK12.out HB1.out.size (fun j e => by have e' : j = w.heap.size := e; omega)))⟩
        case measure => rw [HRG3.left_eq, Hrg.out.left_eq]; exact hlt
end Go.Proofs.YtepommmmmfaihaaDoor
