/-
  Texts put together: MaH, MaI.
-/
import Derived.Test.YtepommmmmfaihaaGreatDoorB24
import Derived.Deep.RegionHeld3
import Derived.Test.YtepommmmmfaihaaGreatDoorB17
/-
  Contract: the set of places behind a character.
-/
namespace Go.Proofs.YtepommmmmfaihaaGreatDoor
open Go.RowKit Go.Joins Go.Maps
set_option linter.unusedVariables false
set_option linter.unusedSimpArgs false
theorem run_makeHint (k : Int) (w : World) : (Instr.makeMap 47 (some (.int .i64 k))).run Tryz.prog w = .ok (.map (some w.heap.size)) (w.alloc (.map #[] 0)) := by kernel_rfl
/-- What has been met so far. -/
def AfS (M : List Sp) (d : Nat → Bool) (S : Nat → Bool) (left : Lit → Bool) (T : Nat → Bool) : Prop := ∀ x, T x = true ↔ ∃ p s, S p = true ∧ left (.int .i64 (p : Nat)) = false ∧ M[p]? = some s ∧ s.fk = false ∧ d s.cs = true ∧ Rch M s.nx x
section
variable {M : List Sp} {d : Nat → Bool} {S : Nat → Bool} {left : Lit → Bool} {T T' : Nat → Bool} {q : Nat} {s : Sp}
theorem strike_at (left : Lit → Bool) (q p : Nat) : ((fun z : Lit => left z && !z.sameKey (.int .i64 (q : Int))) (.int .i64 (p : Int)) = false) ↔ left (.int .i64 (p : Int)) = false ∨ p = q := by
  show (left _ && !(Lit.int .i64 (p : Int)).sameKey (.int .i64 (q : Int))) = false ↔ _
  have e : (Lit.int .i64 (p : Int)).sameKey (.int .i64 (q : Int)) = decide (p = q) := by
    by_cases h : p = q
    · subst h; simp [Lit.sameKey]
    · have h2 : (p : Int) ≠ (q : Int) := by omega
      simp [Lit.sameKey, h, h2]
  rw [e]
  cases left (.int .i64 (p : Int)) <;> simp
theorem afs_skip (h : AfS M d S left T) (hs : M[q]? = some s) (hn : ¬ (s.fk = false ∧ d s.cs = true)) : AfS M d S (fun z => left z && !z.sameKey (.int .i64 (q : Int))) T := fun x => by
  rw [h x]
  constructor
  · rintro ⟨p, u, h1, h2, h3⟩
    exact ⟨p, u, h1, (strike_at left q p).2 (.inl h2), h3⟩
  · rintro ⟨p, u, h1, h2, h3, h4, h5, h6⟩
    rcases (strike_at left q p).1 h2 with h2 | rfl
    · exact ⟨p, u, h1, h2, h3, h4, h5, h6⟩
    · rw [hs] at h3; cases h3
      exact absurd ⟨h4, h5⟩ hn
theorem afs_put (h : AfS M d S left T) (hS : S q = true) (hs : M[q]? = some s) (h4 : s.fk = false) (h5 : d s.cs = true) (hT : ∀ x, T' x = true ↔ T x = true ∨ Rch M s.nx x) : AfS M d S (fun z => left z && !z.sameKey (.int .i64 (q : Int))) T' := fun x => by
  rw [hT x, h x]
  constructor
  · rintro (⟨p, u, h1, h2, h3⟩ | hr)
    · exact ⟨p, u, h1, (strike_at left q p).2 (.inl h2), h3⟩
    · exact ⟨q, s, hS, (strike_at left q q).2 (.inr rfl), hs, h4, h5, hr⟩
  · rintro ⟨p, u, h1, h2, h3, h4', h5', h6⟩
    rcases (strike_at left q p).1 h2 with h2 | rfl
    · exact .inl ⟨p, u, h1, h2, h3, h4', h5', h6⟩
    · rw [hs] at h3; cases h3
      exact .inr h6
theorem afs_start {D : DataW Unit} (hh : ∀ p : Nat, Maps.has D (.int .i64 (p : Int)) = S p) : AfS M d S (Maps.has D) (fun _ => false) := fun x => by
  constructor
  · intro h; cases h
  · rintro ⟨p, s, h1, h2, -⟩
    rw [hh p, h1] at h2; cases h2
theorem afs_end (h : AfS M d S left T) (hl : ∀ kl, left kl = false) : Aft M d S T := fun x => by
  rw [h x]
  constructor
  · rintro ⟨p, s, h1, h2, h3⟩; exact ⟨p, s, h1, h3⟩
  · rintro ⟨p, s, h1, h3⟩; exact ⟨p, s, h1, hl _, h3⟩
end
theorem kp_blM {w w' : World} (h : Below w.heap.size w w') (S : Nat → Prop) : Kp S w w' := ⟨h.os, h.tape, h.output, h.size, fun j hj _ => h.block j hj⟩
def dX (X : Rx) (ch : Int) (n : Nat) : Bool := inC (X.NT n) (X.NR n) (X.L n) (X.H n) ch
def AfA (X : Rx) (M : List Sp) (K : Nat) (ch : Int) (S : Nat → Bool) (w : World) (e : Ending) (w' : World) : Prop := ∃ T, e = .returned (.map (some w.heap.size)) ∧ PS w' w.heap.size T K ∧ Clo M T ∧ Aft M (dX X ch) S T ∧ Below w.heap.size w w'
set_option maxRecDepth 100000 in
set_option maxHeartbeats 8000000 in
theorem i_after (X : Rx) (len : Nat) (hX : X.len = len) (hlen : len ≤ 120) (hnr : ∀ j, j < len → X.NR j ≤ maxLen) (b0 off cap B R : Nat) (v2 v3 : Value) (M : List Sp) (K b : Nat) (ch : Int) (hM : M.length = K) (hK4 : K ≤ 400000) (hW : Wf X M) (S : Nat → Bool) (w : World) (hr : RxRow w b0 off X B) (hb0 : b0 < B) (h : MA B w R (.slice (some ⟨b0, off, none⟩) len cap) v2 v3 M) (hps : PS w b S K) :
    Calls Tryz.prog 46 #[.pointer (some ⟨R, 0, none⟩), .map (some b), .int .i64 ch] w (AfA X M K ch S w) := by
  have hb := ps_lt hps
  obtain ⟨n, D, hown, hn, hmap, hh, hSK⟩ := hps
  have HHas := hide (ps_has hh)
  have HH := hide hh
  have HSK := hide hSK
  have HM := hide h
  have HR := hide hr
  have hB := (ma_lt h).1
  have HW := hide hW
  have HML := hide hM
  have HXL := hide hX
  have HNR := hide hnr
  have HOW := hide hown
  have hmm := run_makeHint
  have e1 : (w.alloc (.map #[] 0)).heap.size = w.heap.size + 1 := by simp
  have HPS0 := hide (ps_made (K := K) (World.ownsMap_made (H := Unit) w Tryz.prog 2 unitElem))
  clear hW hown hmap hh hSK h hM hr hX hnr
  go_enter Tryz.func46, Tryz.ntmps46
  go_wp2_with (first
    | (at_len; refine wpList_len_own _ rfl _ 47 rfl 2 81 Tryz.underlying47 _ b n D rfl HOW.out ?_)
    | (at_range; refine wpList_range_own _ rfl _ 47 rfl 2 81 lawI Tryz.underlying47 _ b n _ rfl (HOW.out.alloc _) ?_; intro w0 hrg0 hg0 hs0))
  go_frame
  rw [e1] at hrg0 hs0 ⊢
  clear hmm
  go_loopw [8] (fun _ wr => ∃ (left : Lit → Bool) (cnt : Nat) (T : Nat → Bool), Hid (wr.ranges (H := Unit) Tryz.prog 2 unitElem b (w.heap.size + 1) n D left cnt) ∧ Hid (PS wr w.heap.size T K) ∧ Hid (Clo M T) ∧ Hid (AfS M (dX X ch) S left T) ∧ Hid (∀ z, left z = true → Maps.has D z = true) ∧ Hid (Below w.heap.size w wr))
    (fun _ wr => wr.rangeLeft b (w.heap.size + 1))
  case atStart =>
    refine ⟨_, _, fun _ => false, hide hrg0, hide (ps_kp HPS0.out (kp_grown (S := fun _ => False) hg0 (fun k hk => by cases hk)) (fun e => e)), hide (clo_none M), hide (afs_start HHas.out), hide (fun z h => h), hide (((Below.refl _ _).alloc (Nat.le_refl _) _).grown hg0 (by simp) (fun j hj => by cases hj))⟩
  case round =>
    obtain ⟨left, cnt, T, Hrg, HP, HC, HA, HL, HB⟩ := hrel
    go_wp2_with (first
      | (at_next; refine wpList_next_ranges (β := Unit) _ rfl _ rfl 2 lawI unitElem (Value.int .i64) (fun _ => Value.agg #[]) (fun key kl hkey => by obtain ⟨x, rfl, _⟩ := Maps.keyOf_int_inv Tryz.underlying2 hkey; exact ⟨x, rfl⟩) (fun v y hv => by obtain ⟨rfl, -⟩ := unitElem_inv hv; exact ⟨(), rfl⟩) b (w.heap.size + 1) n _ _ _ rfl Hrg.out ?_ ?_))
    · intro hc0 hl0
      go_wp2
      go_ret
      exact ⟨T, rfl, HP.out, HC.out, afs_end HA.out hl0, HB.out⟩
    · intro x c kl y w1 cnt1 hkey hlk hv hat hrg1 hlt hg1 hs1 hen
      obtain ⟨x', ex, ekl, -⟩ := Maps.keyOf_int_inv Tryz.underlying2 hkey
      cases ex
      subst ekl
      obtain ⟨q, rfl, hSq⟩ := (HH.out x).1 (HL.out _ hlk)
      have hqK := HSK.out q hSq
      have hB1 := HB.out.grown hg1 HB.out.size (fun j hj => by cases hj; exact Nat.le_succ _)
      have HB1 := hide hB1
      have HP1 := hide (ps_kp HP.out (kp_grown (S := fun j => j = w.heap.size + 1) hg1 (fun k hk => (Option.some.inj hk).symm)) (fun e => by have e' : w.heap.size = w.heap.size + 1 := e; omega))
      have HM1 := hide (ma_go HM.out hB1)
      have HR1 := hide (rxRow_go HR.out hb0 (hB1.mono hB))
      have hsz1 := hB1.size
      obtain ⟨sa, sc, q0, q1, q2, q3, ha⟩ := ma_at HM1.out
      rw [HML.out] at q1
      obtain ⟨s, hs⟩ : ∃ s, M[q]? = some s := ⟨_, List.getElem?_eq_getElem (by rw [HML.out]; exact hqK)⟩
      obtain ⟨g, rfl, hg, s0, s1, s2, s3⟩ := ha q _ hs
      obtain ⟨w1', w2', w3'⟩ := HW.out q s hs
      obtain ⟨fk, cs, nx, ot⟩ := s
      simp only at s0 s1 s2 s3 w1' w2' w3'
      have HS := hide hs
      have HRG := hide hrg1
      have HG1 := hide hg1
      have HSQ := hide hSq
      have hi : (q : Int) < (K : Int) := by omega
      have hi0 : (0 : Int) ≤ (q : Int) := by omega
      have HHE := hen
      clear hkey hat hv hrg1 hg1 hs hSq ha hB1 hlk hs1
      cases fk
      · have hcs := w3' rfl
        rw [HXL.out] at hcs
        obtain ⟨ad, cp, hc, hrg⟩ := HR1.out cs (by rw [HXL.out]; exact hcs.1)
        have HRg := hide hrg
        have hici : (cs : Int) < (len : Int) := by omega
        have hici0 : (0 : Int) ≤ (cs : Int) := by omega
        have bA := hide ((Below.refl w1.heap.size w1).alloc (Nat.le_refl _) (.cells #[.bool false, .int .i64 cs, .int .i64 nx, .int .i64 ot] 100))
        have HX1 := hide (sx_new w1 false cs nx ot)
        have HMW := hide (ma_go HM1.out bA.out)
        have HPW := hide (ps_kp HP1.out (kp_blM bA.out (fun _ => False)) (fun e => e))
        have hWd : ∃ W, (w1.alloc (.cells #[.bool false, .int .i64 cs, .int .i64 nx, .int .i64 ot] 100)) = W := ⟨_, rfl⟩
        obtain ⟨W, hWd⟩ := hWd
        rw [hWd] at bA HX1 HMW HPW
        have hbW : b0 < W.heap.size := Nat.lt_of_lt_of_le hb0 (Nat.le_trans (Nat.le_trans hB hsz1) bA.out.size)
        have HcW := hide (rxCells_go hc (Nat.lt_of_lt_of_le hb0 (Nat.le_trans hB hsz1)) bA.out)
        have HRW := hide (rngAt_up (rngAt_go (rngAt_up HRg.out (Nat.le_trans hB hsz1)) bA.out) bA.out.size)
        obtain ⟨G1, hG1⟩ : ∃ G1, w1.heap.size = G1 := ⟨_, rfl⟩
        have HG1e := hide hG1
        rw [hG1] at HX1
        have HKS : Hid (∀ W9, Below W.heap.size W W9 → Below W.heap.size W W9 ∧ W9.cell? ⟨R, 0, none⟩ = some (.slice (some ⟨b0, off, none⟩) len cap) ∧ W9.cell? ⟨G1, 0, none⟩ = some (.bool false) ∧ W9.cell? ⟨G1, 1, none⟩ = some (.int .i64 cs) ∧ W9.cell? ⟨b0, off + cs * 7, none⟩ = some (.int .i64 (X.K cs)) ∧ W9.cell? ⟨b0, off + cs * 7 + 1, none⟩ = some (.bool (X.NT cs)) ∧ W9.cell? ⟨b0, off + cs * 7 + 2, none⟩ = some (.slice ad (X.NR cs) cp) ∧ W9.cell? ⟨b0, off + cs * 7 + 3, none⟩ = some (.int .i64 (X.A cs)) ∧ W9.cell? ⟨b0, off + cs * 7 + 4, none⟩ = some (.int .i64 (X.B cs)) ∧ W9.cell? ⟨b0, off + cs * 7 + 5, none⟩ = some (.int .i64 (X.MN cs)) ∧ W9.cell? ⟨b0, off + cs * 7 + 6, none⟩ = some (.int .i64 (X.MX cs))) := hide (fun W9 h9 => by
          obtain ⟨_, _, z0, -⟩ := ma_at (ma_go HMW.out h9)
          obtain ⟨y0, y1, -⟩ := sx_cellsM (sx_kp HX1.out (kp_blM h9 (fun _ => False)) (fun e => e))
          obtain ⟨c0, c1, c2, c3, c4, c5, c6⟩ := rxCells_go HcW.out hbW h9
          exact ⟨h9, z0, y0, y1, c0, c1, c2, c3, c4, c5, c6⟩)
        have CI : Hid (∀ W9, Below W.heap.size W W9 → Calls Tryz.prog 70 #[.agg #[.int .i64 (X.K cs), .bool (X.NT cs), .slice ad (X.NR cs) cp, .int .i64 (X.A cs), .int .i64 (X.B cs), .int .i64 (X.MN cs), .int .i64 (X.MX cs)], .int .i64 ch] W9 fun e w' => e = .returned (.bool (dX X ch cs)) ∧ Below W9.heap.size W9 w') := hide (fun W9 h9 => i_inC (X.K cs) (X.NT cs) ad (X.NR cs) cp (X.A cs) (X.B cs) (X.MN cs) (X.MX cs) (X.L cs) (X.H cs) ch W9 (HNR.out cs hcs.1) (rngAt_up (rngAt_go HRW.out h9) h9.size))
        have XX : Hid (Below W.heap.size W W.drew) := hide ⟨rfl, rfl, rfl, Nat.le_refl _, fun _ _ => rfl⟩
        obtain ⟨kk, hkk⟩ : ∃ kk, X.K cs = kk := ⟨_, rfl⟩
        clear hkk
        have hcs1 := hcs.1
        clear hc hrg w3' hcs
        obtain ⟨dv, hd⟩ : ∃ dv, dX X ch cs = dv := ⟨_, rfl⟩
        rw [hd] at CI
        have HD := hide hd
        clear hd
        go_wp2_with fail
        try rw [hWd]
        try rw [hG1]
        clear hWd hG1
        go_cut [40] (fun v wx => v = .bool dv ∧ Hid (Below W.heap.size W wx))
        case first =>
          go_region_held3 (fun W9 => Below W.heap.size W W9 ∧ W9.cell? ⟨R, 0, none⟩ = some (.slice (some ⟨b0, off, none⟩) len cap) ∧ W9.cell? ⟨G1, 0, none⟩ = some (.bool false) ∧ W9.cell? ⟨G1, 1, none⟩ = some (.int .i64 cs) ∧ W9.cell? ⟨b0, off + cs * 7, none⟩ = some (.int .i64 (X.K cs)) ∧ W9.cell? ⟨b0, off + cs * 7 + 1, none⟩ = some (.bool (X.NT cs)) ∧ W9.cell? ⟨b0, off + cs * 7 + 2, none⟩ = some (.slice ad (X.NR cs) cp) ∧ W9.cell? ⟨b0, off + cs * 7 + 3, none⟩ = some (.int .i64 (X.A cs)) ∧ W9.cell? ⟨b0, off + cs * 7 + 4, none⟩ = some (.int .i64 (X.B cs)) ∧ W9.cell? ⟨b0, off + cs * 7 + 5, none⟩ = some (.int .i64 (X.MN cs)) ∧ W9.cell? ⟨b0, off + cs * 7 + 6, none⟩ = some (.int .i64 (X.MX cs))) (first | assumption | exact HKS.out _ XX.out) (first | (go_at_call 70; refine (CI.out _ XX.out).mono ?_; rintro e w9 ⟨rfl, hb9⟩; have X2 := hide (XX.out.trans (hb9.mono XX.out.size)); replace XX := X2; clear X2 hb9))
          all_goals
            go_wp2
            go_meet
            exact ⟨rfl, XX⟩
        case rest =>
          obtain ⟨rfl, HB2⟩ := hcut
          clear XX
          rename World => w2
          have HM2 := hide (ma_go HMW.out HB2.out)
          have HP2 := hide (ps_kp HPW.out (kp_blM HB2.out (fun _ => False)) (fun e => e))
          obtain ⟨b0', b1', b2', b3'⟩ := sx_cellsM (sx_kp HX1.out (kp_blM HB2.out (fun _ => False)) (fun e => e))
          have HK12 := hide ((kp_blM bA.out (fun j => j = w.heap.size)).trans (kp_blM HB2.out (fun j => j = w.heap.size)) (fun _ _ e => e))
          have hbne : b ≠ w.heap.size := by omega
          have HBN := hide hbne
          clear hbne
          cases dv
          · go_wp2
            have HRG3 := HRG.out.kept (kp_grownBy HK12.out (fun j e => e)) (fun e => HBN.out (Option.some.inj e)) (fun e => by have := Option.some.inj e; omega)
            go_roundw
            case rel => exact ⟨_, cnt1, T, hide HRG3, HP2, HC, hide (afs_skip HA.out HS.out (fun e => by rw [HD.out] at e; cases e.2)), hide (fun z hz => HL.out z (by simp only [Bool.and_eq_true] at hz; exact hz.1)), hide (HB1.out.trans (kp_below HK12.out HB1.out.size (fun j e => by have e' : j = w.heap.size := e; omega)))⟩
            case measure => rw [HRG3.left_eq, Hrg.out.left_eq]; exact hlt
          · have CR := hide (i_reach X B R (.slice (some ⟨b0, off, none⟩) len cap) v2 v3 M K w.heap.size HML.out hK4 HW.out (nf T K + 1) T nx w2 (by omega) (by rw [HML.out] at w1'; exact w1') HM2.out HP2.out)
            go_wp2_with (go_at_call 43; refine CR.out.mono ?_; rintro e w4 ⟨rfl, T4, hp4, hr4, hk4⟩; have HP4 := hide hp4; have HR4 := hide (rc_clo HC.out hr4); have HK4 := hide (HK12.out.trans hk4 (fun _ _ e => e)); clear hp4 hr4 hk4)
            have HRG3 := HRG.out.kept (kp_grownBy HK4.out (fun j e => e)) (fun e => HBN.out (Option.some.inj e)) (fun e => by have := Option.some.inj e; omega)
            go_roundw
            case rel => exact ⟨_, cnt1, T4, hide HRG3, HP4, hide HR4.out.1, hide (afs_put HA.out HSQ.out HS.out rfl HD.out HR4.out.2), hide (fun z hz => HL.out z (by simp only [Bool.and_eq_true] at hz; exact hz.1)), hide (HB1.out.trans (kp_below HK4.out HB1.out.size (fun j e => by have e' : j = w.heap.size := e; omega)))⟩
            case measure => rw [HRG3.left_eq, Hrg.out.left_eq]; exact hlt
      · go_wp2_with fail
        go_big_quiet (fail)
        go_wp2
        have HK12 := hide ((kp_alloc (S := fun j => j = w.heap.size) w1 (.cells #[.bool true, .int .i64 cs, .int .i64 nx, .int .i64 ot] 100)).trans (kp_drewN (S := fun j => j = w.heap.size) _ nq) (fun _ _ e => e))
        have HK13 := hide ((kp_alloc (S := fun _ => False) w1 (.cells #[.bool true, .int .i64 cs, .int .i64 nx, .int .i64 ot] 100)).trans (kp_drewN (S := fun _ => False) _ nq) (fun _ _ e => e))
        have hbne : b ≠ w.heap.size := by omega
        have HRG3 := HRG.out.kept (kp_grownBy HK12.out (fun j e => e)) (fun e => hbne (Option.some.inj e)) (fun e => by have := Option.some.inj e; omega)
        go_roundw
        case rel => exact ⟨_, cnt1, T, hide HRG3, hide (ps_kp HP1.out HK13.out (fun e => e)), HC, hide (afs_skip HA.out HS.out (fun e => by cases e.1)), hide (fun z hz => HL.out z (by simp only [Bool.and_eq_true] at hz; exact hz.1)), hide (HB1.out.trans (kp_below HK12.out HB1.out.size (fun j e => by have e' : j = w.heap.size := e; omega)))⟩
        case measure => rw [HRG3.left_eq, Hrg.out.left_eq]; exact hlt
end Go.Proofs.YtepommmmmfaihaaGreatDoor

/-
  Contract: does the machine take a text?
-/
namespace Go.Proofs.YtepommmmmfaihaaGreatDoor
open Go.RowKit Go.Joins Go.Maps
set_option linter.unusedVariables false
set_option linter.unusedSimpArgs false
def TkA (X : Rx) (M : List Sp) (C : List Int) (bb : Bool) (S : Nat → Bool) (w : World) (e : Ending) (w' : World) : Prop := ∃ z, e = .returned (.bool z) ∧ (z = true ↔ bb = true ∧ C.length ≤ 300 ∧ Hr M (clX X C) C.length S 0) ∧ Below w.heap.size w w'
set_option maxRecDepth 100000 in
set_option maxHeartbeats 8000000 in
theorem i_takes (X : Rx) (len : Nat) (hX : X.len = len) (hlen : len ≤ 120) (hnr : ∀ j, j < len → X.NR j ≤ maxLen) (b0 off cap B R : Nat) (M : List Sp) (K b : Nat) (s : ByteArray) (C : List Int) (N : Nat) (bb : Bool) (hs : s.size ≤ 1048576) (hC : outL (rns s) = C) (hbb : (rns s).isSome = bb) (hN : C.length = N) (hM : M.length = K) (hK1 : 1 ≤ K) (hK4 : K ≤ 400000) (hW : Wf X M) (S : Nat → Bool) (hcl : Clo M S) (w : World) (hT : Tabs w) (hr : RxRow w b0 off X B) (hb0 : b0 < B) (h : MA B w R (.slice (some ⟨b0, off, none⟩) len cap) (.map (some b)) (.int .i64 0) M) (hps : PS w b S K) :
    Calls Tryz.prog 24 #[.pointer (some ⟨R, 0, none⟩), .string s] w (TkA X M C bb S w) := by
  have CR := hide (i_runes_lb s C bb w hs hT hC hbb)
  have hB := (ma_lt h).1
  have HM := hide h
  have HR := hide hr
  have HW := hide hW
  have HPS := hide hps
  have HCL := hide hcl
  have HML := hide hM
  have HNL := hide hN
  have HXL := hide hX
  have HNR := hide hnr
  rw [hN] at CR
  have hN2 : N ≤ 20000 := by rw [← hN, ← hC]; exact outL_len s
  clear hC hbb hT h hr hW hps hcl hM hN hX hnr
  go_enter Tryz.func24, Tryz.ntmps24
  go_wp2_with fail
  refine CR.out.mono ?_
  rintro e w1 ⟨ad, c, rfl, ho, hb1⟩
  have HO := hide (own_rowAt' HNL.out ho)
  have HB1 := hide hb1
  have hsz1 := hb1.size
  clear ho hb1 CR
  cases bb
  · go_wp2
    go_ret
    exact ⟨false, rfl, ⟨fun e => (by cases e), fun e => (by cases e.1)⟩, HB1.out⟩
  · by_cases h3 : (300 : Int) < (N : Int)
    · go_wp2
      go_ret
      exact ⟨false, rfl, ⟨fun e => (by cases e), fun e => (by have := e.2.1; rw [HNL.out] at this; omega)⟩, HB1.out⟩
    · obtain ⟨sa, sc, d0, d1, d2, d3, -⟩ := ma_at (ma_go HM.out HB1.out)
      go_wp2
      clear sa sc d0 d1 d2 d3
      go_loopw [7, 30] (fun v7 v30 wr => ∃ (i bh : Nat) (Sh : Nat → Bool), v7 = .map (some bh) ∧ v30 = .int .i64 i ∧ i ≤ N ∧ Hid (PS wr bh Sh K) ∧ Hid (Clo M Sh) ∧ Hid (Hr M (clX X C) N Sh i ↔ Hr M (clX X C) N S 0) ∧ Hid (Below w1.heap.size w1 wr)) (fun _ v _ => N - (intOf v).toNat)
      case atStart => exact ⟨0, b, S, rfl, rfl, Nat.zero_le _, hide (ps_kp HPS.out (kp_blM HB1.out (fun _ => False)) (fun e => e)), HCL, hide Iff.rfl, hide (Below.refl _ _)⟩
      case round =>
        obtain ⟨i, bh, Sh, rfl, rfl, hi, HP, HC, HH, HB⟩ := hrel
        have HMr := hide (ma_go (ma_go HM.out HB1.out) HB.out)
        by_cases hlt : i < N
        · obtain ⟨g, o, rfl, hg, hc⟩ := HO.out (by intro e; have := HNL.out; rw [e] at this; simp at this; omega)
          obtain ⟨ch, hch⟩ : ∃ ch, C[i]?.getD 0 = ch := ⟨_, rfl⟩
          have hci : wr.cell? ⟨g, o + i, none⟩ = some (.int .i64 ch) := (HB.out.cell (p := ⟨g, o + i, none⟩) hg).trans (by rw [hc i (by rw [HNL.out]; exact hlt), ← hch])
          have HCH := hide hch
          have CA := hide (i_after X len HXL.out hlen HNR.out b0 off cap B R (.map (some bh)) (.int .i64 0) M K bh ch HML.out hK4 HW.out Sh wr)
          have CA2 := hide (fun ve => i_after X len HXL.out hlen HNR.out b0 off cap B R (.map (some b)) (.int .i64 0) M K bh ch HML.out hK4 HW.out Sh wr (rxRow_go (rxRow_go HR.out hb0 (HB1.out.mono hB)) hb0 (HB.out.mono (Nat.le_trans hB hsz1))) hb0 HMr.out ve)
          clear hc CA hch
          go_wp2_with (go_at_call 46; refine (CA2.out HP.out).mono ?_; rintro e w4 ⟨T4, rfl, hp4, hc4, ha4, hb4⟩; have HP4 := hide hp4; have HC4 := hide hc4; have HA4 := hide ha4; have HB4 := hide (HB.out.trans (hb4.mono HB.out.size)); clear hp4 hc4 ha4 hb4)
          go_roundw
          case rel =>
            refine ⟨i + 1, wr.heap.size, T4, rfl, by go_num, by omega, HP4, HC4, hide ?_, HB4⟩
            rw [← HH.out]
            refine hr_step hlt HC.out (fun x => ?_)
            have e : (fun n => clX X C n i) = dX X ch := by
              funext n
              rw [clX_at (by rw [HNL.out]; exact hlt), HCH.out]
              rfl
            rw [e]
            exact HA4.out x
          case measure => simp [intOf]; omega
        · have hin : i = N := by omega
          subst hin
          obtain ⟨sa, sc, d0, d1, d2, d3, -⟩ := ma_at HMr.out
          obtain ⟨n, D, hown, hn, hmap, hh, hSK⟩ := HP.out
          have HOW := hide hown
          have hkey : keyOf Tryz.prog 2 (.int .i64 (0 : Int)) = some (.int .i64 (0 : Int)) := keyI (p := 0) (by omega)
          obtain ⟨z, hz⟩ : ∃ z, Sh 0 = z := ⟨_, rfl⟩
          have HHas : Maps.has D (.int .i64 (0 : Int)) = z := (ps_has hh 0).trans hz
          have HZ := hide hz
          clear hown hmap hh hSK hz
          go_wp2_with (at_lookup; refine wpList_lookup_own_unit _ rfl _ _ 47 rfl 2 81 lawI Tryz.underlying47 (zeroU _) bh n _ rfl HOW.out _ _ rfl hkey ?_; rw [HHas])
          go_ret
          refine ⟨z, rfl, ?_, (HB1.out.trans (HB.out.mono hsz1)).alloc (Nat.le_trans hsz1 HB.out.size) _⟩
          rw [HNL.out, ← HH.out, hr_end HC.out (fun n i hc => by have := clX_lt hc; rw [HNL.out] at this; exact this), HZ.out]
          exact ⟨fun e => ⟨rfl, by omega, e⟩, fun e => e.2.2⟩
end Go.Proofs.YtepommmmmfaihaaGreatDoor
