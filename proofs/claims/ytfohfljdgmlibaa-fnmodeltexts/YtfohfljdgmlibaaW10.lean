/-
  Contract of the reader of models: one item, whatever the text is; what it makes is a row of nodes of its own.
-/
import Derived.Test.YtfohfljdgmlibaaW5
import Derived.Test.YtfohfljdgmlibaaW9
import Derived.Deep.CutBlock
import Derived.Deep.DeepCutAuto
import Derived.Deep.RegionLaw
namespace Go.Proofs.Ytfohfljdgmlibaa
open Go.RowKit Go.Joins
set_option linter.unusedVariables false
set_option linter.unusedSimpArgs false
theorem infoPN : (Try.prog.info? 46).map (fun i => (i.zero, i.size, i.bytes)) = some (some (.agg #[.int .i64 0, .string ⟨#[]⟩, .slice none 0 0, .int .i64 0]), 4, 56) := by kernel_rfl
theorem its_dr {R B : Nat} {s : ByteArray} {w0 w : World} {S0 : Nat → Prop} {ro : Option Nat} {p : Nat} {bd : Bool} {ad : Option Addr} {m c : Nat} {D : Pn} {k : Int} {nm : ByteArray} {kad : Option Addr} {L : List Int} {kc : Nat} {oc : Int} (h : ItS R B s w0 S0 ro w p bd ad m c D k nm kad L kc oc) : ItS R B s w0 S0 ro w.drew p bd ad m c D k nm kad L kc oc := its_step h (kp_drew w) h.rd
/-- What holds when an item's body is read. -/
def ItB (R B d : Nat) (s : ByteArray) (w0 : World) (S0 : Nat → Prop) (ro : Option Nat) (p m : Nat) (bd : Bool) (w : World) : Prop :=
  ∃ p1 bd1 ad1 m1 c1 D1 k1 nm1 kad1 L1 kc1, ItS R B s w0 S0 ro w p1 bd1 ad1 m1 c1 D1 k1 nm1 kad1 L1 kc1 0 ∧ (p ≤ p1 ∧ p1 ≤ s.size) ∧ (bd = true → bd1 = true) ∧ (bd1 = false → p < p1 ∧ m1 ≤ 40) ∧ (m ≤ m1 ∧ m1 ≤ 40 + 2 * d) ∧ L1.length ≤ 100 ∧ nm1.size ≤ 20000
set_option maxRecDepth 100000 in
set_option maxHeartbeats 8000000 in
theorem r_itemF (R B d : Nat) (s : ByteArray) (deep : Int) (p m : Nat) (bd : Bool) (ad : Option Addr) (c : Nat) (D : Pn) (S0 : Nat → Prop) (w : World) (hs : s.size ≤ 20000) (hd12 : d ≤ 12) (hdeep : 1 ≤ deep ∧ deep ≤ 20) (hdd : deep ≤ 10 → 1 ≤ d) (hp : p ≤ s.size) (hm : m ≤ 40) (hB : B ≤ w.heap.size)
    (h8 : L8 w R s p bd ad m c) (hpo : PO B S0 w ad m c D)
    (hI : deep ≤ 10 → ∀ (p m : Nat) (bd : Bool) (ad : Option Addr) (c : Nat) (D : Pn) (S0 : Nat → Prop) (w : World), p ≤ s.size → m ≤ 40 → B ≤ w.heap.size → L8 w R s p bd ad m c → PO B S0 w ad m c D → Calls Try.prog 33 #[.pointer (some ⟨R, 0, none⟩), .int .i64 (deep + 1)] w (ItmAns R B (d - 1) s p m bd (.slice ad m c) S0 w)) :
    Calls Try.prog 33 #[.pointer (some ⟨R, 0, none⟩), .int .i64 deep] w (ItmAns R B d s p m bd (.slice ad m c) S0 w) := by
  obtain ⟨i0, hi0, hz0, hz1, hz2⟩ := info_parts info64
  obtain ⟨i1, hi1, hy0, hy1, hy2⟩ := info_parts infoPN
  have HI := hide hI
  have H0 := hide (its_new h8 hpo (fun j hj => hj) 1)
  obtain ⟨hde1, hde2⟩ := hdeep
  clear h8 hpo hI
  go_enter Try.func33, Try.ntmps33
  go_upto_block 0 with fail
  obtain ⟨wy, hwy⟩ : ∃ wy, w.alloc (.cells #[.int .i64 1, .string ⟨#[]⟩, .slice none 0 0, .int .i64 0] 46) = wy := ⟨_, rfl⟩
  rw [hwy] at H0
  rw [hwy]
  clear hwy
  go_cut [6, 7, 60, 119] (fun v6 v7 v60 v119 wx => ItB R B d s w S0 (Value.slice ad m c).ownBlock p m bd wx)
  case first =>
    go_wp2_with fail
    refine (r_is R s p bd ad m c 40 _ H0.out.rd hp hs).mono ?_
    rintro e w1 ⟨b1, p1, rfl, h1, k1, o1⟩
    have H1 := hide (its_step H0.out k1 h1)
    have hp1 : p ≤ p1 ∧ p1 ≤ s.size := by omega
    clear h1 k1 H0
    cases b1
    case true =>
      have o2 : bd = false ∧ p1 = p + 1 := by rcases o1 with ⟨-, o2, o3, -⟩ | ⟨o2, -⟩; exact ⟨o2, o3⟩; cases o2
      obtain ⟨rfl, o3⟩ := o2
      clear o1
      obtain ⟨x0, x1, x2, x3⟩ := xn_cells H1.out.nd
      have f0 := xn_frozen H1.out.nd 0
      obtain ⟨r0, r1, r2, r3⟩ := l8_cells H1.out.rd
      have g2 := l8_frozen H1.out.rd 2
      go_upto_if 65 with fail
      have H2 := hide (its_k H1.out 2)
      obtain ⟨wz, hwz⟩ : ∃ wz, w1.setCell ⟨w.heap.size, 0, none⟩ (.int .i64 2) = wz := ⟨_, rfl⟩
      rw [hwz] at H2
      rw [hwz]
      clear hwz x0 x1 x2 x3 f0 r0 r1 r2 r3 g2 H1
      go_cut [] (fun wx => ∃ bd1, ItS R B s w S0 (Value.slice ad m c).ownBlock wx p1 bd1 ad m c D 2 ⟨#[]⟩ none [] 0 0 ∧ (10 < deep → bd1 = true))
      case first =>
        by_cases h10 : 10 < deep
        · obtain ⟨r0, r1, r2, r3⟩ := l8_cells H2.out.rd
          have g2 := l8_frozen H2.out.rd 2
          go_wp2
          go_meet
          exact ⟨true, its_bad H2.out true, fun _ => rfl⟩
        · have h10' : deep ≤ 10 := by omega
          go_wp2
          go_meet
          exact ⟨false, H2.out, fun h => absurd h (by omega)⟩
      case rest =>
        obtain ⟨bd1, h2, hb1⟩ := hcut
        have H3 := hide h2
        clear h2 H2
        go_wp2_with fail
        go_loopw [6] (fun v6 wr => ∃ p2 bd2 ad2 m2 c2 D2 k2 kad2 L2 kc2, Hid (ItS R B s w S0 (Value.slice ad m c).ownBlock wr p2 bd2 ad2 m2 c2 D2 k2 ⟨#[]⟩ kad2 L2 kc2 0) ∧ (p < p2 ∧ p2 ≤ s.size) ∧ (10 < deep → bd2 = true) ∧ (bd2 = false → m2 ≤ 40) ∧ (m + L2.length ≤ m2 ∧ m2 ≤ 40 + 2 * d)) (fun _ wr => rdM R s.size wr)
        case atStart => exact ⟨p1, bd1, ad, m, c, D, 2, none, [], 0, H3, by omega, hb1, fun _ => hm, by simp; omega⟩
        case round =>
          clear H3 hb1
          obtain ⟨p2, bd2, ad2, m2, c2, D2, k2, kad2, L2, kc2, H4, hp2, hb2, hm2, hl2⟩ := hrel
          have hrm := rdM_of H4.out.rd
          obtain ⟨r0, r1, r2, r3⟩ := l8_cells H4.out.rd
          cases bd2
          case true =>
            clear hrm
            go_wp2
            go_meet
            exact ⟨p2, true, ad2, m2, c2, D2, k2, _, kad2, L2, kc2, H4.out, by omega, fun _ => rfl, fun h => (by cases h), by omega, by omega, Nat.zero_le _⟩
          case false =>
            have hm3 := hm2 rfl
            have hde3 : deep ≤ 10 := by
              rcases Int.lt_or_le 10 deep with h | h
              · cases hb2 h
              · exact h
            have hd1 := hdd hde3
            simp only [Bool.false_eq_true, if_false] at hrm
            have HRM := hide hrm
            clear hm2 hb2 hrm
            go_wp2_with fail
            refine (r_is R s p2 false ad2 m2 c2 41 _ H4.out.rd hp2.2 hs).mono ?_
            rintro e w5 ⟨b5, p5, rfl, h5, k5, o5⟩
            have H5 := hide (its_step H4.out k5 h5)
            have hp5 : p2 ≤ p5 ∧ p5 ≤ s.size := by omega
            clear h5 k5 o5 H4 r0 r1 r2 r3
            cases b5
            case true =>
              go_wp2
              go_meet
              exact ⟨p5, false, ad2, m2, c2, D2, k2, _, kad2, L2, kc2, H5.out, by omega, fun h => (by cases h), fun _ => by omega, by omega, by omega, Nat.zero_le _⟩
            case false =>
              obtain ⟨x0, x1, x2, x3⟩ := xn_cells H5.out.nd
              go_upto_if 82 with fail
              clear x0 x1 x2 x3
              go_cut [6] (fun v6 wx => ∃ p6 bd6 k6, Hid (ItS R B s w S0 (Value.slice ad m c).ownBlock wx p6 bd6 ad2 m2 c2 D2 k6 ⟨#[]⟩ kad2 L2 kc2 0) ∧ (p5 ≤ p6 ∧ p6 ≤ s.size))
              case first =>
                by_cases hl0 : 0 < L2.length
                · have hl0' : (0 : Int) < (L2.length : Int) := by omega
                  go_wp2_with fail
                  refine (r_is R s p5 false ad2 m2 c2 124 _ H5.out.rd hp5.2 hs).mono ?_
                  rintro e w6 ⟨b6, p6, rfl, h6, k6, o6⟩
                  have H6 := hide (its_step H5.out k6 h6)
                  have hp6 : p5 ≤ p6 ∧ p6 ≤ s.size := by omega
                  clear h6 k6 o6 H5
                  obtain ⟨x0, x1, x2, x3⟩ := xn_cells H6.out.nd
                  have f0 := xn_frozen H6.out.nd 0
                  obtain ⟨r0, r1, r2, r3⟩ := l8_cells H6.out.rd
                  have g2 := l8_frozen H6.out.rd 2
                  cases b6
                  case true =>
                    by_cases hl1 : L2.length = 1
                    · have hl1b : (((L2.length : Nat) : Int) == 1) = true := by rw [hl1]; rfl
                      go_wp2
                      go_meet
                      exact ⟨p6, false, 3, hide (its_k H6.out 3), hp6⟩
                    · have hl1b : (((L2.length : Nat) : Int) == 1) = false := by simp; omega
                      by_cases hk3 : k2 = 3
                      · have hk3b : (k2 == 3) = true := by rw [hk3]; rfl
                        go_wp2
                        go_meet
                        exact ⟨p6, false, k2, H6, hp6⟩
                      · have hk3b : (k2 == 3) = false := by simp [hk3]
                        go_wp2
                        go_meet
                        exact ⟨p6, true, k2, hide (its_bad H6.out true), hp6⟩
                  case false =>
                    by_cases hk3 : k2 = 3
                    · have hk3b : (k2 == 3) = true := by rw [hk3]; rfl
                      go_wp2
                      go_meet
                      exact ⟨p6, true, k2, hide (its_bad H6.out true), hp6⟩
                    · have hk3b : (k2 == 3) = false := by simp [hk3]
                      go_wp2_with fail
                      refine (r_is R s p6 false ad2 m2 c2 44 _ H6.out.rd hp6.2 hs).mono ?_
                      rintro e w7 ⟨b7, p7, rfl, h7, k7, o7⟩
                      have H7 := hide (its_step H6.out k7 h7)
                      have hp7 : p5 ≤ p7 ∧ p7 ≤ s.size := by omega
                      clear h7 k7 o7 H6 x0 x1 x2 x3 f0 r0 r1 r2 r3 g2
                      obtain ⟨r0, r1, r2, r3⟩ := l8_cells H7.out.rd
                      have g2 := l8_frozen H7.out.rd 2
                      cases b7
                      case true =>
                        go_wp2
                        go_meet
                        exact ⟨p7, false, k2, H7, hp7⟩
                      case false =>
                        go_wp2
                        go_meet
                        exact ⟨p7, true, k2, hide (its_bad H7.out true), hp7⟩
                · have hl0' : ¬ (0 : Int) < (L2.length : Int) := by omega
                  go_wp2
                  go_meet
                  exact ⟨p5, false, k2, H5, by omega⟩
              case rest =>
                obtain ⟨p6, bd6, k6, H6, hp6⟩ := hcut
                clear H5
                have HD := hide (its_dr H6.out)
                have hc2d := (xn_cells HD.out.nd).2.2.1
                have hwd : IntKind.i64.wrap (deep + 1) = deep + 1 := by rw [IntKind.wrap_i64]; omega
                have hB6 : B ≤ wc.heap.size := Nat.le_trans hB H6.out.kp.size
                go_wp2_with fail
                go_region_law (first
                  | (go_simp; go_at_call 33; refine (HI.out hde3 p6 m2 bd6 ad2 c2 D2 _ wc.drew hp6.2 hm3 hB6 HD.out.rd HD.out.po).mono ?_; intro e w8 ha; refine its_item HD.out ?_ ha; intro y p8 bd8 ad8 m8 c8 D8 he8 h8' hp8 hbb8 hb8 hm8; subst he8; have H8 := hide h8'; have hc8 := (xn_cells H8.out.nd).2.2.1; have hc8a : ∀ o, (w8.alloc o).cell? ⟨w.heap.size, 2, none⟩ = some (.slice kad2 L2.length kc2) := (fun o => (xn_cells (its_alloc H8.out o).nd).2.2.1); clear ha h8')
                  | (refine step_append_lies _ (by rfl) _ _ _ (by rfl) 0 2 i0 _ 1 8 Try.underlying44 hi0 hz0 hz1 hz2 rfl (by omega) (.slice kad2 L2.length kc2) L2.length (L2.map (Value.int .i64)) (by rfl) (H8.out.kd.alloc _) ⟨w8.heap.size, 0, none⟩ 1 1 [.int .i64 y] (by rfl) (by rfl) (World.news_of_block (cs := #[.int .i64 y]) (t := 2) (fr := (0, 0)) (heap_alloc_new w8 _)) (by simp [Value.oneCell']) (by omega) (by unfold maxLen; omega) (by omega) (Nat.zero_le _) (w8.heap.size + 1) (by simp) ?_; intro gg cap' w9 hown9 hgrow9 hat9 hlt9; have H9 := hide (its_kid (x := y) H8.out hown9 hgrow9 hat9); have hf9 := xn_frozen (its_kidX H8.out hgrow9) 2; have hc9 := (xn_cells (its_kidX H8.out hgrow9)).2.2.1; clear hown9 hgrow9 hat9)
                  | (fail))
                all_goals
                  go_wp2
                  go_roundw
                  case rel =>
                    refine ⟨p8, bd8, ad8, m8, c8, D8, k6, some ⟨gg, 0, none⟩, L2 ++ [y], cap', H9, by omega, fun h => absurd h (by omega), fun h => (hb8 h).2, by simp; omega⟩
                  case measure =>
                    rw [HRM.out, rdM_of H9.out.rd]
                    cases bd8
                    · have := (hb8 rfl).1
                      simp only [Bool.false_eq_true, if_false]
                      omega
                    · simp only [if_true]
                      omega
    case false =>
      have o2 : p1 = p := by rcases o1 with ⟨o2, -⟩ | ⟨-, o2⟩; cases o2; exact o2
      subst o2
      clear o1
      go_wp2_with fail
      refine (r_is R s p1 bd ad m c 35 _ H1.out.rd hp1.2 hs).mono ?_
      rintro e w2 ⟨b2, p2, rfl, h2, k2, o2⟩
      have H2 := hide (its_step H1.out k2 h2)
      have hp2 : p1 ≤ p2 ∧ p2 ≤ s.size := by omega
      clear h2 k2 H1
      obtain ⟨x0, x1, x2, x3⟩ := xn_cells H2.out.nd
      have f0 := xn_frozen H2.out.nd 0
      have f1 := xn_frozen H2.out.nd 1
      obtain ⟨r0, r1, r2, r3⟩ := l8_cells H2.out.rd
      cases b2
      case true =>
        have o3 : bd = false ∧ p2 = p1 + 1 := by rcases o2 with ⟨-, o2, o3, -⟩ | ⟨o2, -⟩; exact ⟨o2, o3⟩; cases o2
        obtain ⟨rfl, o3⟩ := o3
        clear o2
        go_wp2
        go_meet
        exact ⟨p2, false, ad, m, c, D, 4, _, none, [], 0, its_k H2.out 4, by omega, fun h => (by cases h), fun _ => by omega, by omega, Nat.zero_le _, Nat.zero_le _⟩
      case false =>
        have o3 : p2 = p1 := by rcases o2 with ⟨o2, -⟩ | ⟨-, o2⟩; cases o2; exact o2
        subst o3
        clear o2
        go_upto_block 1 with fail
        clear x0 x1 x2 x3 f0 f1 r0 r1 r2 r3
        go_cut [] (fun wx => ∃ p3, Hid (ItS R B s w S0 (Value.slice ad m c).ownBlock wx p3 bd ad m c D 1 ⟨#[]⟩ none [] 0 0) ∧ (p2 ≤ p3 ∧ p3 ≤ s.size))
        case first =>
          go_wp2_with fail
          go_loopw [] (fun wr => ∃ p3, Hid (ItS R B s w S0 (Value.slice ad m c).ownBlock wr p3 bd ad m c D 1 ⟨#[]⟩ none [] 0 0) ∧ (p2 ≤ p3 ∧ p3 ≤ s.size)) (fun wr => (match wr.cell? ⟨R, 1, none⟩ with | some (.int _ q) => s.size - q.toNat | _ => 0))
          case atStart => exact ⟨p2, H2, by omega⟩
          case round =>
            clear H2
            obtain ⟨p3, H3, hp3⟩ := hrel
            obtain ⟨r0, r1, r2, r3⟩ := l8_cells H3.out.rd
            have g1 := l8_frozen H3.out.rd 1
            by_cases hlt : p3 < s.size
            · have hi0 : (0 : Int) ≤ (p3 : Int) := by omega
              have hi1' : (p3 : Int) < (s.size : Int) := by omega
              have hi3 : decide ((p3 : Int) < (s.size : Int)) = true := decide_eq_true hi1'
              have CM := hide (fun (W : World) => s_more (s[p3].toNat : Int) W)
              cases hb : moreB (s[p3].toNat : Int)
              · rw [hb] at CM
                go_wp2
                go_quiet ((go_at_call 62; exact Calls.quiet_of_same (CM.out _)))
                go_wp2
                go_meet
                exact ⟨p3, hide (its_drew H3.out _), hp3⟩
              · rw [hb] at CM
                go_wp2
                go_quiet ((go_at_call 62; exact Calls.quiet_of_same (CM.out _)))
                go_wp2
                go_roundw
                case rel => exact ⟨p3 + 1, hide (its_at (its_drew H3.out _) (p3 + 1)), by omega⟩
                case measure =>
                  have h9 := (l8_cells (l8_p (its_drew H3.out nq).rd (p3 + 1))).2.1
                  rw [show ((p3 + 1 : Nat) : Int) = (p3 : Int) + 1 by omega] at h9
                  rw [r1]
                  first
                    | rw [h9]
                    | (have h9' : ((wr.drewN nq).setCell ⟨R, 1, none⟩ (.int .i64 ((p3 : Int) + 1))).cell? ⟨R, 1, none⟩ = _ := h9
                       simp only [h9'])
                  simp
                  omega
            · have hi1' : ¬ (p3 : Int) < (s.size : Int) := by omega
              have hi3 : decide ((p3 : Int) < (s.size : Int)) = false := decide_eq_false hi1'
              go_wp2
              go_quiet (fail)
              go_wp2
              go_meet
              exact ⟨p3, hide (its_drew H3.out _), hp3⟩
        case rest =>
          obtain ⟨p3, H3, hp3⟩ := hcut
          clear H2
          obtain ⟨x0, x1, x2, x3⟩ := xn_cells H3.out.nd
          have f1 := xn_frozen H3.out.nd 1
          obtain ⟨r0, r1, r2, r3⟩ := l8_cells H3.out.rd
          obtain ⟨nm9, hnm⟩ : ∃ nm9, s.extract p2 p3 = nm9 := ⟨_, rfl⟩
          have hz9 : nm9.size ≤ 20000 := by rw [← hnm, ByteArray.size_extract]; omega
          have HE9 : Hid (p3 = p2 → nameB nm9 = false) := hide (fun e => nameB_none _ (by rw [← hnm, ByteArray.size_extract]; omega))
          have hi0 : (0 : Int) ≤ (p2 : Int) := by omega
          have hi1' : (p2 : Int) ≤ (p3 : Int) := by omega
          have hi2' : (p3 : Int) ≤ (s.size : Int) := by omega
          have CN := hide (fun (W : World) => s_name nm9 W (by unfold maxLen; omega))
          go_wp2_with fail
          go_region
          have H4 := hide (its_drew (its_nm H3.out nm9) 1)
          obtain ⟨wz, hwz⟩ : ∃ wz, (wc.setCell ⟨w.heap.size, 1, none⟩ (.string nm9)).drew = wz := ⟨_, rfl⟩
          have H5 : Hid (ItS R B s w S0 (Value.slice ad m c).ownBlock wz p3 bd ad m c D 1 nm9 none [] 0 0) := by rw [← hwz]; exact H4
          rw [hwz]
          clear hwz H4 H3 x0 x1 x2 x3 f1 r0 r1 r2 r3
          obtain ⟨x0, x1, x2, x3⟩ := xn_cells H5.out.nd
          obtain ⟨r0, r1, r2, r3⟩ := l8_cells H5.out.rd
          have g2 := l8_frozen H5.out.rd 2
          go_wp2_with fail
          refine (CN.out _).mono ?_
          rintro e w6 ⟨rfl, rfl⟩
          cases hb : nameB nm9
          · go_wp2
            go_meet
            exact ⟨p3, true, ad, m, c, D, 1, nm9, none, [], 0, its_bad H5.out true, by omega, fun _ => rfl, fun h => (by cases h), by omega, Nat.zero_le _, hz9⟩
          · go_wp2
            go_meet
            have hne : p3 ≠ p2 := fun e => by have := HE9.out e; rw [hb] at this; cases this
            exact ⟨p3, bd, ad, m, c, D, 1, nm9, none, [], 0, H5.out, by omega, fun h => h, fun _ => by omega, by omega, Nat.zero_le _, hz9⟩
  case rest =>
    obtain ⟨p1, bd1, ad1, m1, c1, D1, k1, nm1, kad1, L1, kc1, h1, hp1, hbb, hb1, hm1, hl1, hn1⟩ := hcut
    have H1 := hide h1
    clear h1 H0
    go_wp2_with fail
    refine (r_occur R s p1 bd1 ad1 m1 c1 _ H1.out.rd hp1.2 hs).mono ?_
    rintro e w2 ⟨oc, p2, rfl, h2, k2, o2, o3⟩
    have H2 := hide (its_step H1.out k2 h2)
    clear h2 k2 H1
    obtain ⟨x0, x1, x2, x3⟩ := xn_cells H2.out.nd
    have f3 := xn_frozen H2.out.nd 3
    go_upto_region 23 with fail
    have H3 := hide (its_oc H2.out oc)
    obtain ⟨wz, hwz⟩ : ∃ wz, w2.setCell ⟨w.heap.size, 3, none⟩ (.int .i64 oc) = wz := ⟨_, rfl⟩
    rw [hwz] at H3
    rw [hwz]
    clear hwz x0 x1 x2 x3 f3 H2
    go_cut [] (fun wx => ∃ gg cap', L8 wx R s p2 bd1 (some ⟨gg, 0, none⟩) (m1 + 1) cap' ∧ PO B (fun j => S0 j ∨ w.heap.size ≤ j) wx (some ⟨gg, 0, none⟩) (m1 + 1) cap' (pushN D1 k1 nm1 L1 oc) ∧ Kp (fun j => j = R ∨ (Value.slice ad m c).ownBlock = some j) w wx ∧ ((Value.slice ad m c).ownBlock = some gg ∨ w.heap.size ≤ gg))
    case first =>
      have HD := hide (its_dr H3.out)
      obtain ⟨x0, x1, x2, x3⟩ := xn_cells HD.out.nd
      obtain ⟨r0, r1, r2, r3⟩ := l8_cells HD.out.rd
      obtain ⟨xs, hown, hits, hdj⟩ := H3.out.po
      have HDJ := hide hdj
      have HOW := hide hown
      have HIT := hide hits
      have hB6 : B ≤ wz.heap.size := Nat.le_trans hB H3.out.kp.size
      have r3a : ∀ o, (wz.alloc o).cell? ⟨R, 3, none⟩ = some (.slice ad1 m1 c1) := fun o => (l8_cells (its_alloc H3.out o).rd).2.2.2
      clear hown hits hdj
      go_region_law (first
        | (refine step_append_lies _ (by rfl) _ _ _ (by rfl) B 46 i1 _ 4 56 Try.underlying24 hi1 hy0 hy1 hy2 rfl (by omega) (.slice ad1 m1 c1) m1 xs (by rfl) (HOW.out.alloc _).drew ⟨wz.heap.size, 0, none⟩ 1 1 [.int .i64 k1, .string nm1, .slice kad1 L1.length kc1, .int .i64 oc] (by rfl) (by rfl) (World.news_of_block (cs := #[.int .i64 k1, .string nm1, .slice kad1 L1.length kc1, .int .i64 oc]) (t := 46) (fr := (0, 0)) (heap_alloc_new wz _)) (by simp [Value.oneCell']) (by omega) (by unfold maxLen; omega) (by omega) (by simp; omega) (wz.heap.size + 1) (by simp) ?_; intro gg cap' w9 hown9 hgrow9 hat9 hlt9; have hgr9 := grown_undrew hgrow9; have H9 := hide (its_push H3.out HIT.out HOW.out HDJ.out hn1 hl1 hown9 hgr9 hat9); have h9r := its_pushR H3.out HOW.out hgr9; have hf9 := l8_frozen h9r 3; have hc9 := (l8_cells h9r).2.2.2; clear hown9 hgrow9 hgr9 hat9 h9r)
        | (fail))
      all_goals
        go_wp2
        go_meet
        exact ⟨gg, cap', H9.out⟩
    case rest =>
      obtain ⟨gg, cap', h9, hpo9, hk9, hg9⟩ := hcut
      clear H3
      have H9 := hide h9
      have HP9 := hide hpo9
      have HK9 := hide hk9
      obtain ⟨r0, r1, r2, r3⟩ := l8_cells h9
      have g2 := l8_frozen h9 2
      clear h9 hpo9 hk9
      by_cases hb4 : 40 < m1 + 1
      · have hb4' : (40 : Int) < (m1 : Int) + 1 := by omega
        go_wp2
        go_ret
        refine ⟨_, p2, true, some ⟨gg, 0, none⟩, m1 + 1, cap', pushN D1 k1 nm1 L1 oc, rfl, l8_b H9.out true, by omega, fun _ => rfl, fun h => (by cases h), by omega, ?_, HK9.out.trans (kp_set (S := fun j => j = R) wc ⟨R, 2, none⟩ (.bool true) rfl) (fun j _ hj => .inl hj), fun j hj => ?_⟩
        · exact po_kp HP9.out (kp_set (S := fun j => j = R) _ _ _ rfl) (fun j hj => by obtain ⟨xs, hx, -⟩ := HP9.out; exact type_ne hx hj H9.out (by decide)) (fun B' z n v ys j hv hj _ => type_ne hv hj H9.out (by decide))
        · have : gg = j := by simpa [Value.ownBlock] using hj
          subst this; exact hg9
      · have hb4' : ¬ (40 : Int) < (m1 : Int) + 1 := by omega
        go_wp2
        go_ret
        refine ⟨_, p2, bd1, some ⟨gg, 0, none⟩, m1 + 1, cap', pushN D1 k1 nm1 L1 oc, rfl, H9.out, by omega, hbb, fun h => (by have := hb1 h; omega), by omega, HP9.out, HK9.out, fun j hj => ?_⟩
        have : gg = j := by simpa [Value.ownBlock] using hj
        subst this; exact hg9
end Go.Proofs.Ytfohfljdgmlibaa
