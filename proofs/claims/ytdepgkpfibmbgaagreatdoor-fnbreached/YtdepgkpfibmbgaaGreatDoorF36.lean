/-
  Contract of the specification: l11Table.
-/
import Derived.Test.YtdepgkpfibmbgaaGreatDoorF35
import Derived.Test.YtdepgkpfibmbgaaGreatDoorF33
import Derived.Test.YtdepgkpfibmbgaaGreatDoorF31
import Derived.Deep.RegionWith
namespace Go.Proofs.YtdepgkpfibmbgaaGreatDoor
open Go.RowKit Go.Joins
set_option linter.unusedVariables false
set_option linter.unusedSimpArgs false
theorem rw_len {D : Dc} {p : Nat} {kd : Int} {Qs : Nat → List (List UInt8) × List UInt8} : ∀ (j : Nat) (r : List ByteArray), rwI D p kd Qs j = some r → r.length ≤ j
  | 0, r, h => by rw [rwI] at h; cases h; exact Nat.le_refl _
  | j + 1, r, h => by
    rw [rwI] at h
    split at h
    · cases h
    · rename_i r0 h0
      have ih := rw_len j r0 h0
      split at h
      · cases h
      · split at h
        · cases h
          rw [List.length_append]
          simp
          omega
        · cases h
          omega
/-- The specification's row beside the program's. -/
def RwS (D : Dc) (p : Nat) (kd : Int) (Qs : Nat → List (List UInt8) × List UInt8) (j : Nat) (R : List ByteArray) (wh : Bool) : Prop := ∃ r, rwI D p kd Qs j = some r ∧ (wh = true ↔ r.length = j) ∧ (wh = true → R = r)
section
variable {D : Dc} {p : Nat} {kd : Int} {Qs : Nat → List (List UInt8) × List UInt8} {j : Nat} {R : List ByteArray} {wh : Bool} {v : ByteArray} {m : Int}
theorem rws_start : RwS D p kd Qs 0 [] true := ⟨[], rfl, ⟨fun _ => rfl, fun _ => rfl⟩, fun _ => rfl⟩
theorem rws_bad (h : RwS D p kd Qs j R wh) (hv : fvF D p (Qs j) = (v, m)) (hb : 1 < m ∨ (m = 0 ∧ kd = 2)) : rwI D p kd Qs (j + 1) = none := by
  obtain ⟨r, h1, -, -⟩ := h
  exact rw_bad h1 hv hb
theorem rws_one (h : RwS D p kd Qs j R wh) (hv : fvF D p (Qs j) = (v, m)) (hm : m = 1) : RwS D p kd Qs (j + 1) (R ++ [v]) wh := by
  obtain ⟨r, h1, h2, h3⟩ := h
  refine ⟨r ++ [v], rw_one h1 hv hm, ?_, fun hw => by rw [h3 hw]⟩
  rw [h2, List.length_append]
  simp
theorem rws_skip (h : RwS D p kd Qs j R wh) (hv : fvF D p (Qs j) = (v, m)) (hb : ¬ (1 < m ∨ (m = 0 ∧ kd = 2))) (hm : m ≠ 1) : RwS D p kd Qs (j + 1) (R ++ [v]) false := by
  obtain ⟨r, h1, h2, h3⟩ := h
  have hl := rw_len _ _ h1
  exact ⟨r, rw_skip h1 hv hb hm, ⟨fun h => (by cases h), fun h => by omega⟩, fun h => (by cases h)⟩
end
theorem rrs_far {B B2 : Nat} {w w' : World} {cs : List Value} {T : List (List ByteArray)} {row : Option Nat} (h : RrS B w cs T) (hg : w.grownBy w' row) (hr : ∀ q, row = some q → B2 ≤ q) (h3 : ∀ (j : Nat) (u : Value), cs[j]? = some u → ∀ q, u.ownBlock = some q → q < B2) : RrS B w' cs T := ⟨h.1, fun j hj => by
  obtain ⟨a, c, h1, h2⟩ := h.2.1 j hj
  refine ⟨a, c, h1, own_keptB h2 hg (fun k hk e => ?_)⟩
  have h4 := hr k hk
  have h5 := h3 j _ h1 k e
  omega, h.2.2⟩
theorem infoStrS : (Tryz.prog.info? 9).map (fun i => (i.zero, i.size, i.bytes)) = some (some (.string ByteArray.empty), 1, 16) := by kernel_rfl
set_option maxRecDepth 100000 in
set_option maxHeartbeats 8000000 in
theorem s_tab (D : Dc) (n b off cap x : Nat) (k : Ky) (ad : Option Addr) (cp fm : Nat) (w : World) (hD : D.n = n) (hdk : docokB D = true) (hx : x < n) (hk : KeyOne k) (hfm : k.fl.length = fm) (z2 : k.pa.size ≤ 1048576) (z5 : ∀ i, i < fm → (k.fl[i]?.getD ⟨#[]⟩).size ≤ 1048576) (hat : TxAt w ad k.fl w.heap.size) (hbs : b < w.heap.size) (hr : DcRow w b off D w.heap.size) :
    Calls Tryz.prog 28 #[.slice (some ⟨b, off, none⟩) n cap, .int .i64 x, .agg #[.string k.nm, .int .i64 k.kd, .string k.on, .string k.pa, .slice ad fm cp, .string k.re]] w (TabAns (tbI D k.kd (kyQ k) fm (kyP D x k) (kyP D x k).length) w) := by
  obtain ⟨i0, hi, hz0, hz1, hz2⟩ := info_parts infoStrs
  obtain ⟨j0, hj, hy0, hy1, hy2⟩ := info_parts infoStrS
  have hn : n ≤ 200 := by rw [← hD]; exact (docok_facts hdk).1.2
  have h4 : fm ≤ 4 := by rw [← hfm]; exact hk.2.2.2.2.1.2
  have h1 : 1 ≤ fm := by rw [← hfm]; exact hk.2.2.2.2.1.1
  have hst := st_ok (D := D) (x := x) (n := n) (deepL k.pa.data.toList) hD hx
  have hsl := sel_ok (sg [] (restL k.pa.data.toList)) _ hst.1 hst.2
  have hPe : kyP D x k = srtL (sel D (st D x n (deepL k.pa.data.toList)) (sg [] (restL k.pa.data.toList))) := by unfold kyP; rw [hD]
  have CS : Hid (∀ w9, Below w.heap.size w w9 → Calls Tryz.prog 53 #[.slice (some ⟨b, off, none⟩) n cap, .int .i64 x, .string k.pa] w9 fun e w' => ∃ ad2 c2, e = .returned (.slice ad2 (kyP D x k).length c2) ∧ IntR w9.heap.size w' ad2 c2 (kyP D x k) ∧ Below w9.heap.size w9 w') := hide (fun w9 h9 => by
    rw [hPe]
    exact s_l11select D n b off cap w9 x k.pa hD hn hx (Nat.lt_of_lt_of_le hbs h9.size) (dcRow_up (dcRow_go hr hbs h9) h9.size) (by rw [← hD]; exact docok_good hdk) z2 hk.2.2.2.1)
  have HIN : Hid (∀ j ∈ kyP D x k, 0 ≤ j ∧ j < (n : Int)) := hide (fun j hj => by rw [hPe] at hj; rw [← hD]; exact hsl.2 j ((srt_mem _ _).1 hj))
  have hPL : (kyP D x k).length ≤ 200 := by
    rw [hPe, srt_len hsl.1]
    have := nodup_len hsl.1 (by rw [← hD] at hn; exact hsl.2)
    omega
  have CV : Hid (∀ (y j : Nat) (w9 : World), y < n → j < fm → Below w.heap.size w w9 → Calls Tryz.prog 54 #[.slice (some ⟨b, off, none⟩) n cap, .int .i64 y, .string (k.fl[j]?.getD ⟨#[]⟩)] w9 fun e w' => e = .returned (.tuple #[.string (fvF D y (kyQ k j)).1, .int .i64 (fvF D y (kyQ k j)).2]) ∧ Below w9.heap.size w9 w') := hide (fun y j w9 hy hj9 h9 => by
    have hs := hk.2.2.2.2.2 j (by rw [hfm]; exact hj9)
    obtain ⟨q, hq⟩ := Option.isSome_iff_exists.1 hs
    have h8 := s_value D n b off cap y (k.fl[j]?.getD ⟨#[]⟩) q w9 hD hdk hy (z5 j hj9) hq (Nat.lt_of_lt_of_le hbs h9.size) (dcRow_up (dcRow_go hr hbs h9) h9.size)
    have e9 : kyQ k j = q := by unfold kyQ; rw [hq]; rfl
    rw [e9]
    unfold fvF
    rw [hD]
    exact h8)
  obtain ⟨fb, fo, hfa, hfb, hfc⟩ := hat (fun e => by rw [e] at hfm; simp at hfm; omega)
  have HFC : Hid (∀ j, j < fm → w.cell? ⟨fb, fo + j, none⟩ = some (.string (k.fl[j]?.getD ⟨#[]⟩))) := hide (fun j hj9 => hfc j (by rw [hfm]; exact hj9))
  subst hfa
  obtain ⟨nm, kd, on, pa, fl, re⟩ := k
  dsimp only at CS HIN hPL CV HFC ⊢
  obtain ⟨Qs, hQs⟩ : ∃ Qs, kyQ ⟨nm, kd, on, pa, fl, re⟩ = Qs := ⟨_, rfl⟩
  obtain ⟨PL, hPLe⟩ : ∃ PL, kyP D x ⟨nm, kd, on, pa, fl, re⟩ = PL := ⟨_, rfl⟩
  rw [hPLe] at CS HIN hPL ⊢
  rw [hQs] at CV ⊢
  obtain ⟨N, hN⟩ : ∃ N, PL.length = N := ⟨_, rfl⟩
  rw [hN] at CS hPL ⊢
  have HN := hide hN
  have hK0 : ∀ T U : TypeId, CellsAt ((w.alloc (.cells #[.string nm, .int .i64 kd, .string on, .string pa, .slice (some ⟨fb, fo, none⟩) fm cp, .string re] T)).alloc (.cells #[] U)) w.heap.size #[.string nm, .int .i64 kd, .string on, .string pa, .slice (some ⟨fb, fo, none⟩) fm cp, .string re] := fun T U => cellsAt_go (cellsAt_new w _ T) ((Below.refl _ _).alloc (Nat.le_refl _) _) (by simp)
  have HK0 := hide hK0
  have sx : ∀ o p : Obj, Below w.heap.size w ((w.alloc o).alloc p) := fun o p => ((Below.refl _ _).alloc (Nat.le_refl _) o).alloc (by simp) p
  clear hD hdk hk hfm z2 z5 hat hr hst hsl hPe hfc hQs hPLe hN hK0
  go_enter Tryz.func28, Tryz.ntmps28
  go_wp2_with fail
  refine (CS.out _ (sx _ _)).mono ?_
  rintro e w2 ⟨pa2, pc2, rfl, hir, hb2⟩
  have HKC := hide (cellsAt_go (HK0.out _ _) hb2 (by simp; omega))
  have HB2 := hide ((sx _ _).trans (hb2.mono (sx _ _).size))
  have HIR := hide hir
  have HOUT : Hid (w2.ownsRow (w.heap.size + 1) 25 1 (.slice (some ⟨w.heap.size + 1, 0, none⟩) 0 0) 0 []) := hide ⟨rfl, .inr ⟨w.heap.size + 1, 0, #[], rfl, Nat.le_refl _, by
    have h9 := heap_alloc_new (w.alloc (.cells #[.string nm, .int .i64 kd, .string on, .string pa, .slice (some ⟨fb, fo, none⟩) fm cp, .string re] 27)) (.cells #[] 25)
    rw [World.size_alloc] at h9
    exact (hb2.block (w.heap.size + 1) (by simp)).trans h9, Nat.le_refl _, by unfold maxLen; omega, rfl, rfl⟩⟩
  have hw2 : w.heap.size + 1 < w2.heap.size := by have h9 := hb2.size; simp at h9; omega
  clear hir hb2 HK0
  go_wp2
  go_loopw [8, 10] (fun ov iv wr => ∃ (i L c8 : Nat) (a8 : Option Addr) (T : List (List ByteArray)) (cs : List Value), i ≤ N ∧ iv = .int .i64 i ∧ ov = .slice a8 L c8 ∧ L ≤ i ∧ Hid (T.length = L) ∧ Hid (tbI D kd Qs fm PL i = some T) ∧ Hid (wr.ownsRow (w.heap.size + 1) 25 1 (.slice a8 L c8) L cs) ∧ Hid (RrS (w.heap.size + 1) wr cs T) ∧ Hid (IntR (w.heap.size + 1) wr pa2 pc2 PL) ∧ Hid (Below (w.heap.size + 1) w2 wr)) (fun _ iv _ => N - (intOf iv).toNat)
  case atStart => exact ⟨0, 0, 0, _, [], [], Nat.zero_le _, rfl, rfl, Nat.le_refl _, hide rfl, hide rfl, HOUT, hide ⟨rfl, fun j hj => absurd hj (Nat.not_lt_zero _), fun i j u v h hu => by simp at hu⟩, hide (gOwn_lower HIR.out (by simp)), hide (Below.refl _ _)⟩
  case round =>
    obtain ⟨i, L, c8, a8, T, cs, hii, rfl, rfl, hLi, HTL, HTB, HTO, HRR, HIA, HB⟩ := hrel
    obtain ⟨WR, rfl⟩ : ∃ WR, WR = wr := ⟨_, rfl⟩
    have HBB := hide (HB2.out.trans (HB.out.mono (by omega)))
    have hsz : w2.heap.size ≤ WR.heap.size := HB.out.size
    by_cases hlt : i < N
    · have hci : (i : Int) < (N : Int) := by omega
      obtain ⟨g, hga, hgl, hc⟩ := ti_at HIA.out i (by rw [HN.out]; exact hlt)
      have hin := HIN.out (PL[i]?.getD 0) (by rw [List.getElem?_eq_getElem (by rw [HN.out]; exact hlt)]; exact List.getElem_mem _)
      obtain ⟨p, hp⟩ : ∃ p : Nat, PL[i]?.getD 0 = (p : Int) := ⟨(PL[i]?.getD 0).toNat, by omega⟩
      have HPP : Hid ((PL[i]?.getD 0).toNat = p) := hide (by rw [hp]; rfl)
      rw [hp] at hc hin
      have hpn : p < n := by omega
      have HKW := hide (cellsAt_go HKC.out HB.out (Nat.lt_succ_self _))
      have HCG := hide hc
      subst hga
      clear hc hp hin
      have HROW0 : Hid ((WR.alloc (.cells #[] 9)).ownsRow WR.heap.size 9 1 (.slice (some ⟨WR.heap.size, 0, none⟩) 0 0) 0 []) := hide ⟨rfl, .inr ⟨WR.heap.size, 0, #[], rfl, Nat.le_refl _, heap_alloc_new WR _, Nat.le_refl _, by unfold maxLen; omega, rfl, rfl⟩⟩
      go_wp2
      go_loopw [11, 12, 13] (fun rv wv jv wj => ∃ (j M c9 : Nat) (a9 : Option Addr) (R : List ByteArray) (wh : Bool), j ≤ fm ∧ jv = .int .i64 j ∧ wv = .bool wh ∧ rv = .slice a9 M c9 ∧ M = j ∧ Hid (R.length = M) ∧ Hid (RwS D p kd Qs j R wh) ∧ Hid (wj.ownsRow WR.heap.size 9 1 (.slice a9 M c9) M (R.map Value.string)) ∧ Hid (Below WR.heap.size WR wj)) (fun _ _ jv _ => fm - (intOf jv).toNat)
      case atStart => exact ⟨0, 0, 0, _, [], true, Nat.zero_le _, rfl, rfl, rfl, rfl, hide rfl, hide rws_start, HROW0, hide ((Below.refl _ _).alloc (Nat.le_refl _) _)⟩
      case round =>
        clear HROW0
        obtain ⟨j, M, c9, a9, R, wh, hjf, rfl, rfl, rfl, hMj, HRL, HRS, HRO, HBj⟩ := hrel
        subst M
        obtain ⟨WJ, rfl⟩ : ∃ WJ, WJ = wr := ⟨_, rfl⟩
        have hBJ := HBj.out
        have hKJ := cellsAt_go HKW.out hBJ (by omega)
        have k1 : WJ.cell? ⟨w.heap.size, 1, none⟩ = some (.int .i64 kd) := cellsAt_cell hKJ 1
        have k4 : WJ.cell? ⟨w.heap.size, 4, none⟩ = some (.slice (some ⟨fb, fo, none⟩) fm cp) := cellsAt_cell hKJ 4
        have HKJ := hide hKJ
        have HBW := hide (HBB.out.trans (hBJ.mono HBB.out.size))
        have hszJ : WR.heap.size ≤ WJ.heap.size := hBJ.size
        by_cases hjl : j < fm
        · have hji : (j : Int) < (fm : Int) := by omega
          have q0 : WJ.cell? ⟨g, i, none⟩ = some (.int .i64 (p : Int)) := (hBJ.cell (p := ⟨g, i, none⟩) hgl).trans HCG.out
          have f0 : WJ.cell? ⟨fb, fo + j, none⟩ = some (.string (fl[j]?.getD ⟨#[]⟩)) := (HBW.out.cell (p := ⟨fb, fo + j, none⟩) hfb).trans (HFC.out j hjl)
          have CV2 := hide (fun w9 h9 => CV.out p j w9 hpn hjl h9)
          obtain ⟨V, hV⟩ : ∃ V, fvF D p (Qs j) = V := ⟨_, rfl⟩
          rw [hV] at CV2
          have HVV := hide hV
          obtain ⟨v, many⟩ := V
          dsimp only at CV2
          obtain ⟨ft, hft⟩ : ∃ ft, fl[j]?.getD ⟨#[]⟩ = ft := ⟨_, rfl⟩
          rw [hft] at f0 CV2
          clear hV hft hBJ hKJ
          have HBWd : Hid (Below w.heap.size w WJ.drew) := hide (HBW.out.trans ⟨rfl, rfl, rfl, Nat.le_refl _, fun _ _ => rfl⟩)
          go_upto_region 11 with fail
          go_cut [14, 15] (fun vv mv wx => vv = .string v ∧ mv = .int .i64 many ∧ Hid (Below WJ.heap.size WJ wx))
          case first =>
            go_region_with (go_at_call 54; refine (CV2.out _ HBWd.out).mono ?_; rintro e w5 ⟨rfl, hb5⟩; have HH5 : Hid (Below WJ.heap.size WJ w5) := hide ⟨hb5.os, hb5.tape, hb5.output, hb5.size, hb5.block⟩; clear hb5)
            all_goals
              go_wp2
              go_meet
              exact ⟨rfl, rfl, HH5⟩
          case rest =>
            obtain ⟨rfl, rfl, HH5⟩ := hcut
            have HBW5 := hide (HBW.out.trans (HH5.out.mono HBW.out.size))
            have HBj5 := hide (HBj.out.trans (HH5.out.mono HBj.out.size))
            have HRO5 := hide (gOwn_after HRO.out HH5.out)
            have hKc := cellsAt_go HKJ.out HH5.out (cellsAt_lt HKJ.out)
            have e1 : wc.cell? ⟨w.heap.size, 1, none⟩ = some (.int .i64 kd) := cellsAt_cell hKc 1
            have hsc : WR.heap.size ≤ wc.heap.size := HBj5.out.size
            clear hKc q0 f0 k1 k4 CV2
            have FIN : (1 < many ∨ (many = 0 ∧ kd = 2)) → Hid (tbI D kd Qs fm PL N = none) := fun hb => hide (by
              have h8 := rw_stop (rws_bad HRS.out HVV.out hb) (fm - (j + 1))
              rw [show j + 1 + (fm - (j + 1)) = fm by omega] at h8
              have h9 := tb_stop (tb_bad HTB.out HPP.out h8) (N - (i + 1))
              rw [show i + 1 + (N - (i + 1)) = N by omega] at h9
              exact h9)
            by_cases hm1 : 1 < many
            · have HNO := FIN (.inl hm1)
              have hd1 : decide (1 < many) = true := decide_eq_true hm1
              clear FIN
              go_wp2
              go_ret2
              exact ⟨HBW5.out, .inr ⟨HNO.out, rfl⟩⟩
            · have hd1 : decide (1 < many) = false := decide_eq_false hm1
              by_cases hbad : many = 0 ∧ kd = 2
              · have HNO := FIN (.inr hbad)
                have hb0 : (many == 0) = true := by rw [beq_iff_eq]; exact hbad.1
                have hkb : (kd == 2) = true := by rw [beq_iff_eq]; exact hbad.2
                clear FIN hbad
                go_wp2
                go_ret2
                exact ⟨HBW5.out, .inr ⟨HNO.out, rfl⟩⟩
              · clear FIN
                have hguard : ((many == 0) && (kd == 2)) = false := by
                  cases h8 : (many == 0)
                  · rfl
                  · cases h9 : (kd == 2)
                    · rfl
                    · rw [beq_iff_eq] at h8 h9; exact absurd ⟨h8, h9⟩ hbad
                obtain ⟨wh2, hwh2⟩ : ∃ wh2, (wh && (many == 1)) = wh2 := ⟨_, rfl⟩
                have HRS2 : Hid (RwS D p kd Qs (j + 1) (R ++ [v]) wh2) := hide (by
                  by_cases he : many = 1
                  · have h9 := rws_one HRS.out HVV.out he
                    rw [← hwh2, he]
                    simpa using h9
                  · have h9 := rws_skip HRS.out HVV.out (by rintro (h | h); exact hm1 h; exact hbad h) he
                    have e9 : (many == 1) = false := by rw [beq_eq_false_iff_ne]; exact he
                    rw [← hwh2, e9, Bool.and_false]
                    exact h9)
                clear hbad
                go_upto_region 12 with fail
                go_cut [60] (fun gv wx => gv = .bool false ∧ wc = wx)
                case first =>
                  cases hb0 : (many == 0)
                  · go_wp2
                    go_meet
                    exact ⟨rfl, rfl⟩
                  · have hkb : (kd == 2) = false := by rw [hb0, Bool.true_and] at hguard; exact hguard
                    go_wp2
                    go_meet
                    exact ⟨rfl, rfl⟩
                obtain ⟨rfl, rfl⟩ := hcut
                go_upto_region 14 with fail
                go_cut [12] (fun wv wx => wv = .bool wh2 ∧ wc = wx)
                case first =>
                  cases wh
                  · rw [Bool.false_and] at hwh2
                    subst hwh2
                    go_wp2
                    go_meet
                    exact ⟨rfl, rfl⟩
                  · rw [Bool.true_and] at hwh2
                    subst hwh2
                    go_wp2
                    go_meet
                    exact ⟨rfl, rfl⟩
                case rest =>
                  obtain ⟨rfl, rfl⟩ := hcut
                  go_wp2_with (at_builtin; refine wpList_append_own _ rfl (.tmp 66) (.tmp 68) 25 rfl WR.heap.size 9 j0 (.string ByteArray.empty) 1 16 Tryz.underlying25 hj hy0 hy1 hy2 rfl (by decide) _ _ _ rfl (HRO5.out.alloc _) ⟨wc.heap.size, 0, none⟩ 1 1 [.string v] rfl rfl (fun i u hu => tb_new wc v _ i u hu) (tb_one v) (by unfold maxLen; omega) (by omega) (by simp; omega) ?_; intro v2 w7 hown2 hgrow2 _; obtain ⟨ad2, c2', hv2⟩ := gOwn_shape hown2; rw [hv2] at hown2 ⊢; clear hv2; have HB7 := hide (rt_below HBj5.out HRO5.out hsc hgrow2); have HO7 := hide hown2; clear hown2 hgrow2)
                  go_roundw
                  case rel => exact ⟨j + 1, j + 1, c2', ad2, R ++ [v], wh2, by omega, by go_num, rfl, rfl, by omega, hide (by rw [List.length_append, HRL.out]; rfl), HRS2, hide (by rw [List.map_append]; exact HO7.out), HB7⟩
                  case measure => simp [intOf]; omega
        · have hje : j = fm := by omega
          subst hje
          clear hjl k1
          have HTOj := hide (gOwn_after HTO.out HBj.out)
          have HRRj := hide (rrs_go HRR.out HBj.out)
          have HIAj := hide (gOwn_after HIA.out HBj.out)
          have HBJ2 := hide (HB.out.trans (HBj.out.mono (by omega)))
          have HLT := hide (rrs_lt HRR.out)
          have hs1 : w.heap.size + 1 ≤ WJ.heap.size := by omega
          cases wh
          · have HTB2 : Hid (tbI D kd Qs j PL (i + 1) = some T) := hide (by
              obtain ⟨r, h1, h2, h3⟩ := HRS.out
              exact tb_skip HTB.out HPP.out h1 (fun e => by have h9 := h2.2 e; cases h9))
            go_wp2
            go_roundw
            case rel => exact ⟨i + 1, L, c8, a8, T, cs, by omega, by go_num, rfl, by omega, HTL, HTB2, HTOj, HRRj, HIAj, HBJ2⟩
            case measure => simp [intOf]; omega
          · have HTB2 : Hid (tbI D kd Qs j PL (i + 1) = some (T ++ [R])) := hide (by
              obtain ⟨r, h1, h2, h3⟩ := HRS.out
              rw [h3 rfl]
              exact tb_yes HTB.out HPP.out h1 (h2.1 rfl))
            go_wp2_with (at_builtin; refine wpList_append_own _ rfl (.tmp 71) (.tmp 73) 30 rfl (w.heap.size + 1) 25 i0 (.slice none 0 0) 1 24 Tryz.underlying30 hi hz0 hz1 hz2 rfl (by decide) _ _ _ rfl (HTOj.out.alloc _) ⟨WJ.heap.size, 0, none⟩ 1 1 [.slice a9 j c9] rfl rfl (fun i u hu => ts_new WJ _ _ _ _ i u hu) (ts_one _ _ _) (by unfold maxLen; omega) (by omega) (by simp; omega) ?_; intro v2 w7 hown2 hgrow2 _; obtain ⟨ad2, c2', hv2⟩ := gOwn_shape hown2; rw [hv2] at hown2 ⊢; clear hv2; have HB7 := hide (rt_below HBJ2.out HTOj.out hs1 hgrow2); have HRR7 := hide (rrs_grown (rrs_put (B2 := WR.heap.size) HRRj.out HRL.out (gOwn_lower HRO.out (by omega)) (fun q hq => (HRO.out.lt q hq).1) HLT.out) HTOj.out (by decide) hgrow2); have HI7 := hide (own_keptB (HIAj.out.alloc _) hgrow2 (own_apart HIAj.out HTOj.out (by decide))); have HO7 := hide hown2; clear hown2 hgrow2)
            go_roundw
            case rel => exact ⟨i + 1, L + 1, c2', ad2, T ++ [R], cs ++ [.slice a9 j c9], by omega, by go_num, rfl, by omega, hide (by rw [List.length_append, HTL.out]; rfl), HTB2, HO7, HRR7, HI7, HB7⟩
            case measure => simp [intOf]; omega
    · have hie : i = N := by omega
      subst hie
      go_wp2
      go_ret2
      exact ⟨HBB.out, .inl ⟨a8, c8, T, L, cs, HTB.out, HTL.out, rfl, gOwn_lower HTO.out (by omega), rrs_low HRR.out (by omega)⟩⟩
end Go.Proofs.YtdepgkpfibmbgaaGreatDoor
