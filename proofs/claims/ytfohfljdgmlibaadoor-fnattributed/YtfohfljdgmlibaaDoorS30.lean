/-
  Texts put together: AcS4, AcS5.
-/
import Derived.Test.YtfohfljdgmlibaaDoorS29
import Derived.Test.YtfohfljdgmlibaaDoorS5
import Derived.Test.YtfohfljdgmlibaaDoorS17
/-
  Contracts: the places behind a node as often as it may stand, and whether a model takes a row, by the specification.
-/
namespace Go.Proofs.YtfohfljdgmlibaaDoor
open Go.RowKit Go.Joins
set_option linter.unusedVariables false
set_option linter.unusedSimpArgs false
/-- How many places of a row are true. -/
def isT : Option Value → Bool
  | some (.bool true) => true
  | _ => false
def ctW (w : World) (g n : Nat) : Nat := ((List.range n).filter fun j => isT (w.cell? ⟨g, j, none⟩)).length
theorem ctW_le (w : World) (g n : Nat) : ctW w g n ≤ n := by
  have := List.length_filter_le (fun j => isT (w.cell? ⟨g, j, none⟩)) (List.range n)
  rw [List.length_range] at this
  exact this
theorem filt_le {p q : Nat → Bool} : ∀ (l : List Nat), (∀ j ∈ l, p j = true → q j = true) → (l.filter p).length ≤ (l.filter q).length
  | [], _ => Nat.le_refl _
  | j :: l, h => by
    have ih := filt_le l (fun k hk => h k (List.mem_cons_of_mem _ hk))
    rw [List.filter_cons, List.filter_cons]
    cases hp : p j
    · cases hq : q j
      · simpa using ih
      · simp; omega
    · rw [h j (List.mem_cons_self ..) hp]
      simpa using ih
theorem filt_lt {p q : Nat → Bool} : ∀ (l : List Nat), (∀ j ∈ l, p j = true → q j = true) → (∃ j ∈ l, p j = false ∧ q j = true) → (l.filter p).length < (l.filter q).length
  | [], _, h => by obtain ⟨j, hj, -⟩ := h; exact absurd hj (List.not_mem_nil)
  | j :: l, h, hx => by
    have hl := filt_le l (fun k hk => h k (List.mem_cons_of_mem _ hk))
    obtain ⟨k, hk, h1, h2⟩ := hx
    rw [List.filter_cons, List.filter_cons]
    rcases List.mem_cons.1 hk with rfl | hk
    · rw [h1, h2]
      simp
      omega
    · have ih := filt_lt l (fun k hk => h k (List.mem_cons_of_mem _ hk)) ⟨k, hk, h1, h2⟩
      cases hp : p j
      · cases hq : q j
        · simpa using ih
        · simp; omega
      · rw [h j (List.mem_cons_self ..) hp]
        simpa using ih
theorem isT_bool (v : Bool) : isT (some (.bool v)) = v := by cases v <;> rfl
theorem ct_lt {B B' : Nat} {w w' : World} {g c m : Nat} {G G' : List Bool} (h1 : BoX B w g c (m + 1) G) (h2 : BoX B' w' g c (m + 1) G') (hle : ∀ b, b ≤ m → G[b]?.getD false = true → G'[b]?.getD false = true) (hx : ∃ b, b ≤ m ∧ G[b]?.getD false = false ∧ G'[b]?.getD false = true) : ctW w g (m + 1) < ctW w' g (m + 1) := by
  unfold ctW
  refine filt_lt _ (fun j hj h => ?_) ?_
  · have hj : j < m + 1 := by simpa using hj
    rw [(boX_at h1).2.2 j hj, isT_bool] at h
    rw [(boX_at h2).2.2 j hj, isT_bool]
    exact hle j (by omega) h
  · obtain ⟨b, hb, h3, h4⟩ := hx
    refine ⟨b, by simp; omega, ?_, ?_⟩
    · rw [(boX_at h1).2.2 b (by omega), isT_bool]; exact h3
    · rw [(boX_at h2).2.2 b (by omega), isT_bool]; exact h4
theorem clo_all {R : Nat → Nat → Prop} {G : List Bool} {m : Nat} (hR : ∀ a b, R a b → a ≤ b) (h : ∀ b, b ≤ m → (∃ a, a ≤ m ∧ G[a]?.getD false = true ∧ R a b) → G[b]?.getD false = true) {a b : Nat} (hs : St R a b) : b ≤ m → G[a]?.getD false = true → G[b]?.getD false = true := by
  induction hs with
  | refl => intro _ h1; exact h1
  | @step a c b h1 h2 ih =>
    intro hb ha
    have hc : c ≤ m := Nat.le_trans (st_le hR h2) hb
    exact ih hb (h c hc ⟨a, Nat.le_trans (hR _ _ h1) hc, ha, h1⟩)
/-- While a node is taken again: all that is told is behind it, and what is behind it once is told. -/
def EnS (oc : Int) (R : Nat → Nat → Prop) (f G : List Bool) (m : Nat) : Prop := (∀ b, b ≤ m → G[b]?.getD false = true → ∃ a, a ≤ m ∧ f[a]?.getD false = true ∧ rep oc R a b) ∧ (∀ b, b ≤ m → (∃ a, a ≤ m ∧ f[a]?.getD false = true ∧ R a b) → G[b]?.getD false = true) ∧ (oc = 2 → ∀ b, b ≤ m → f[b]?.getD false = true → G[b]?.getD false = true)
theorem st_snoc {R : Nat → Nat → Prop} {a b c : Nat} (h : St R a b) (k : R b c) : St R a c := h.trans (.step k (.refl _))
theorem enS_next {oc : Int} {R : Nat → Nat → Prop} {f G N G' : List Bool} {m : Nat} (ho : oc = 2 ∨ oc = 3) (h : EnS oc R f G m) (hN : Fwd G N m R) (hG : ∀ b, b ≤ m → (G'[b]?.getD false = true ↔ G[b]?.getD false = true ∨ N[b]?.getD false = true)) : EnS oc R f G' m := by
  obtain ⟨h1, h2, h3⟩ := h
  refine ⟨fun b hb h4 => ?_, fun b hb h4 => (hG b hb).2 (.inl (h2 b hb h4)), fun e b hb h4 => (hG b hb).2 (.inl (h3 e b hb h4))⟩
  rcases (hG b hb).1 h4 with h5 | h5
  · exact h1 b hb h5
  · obtain ⟨c, hc, h6, h7⟩ := (hN b hb).1 h5
    obtain ⟨a, ha, h8, h9⟩ := h1 c hc h6
    refine ⟨a, ha, h8, ?_⟩
    rcases h9 with ⟨e, -⟩ | ⟨e, -⟩ | ⟨e, hs⟩ | ⟨e, d, hd, hs⟩
    · omega
    · omega
    · exact .inr (.inr (.inl ⟨e, st_snoc hs h7⟩))
    · exact .inr (.inr (.inr ⟨e, d, hd, st_snoc hs h7⟩))
theorem enS_done {oc : Int} {R : Nat → Nat → Prop} {f G N : List Bool} {m : Nat} (hR : ∀ a b, R a b → a ≤ b) (ho : oc = 2 ∨ oc = 3) (h : EnS oc R f G m) (hN : Fwd G N m R) (hG : ∀ b, b ≤ m → N[b]?.getD false = true → G[b]?.getD false = true) : Fwd f G m (rep oc R) := by
  obtain ⟨h1, h2, h3⟩ := h
  have hc : ∀ b, b ≤ m → (∃ a, a ≤ m ∧ G[a]?.getD false = true ∧ R a b) → G[b]?.getD false = true := fun b hb h4 => hG b hb ((hN b hb).2 h4)
  refine fun b hb => ⟨fun h4 => h1 b hb h4, ?_⟩
  rintro ⟨a, ha, h4, h5⟩
  rcases h5 with ⟨e, -⟩ | ⟨e, -⟩ | ⟨e, hs⟩ | ⟨e, d, hd, hs⟩
  · omega
  · omega
  · exact clo_all hR hc hs hb (h3 e a ha h4)
  · have hdm : d ≤ m := Nat.le_trans (st_le hR hs) hb
    exact clo_all hR hc hs hb (h2 d hdm ⟨a, ha, h4, hd⟩)
set_option maxRecDepth 100000 in
set_option maxHeartbeats 16000000 in
theorem ends_of (D : Pn) (n b0 off cap : Nat) (W : List ByteArray) (m : Nat) (b : Option Addr) (cq : Nat) (f : List Bool) (fa : Option Addr) (fc i : Nat) (w : World) (hRN : RN D n) (hi : i < n) (hbs : b0 < w.heap.size) (hr : PnRow w b0 off D w.heap.size) (hm : m ≤ 200) (hq : TxAt w b W w.heap.size) (hf : f.length = m + 1) (hfa : BoAt w fa f w.heap.size)
    (hO : ∀ (f : List Bool) (fa : Option Addr) (fc : Nat) (w : World), b0 < w.heap.size → PnRow w b0 off D w.heap.size → TxAt w b W w.heap.size → f.length = m + 1 → BoAt w fa f w.heap.size → Calls Tryd.prog 88 #[.slice (some ⟨b0, off, none⟩) n cap, .int .i64 i, .slice b m cq, .slice fa ((m : Nat) + 1) fc] w (OnA m (onc D W (en D W) i) f w)) :
    Calls Tryd.prog 73 #[.slice (some ⟨b0, off, none⟩) n cap, .int .i64 i, .slice b m cq, .slice fa ((m : Nat) + 1) fc] w (OnA m (en D W i) f w) := by
  obtain ⟨i0, hi0, hz0, hz1, hz2⟩ := info_parts infoBo
  have HR := hide hr
  have HQ := hide hq
  have HF := hide hf
  have HFA := hide hfa
  have HO := hide hO
  have HRL := hide (fun a b (h : onc D W (en D W) i a b) => onc_le (fun k a b h => en_le h) h)
  have HEN := hide (fun a b => (en_iff (D := D) (W := W) (i := i) (fun j hj => hRN.2.2.2.1 j (by omega)) a b).symm)
  have hoc : 0 ≤ D.OC i ∧ D.OC i ≤ 3 := by
    have h9 := hRN.2.2.1 i hi
    unfold nodeB ndB at h9
    simp only [Bool.and_eq_true, decide_eq_true_eq] at h9
    exact h9.1
  obtain ⟨ad, cp, hc, -, -⟩ := hr i (by rw [hRN.1]; exact hi)
  obtain ⟨-, -, -, c3⟩ := hc
  have hin : (i : Int) < (n : Int) := by omega
  have hi00 : (0 : Int) ≤ (i : Int) := by omega
  have C1 := hide (hO f fa fc w hbs hr hq hf hfa)
  obtain ⟨R, hR⟩ : ∃ R, onc D W (en D W) i = R := ⟨_, rfl⟩
  rw [hR] at HRL HEN HO C1
  obtain ⟨OC, hOC⟩ : ∃ OC, D.OC i = OC := ⟨_, rfl⟩
  rw [hOC] at c3 HEN hoc
  have HC3 := hide c3
  clear hr hRN hq hf hfa hO hR hOC
  go_enter Tryd.func73, Tryd.ntmps73
  go_upto_region 3 with (first
    | (go_at_call 88; refine C1.out.mono ?_; rintro r w1 ⟨g1, c1', N1, rfl, hx1, hf1, hb1⟩; have HX1 := hide hx1; have HF1 := hide hf1; have HB1 := hide hb1; have HOW := hide (bo_own (B := w.heap.size) (w := w1) hb1.size); have HXA := hide (boX_alloc hx1 (.cells #[] 4)); clear hx1 hf1 hb1)
    | (at_builtin; refine wpList_append_src (by rfl) (.tmp 19) (.tmp 20) 90 (by rfl) w1.heap.size 4 i0 (.bool false) 1 1 Tryd.underlying90 hi0 hz0 hz1 hz2 rfl (by decide) (.slice (some ⟨w1.heap.size, 0, none⟩) 0 0) 0 [] (by rfl) (bo_own (Nat.le_refl _)) (some ⟨g1, 0, none⟩) (m + 1) c1' (N1.map Value.bool) (by rfl) (by rw [List.length_map, Nat.mul_one, HX1.out.1]) (fun _ => ⟨_, rfl, bo_src (fun j hj => by rw [Nat.zero_add]; exact (boX_at HXA.out).2.2 j (by rw [← HX1.out.1]; exact hj))⟩) (bools_one _) (by unfold maxLen; omega) (by omega) (by simp) ?_; intro a9 c9 w9 hown9 hgr9; rw [Nat.zero_add, List.nil_append] at hown9; obtain ⟨g9, rfl, hx9⟩ := boX_of HX1.out.1 (by omega) hown9; have HX9 := hide (boX_low hx9 HB1.out.size); have HB9 := hide ((HB1.out.alloc HB1.out.size (.cells #[] 4)).grown hgr9 (HB1.out.alloc HB1.out.size _).size (fun k hk => (HOW.out.lt _ hk).1)); clear hown9 hgr9 hx9))
  clear HX1 HXA HOW HB1 C1
  go_cut [35] (fun v wx => v = .bool (decide (OC = 1 ∨ OC = 2)) ∧ BoX w.heap.size wx g9 c9 (m + 1) N1 ∧ Below w.heap.size w wx)
  case first =>
    have c3 := (HB9.out.cell (p := ⟨b0, off + i * 4 + 3, none⟩) hbs).trans HC3.out
    by_cases h1 : OC = 1
    · subst h1
      go_wp2
      go_meet
      exact ⟨rfl, HX9.out, HB9.out⟩
    · have e1 : (OC == 1) = false := by simp; omega
      by_cases h2 : OC = 2
      · subst h2
        go_wp2
        go_meet
        exact ⟨rfl, HX9.out, HB9.out⟩
      · have e2 : (OC == 2) = false := by simp; omega
        have HD : Hid (decide (OC = 1 ∨ OC = 2) = false) := hide (by simp; omega)
        clear h1 h2
        go_wp2
        go_meet
        exact ⟨by rw [HD.out], HX9.out, HB9.out⟩
  case rest =>
    obtain ⟨rfl, hx9, hb9⟩ := hcut
    clear HX9 HB9
    have HX9 := hide hx9
    have HB9 := hide hb9
    clear hx9 hb9
    go_upto_if 35 with fail
    go_cut [] (fun wx => ∃ G, BoX w.heap.size wx g9 c9 (m + 1) G ∧ Below w.heap.size w wx ∧ (OC < 2 → Fwd f G m (rep OC R)) ∧ (2 ≤ OC → EnS OC R f G m))
    case first =>
      by_cases ho : OC = 1 ∨ OC = 2
      · have HOO := hide ho
        have HDD : decide (OC = 1 ∨ OC = 2) = true := decide_eq_true ho
        rw [HDD]
        rcases ho with rfl | rfl
        all_goals
          clear HDD
          go_wp2
          go_loopw [11] (fun mv wr => ∃ (j : Nat) (G' : List Bool), j ≤ m + 1 ∧ mv = .int .i64 j ∧ Hid (BoX w.heap.size wr g9 c9 (m + 1) G') ∧ Hid (Below w.heap.size w wr) ∧ Hid (Mix N1 f G' m j)) (fun mv _ => m + 1 - (intOf mv).toNat)
          case atStart => exact ⟨0, N1, Nat.zero_le _, rfl, HX9, HB9, hide (mix_zero N1 f m)⟩
          case round =>
            clear HX9 HB9
            obtain ⟨j, G', hj, rfl, HX, HB, HM⟩ := hrel
            by_cases hlj : j < m + 1
            · have u0 := (boX_at HX.out).2.2 j hlj
              have uz := boX_frozen HX.out j
              obtain ⟨fb, fo, rfl, hfb, hfc⟩ := bo_go HFA.out HB.out
              have v0 := hfc j (by rw [HF.out]; exact hlj)
              have hji : (j : Int) < ((m : Nat) + 1 : Int) := by omega
              have hj0 : (0 : Int) ≤ (j : Int) := by omega
              have HMN := hide (mix_next HM.out HX.out.1 (by omega))
              obtain ⟨x, hx⟩ : ∃ x, G'[j]?.getD false = x := ⟨_, rfl⟩
              obtain ⟨y, hy⟩ : ∃ y, f[j]?.getD false = y := ⟨_, rfl⟩
              rw [hx, hy] at HMN
              rw [hx] at u0
              rw [hy] at v0
              have HXS := hide (boX_set HX.out j (x || y))
              have HBS := hide (HB.out.setCell (p := ⟨g9, j, none⟩) (boX_at HX.out).1 (.bool (x || y)))
              clear hx hy hfc
              cases x
              · rw [Bool.false_or] at HMN HXS HBS
                go_wp2
                go_roundw
                case rel => exact ⟨j + 1, _, by omega, by go_num, HXS, HBS, HMN⟩
                case measure => simp [intOf]; omega
              · rw [Bool.true_or] at HMN HXS HBS
                go_wp2
                go_roundw
                case rel => exact ⟨j + 1, _, by omega, by go_num, HXS, HBS, HMN⟩
                case measure => simp [intOf]; omega
            · have hjm : j = m + 1 := by omega
              subst hjm
              have HD := hide (mix_done HM.out)
              go_wp2
              go_meet
              refine ⟨G', HX.out, HB.out, fun h => ?_, fun h => ?_⟩
              · intro b hb
                rw [HD.out b hb, HF1.out b hb]
                constructor
                · rintro (⟨a, h1, h2, h3⟩ | h1)
                  · exact ⟨a, h1, h2, .inr (.inl ⟨by omega, .inr h3⟩)⟩
                  · exact ⟨b, hb, h1, .inr (.inl ⟨by omega, .inl rfl⟩)⟩
                · rintro ⟨a, h1, h2, h3⟩
                  rcases h3 with ⟨e, -⟩ | ⟨-, rfl | h3⟩ | ⟨e, -⟩ | ⟨e, -⟩
                  · omega
                  · exact .inr h2
                  · exact .inl ⟨a, h1, h2, h3⟩
                  · omega
                  · omega
              · refine ⟨fun b hb h4 => ?_, fun b hb h4 => (HD.out b hb).2 (.inl ((HF1.out b hb).2 h4)), fun _ b hb h4 => (HD.out b hb).2 (.inr h4)⟩
                rcases (HD.out b hb).1 h4 with h5 | h5
                · obtain ⟨a, h6, h7, h8⟩ := (HF1.out b hb).1 h5
                  exact ⟨a, h6, h7, .inr (.inr (.inl ⟨by omega, .step h8 (.refl _)⟩))⟩
                · exact ⟨b, hb, h5, .inr (.inr (.inl ⟨by omega, .refl _⟩))⟩
      · have HOO := hide ho
        rw [decide_eq_false ho]
        clear ho
        go_wp2
        go_meet
        refine ⟨N1, HX9.out, HB9.out, fun h => ?_, fun h => ?_⟩
        · have h0 : OC = 0 := by have := HOO.out; omega
          exact fwd_congr HF1.out (fun a b => ⟨fun h => .inl ⟨h0, h⟩, fun h => by
            rcases h with ⟨-, h⟩ | ⟨e, -⟩ | ⟨e, -⟩ | ⟨e, -⟩
            · exact h
            · omega
            · omega
            · omega⟩)
        · have h3 : OC = 3 := by have := HOO.out; omega
          refine ⟨fun b hb h4 => ?_, fun b hb h4 => (HF1.out b hb).2 h4, fun e => by omega⟩
          obtain ⟨a, h6, h7, h8⟩ := (HF1.out b hb).1 h4
          exact ⟨a, h6, h7, .inr (.inr (.inr ⟨h3, b, h8, .refl _⟩))⟩
    case rest =>
      obtain ⟨G, hx, hb, hlow, hhigh⟩ := hcut
      have HX := hide hx
      have HB := hide hb
      have HLOW := hide hlow
      have HHIGH := hide hhigh
      have c3 := (hb.cell (p := ⟨b0, off + i * 4 + 3, none⟩) hbs).trans HC3.out
      clear hx hb hlow hhigh HX9 HB9
      by_cases ho : OC < 2
      · have HFW := hide (fwd_congr (HLOW.out ho) HEN.out)
        go_wp2
        go_ret
        exact ⟨g9, c9, G, rfl, HX.out, HFW.out, HB.out⟩
      · have ho2 : OC = 2 ∨ OC = 3 := by omega
        have HES := hide (HHIGH.out (by omega))
        have HO2 := hide ho2
        clear HLOW HHIGH
        go_wp2
        go_loopw [9] (fun nv wr => ∃ (G : List Bool), Hid (BoX w.heap.size wr g9 c9 (m + 1) G) ∧ Hid (Below w.heap.size w wr) ∧ Hid (EnS OC R f G m)) (fun _ wr => m + 1 - ctW wr g9 (m + 1))
        case atStart => exact ⟨G, HX, HB, HES⟩
        case round =>
          clear HX HB HES c3
          obtain ⟨G, HX, HB, HES⟩ := hrel
          have CO := hide (HO.out G (some ⟨g9, 0, none⟩) c9 wr (Nat.lt_of_lt_of_le hbs HB.out.size) (pnRow_up (pnRow_go HR.out hbs HB.out) HB.out.size) (tx_up (tx_go HQ.out HB.out) HB.out.size) HX.out.1 (boX_bo HX.out))
          go_wp2_with (first | (go_at_call 88; refine CO.out.mono ?_; rintro r w2 ⟨g2, c2', N, rfl, hx2, hf2, hb2⟩; have HX2 := hide hx2; have HX3 := hide (boX_go HX.out hb2); have HF2 := hide hf2; have HB3 := hide (HB.out.trans (hb2.mono HB.out.size)); have hg2 : g9 < g2 := (by have h8 := (boX_at hx2).1; have h9 := (boX_at HX.out).2.1; omega); clear hx2 hf2 hb2))
          obtain ⟨wo, hwo⟩ : ∃ wo, wr = wo := ⟨_, rfl⟩
          have HXO : Hid (BoX w.heap.size wo g9 c9 (m + 1) G) := hide (by rw [← hwo]; exact HX.out)
          obtain ⟨Z, hZ⟩ : ∃ Z, wr.heap.size = Z := ⟨_, rfl⟩
          rw [hZ] at HX2
          have HWO := hide hwo
          clear hZ hwo
          go_loopw [12, 13] (fun ov mv wr => ∃ (j : Nat) (G' : List Bool) (mo : Bool), j ≤ m + 1 ∧ mv = .int .i64 j ∧ ov = .bool mo ∧ Hid (BoX w.heap.size wr g9 c9 (m + 1) G') ∧ Hid (BoX Z wr g2 c2' (m + 1) N) ∧ Hid (Below w.heap.size w wr) ∧ Hid (Mix G N G' m j) ∧ Hid (mo = true ↔ ∃ b, b < j ∧ N[b]?.getD false = true ∧ G[b]?.getD false = false)) (fun _ mv _ => m + 1 - (intOf mv).toNat)
          case atStart => exact ⟨0, G, false, Nat.zero_le _, rfl, rfl, HX3, HX2, HB3, hide (mix_zero G N m), hide ⟨fun h => (by cases h), fun ⟨b, hb, _⟩ => by omega⟩⟩
          case round =>
            clear HX2 HX3 HB3 HX HB
            obtain ⟨j, G', mo, hj, rfl, rfl, HX, HX2, HB, HM, HMO⟩ := hrel
            by_cases hlj : j < m + 1
            · have u0 := (boX_at HX.out).2.2 j hlj
              have uz := boX_frozen HX.out j
              have v0 := (boX_at HX2.out).2.2 j hlj
              have hji : (j : Int) < ((m : Nat) + 1 : Int) := by omega
              have hj0 : (0 : Int) ≤ (j : Int) := by omega
              have HMN := hide (mix_next HM.out HX.out.1 (by omega))
              have HGJ : Hid (G'[j]?.getD false = G[j]?.getD false) := hide (by rw [HM.out j (by omega), if_neg (by omega)])
              obtain ⟨x, hx⟩ : ∃ x, G'[j]?.getD false = x := ⟨_, rfl⟩
              obtain ⟨y, hy⟩ : ∃ y, N[j]?.getD false = y := ⟨_, rfl⟩
              have HMO2 : Hid ((mo || (y && !x)) = true ↔ ∃ b, b < j + 1 ∧ N[b]?.getD false = true ∧ G[b]?.getD false = false) := hide (by
                rw [Bool.or_eq_true, HMO.out]
                constructor
                · rintro (⟨b, h1, h2⟩ | h)
                  · exact ⟨b, by omega, h2⟩
                  · rw [Bool.and_eq_true, Bool.not_eq_true'] at h
                    exact ⟨j, by omega, by rw [hy]; exact h.1, by rw [← HGJ.out, hx]; exact h.2⟩
                · rintro ⟨b, h1, h2, h3⟩
                  by_cases e : b = j
                  · subst e
                    right
                    rw [← HGJ.out, hx] at h3
                    rw [hy] at h2
                    rw [h2, h3]
                    rfl
                  · exact .inl ⟨b, by omega, h2, h3⟩)
              rw [hx, hy] at HMN
              rw [hx] at u0
              rw [hy] at v0
              have HXS := hide (boX_set HX.out j (x || y))
              have HX2S := hide (boX_far HX2.out (p := ⟨g9, j, none⟩) (by show g9 ≠ g2; omega) (.bool (x || y)))
              have HBS := hide (HB.out.setCell (p := ⟨g9, j, none⟩) (boX_at HX.out).1 (.bool (x || y)))
              clear hx hy
              cases mo <;> cases x <;> cases y
              all_goals
                go_wp2
                go_roundw
                case rel => exact ⟨j + 1, _, _, by omega, by go_num, rfl, HXS, HX2S, HBS, HMN, hide (by simpa using HMO2.out)⟩
                case measure => simp [intOf]; omega
            · have hjm : j = m + 1 := by omega
              subst hjm
              have HD := hide (mix_done HM.out)
              cases mo
              · have HNG : Hid (∀ b, b ≤ m → N[b]?.getD false = true → G[b]?.getD false = true) := hide (fun b hb h => by
                  cases hg : G[b]?.getD false
                  · have := HMO.out.2 ⟨b, by omega, h, hg⟩
                    cases this
                  · rfl)
                have HFW : Hid (Fwd f G' m (en D W i)) := hide (by
                  have h1 := fwd_congr (enS_done HRL.out HO2.out HES.out HF2.out HNG.out) HEN.out
                  intro b hb
                  rw [← h1 b hb, HD.out b hb]
                  exact ⟨fun h => h.elim id (fun h => HNG.out b hb h), .inl⟩)
                go_wp2
                go_ret
                exact ⟨g9, c9, G', rfl, HX.out, HFW.out, HB.out⟩
              · have HES2 := hide (enS_next HO2.out HES.out HF2.out HD.out)
                have HLT : Hid (ctW wo g9 (m + 1) < ctW wr g9 (m + 1)) := hide (ct_lt HXO.out HX.out (fun b hb h => (HD.out b hb).2 (.inl h)) (by
                  obtain ⟨b, h1, h2, h3⟩ := HMO.out.1 rfl
                  exact ⟨b, by omega, h3, (HD.out b (by omega)).2 (.inr h2)⟩))
                have HLE := hide (ctW_le wr g9 (m + 1))
                go_wp2
                go_roundw
                case rel => exact ⟨G', HX, HB, HES2⟩
                case measure =>
                  have h1 := HLT.out
                  have h2 := HLE.out
                  have h3 := HWO.out
                  subst h3
                  omega
end Go.Proofs.YtfohfljdgmlibaaDoor

/-
  Contracts: whether a model takes a row, by the specification.
-/
namespace Go.Proofs.YtfohfljdgmlibaaDoor
open Go.RowKit Go.Joins
set_option linter.unusedVariables false
set_option linter.unusedSimpArgs false
theorem s_ends (D : Pn) (n b0 off cap : Nat) (W : List ByteArray) (m : Nat) (b : Option Addr) (cq : Nat) (hRN : RN D n) (hW : W.length = m) (hm : m ≤ 200) : ∀ (k i : Nat), i < k → i < n → ∀ (f : List Bool) (fa : Option Addr) (fc : Nat) (w : World), b0 < w.heap.size → PnRow w b0 off D w.heap.size → TxAt w b W w.heap.size → f.length = m + 1 → BoAt w fa f w.heap.size →
    Calls Tryd.prog 73 #[.slice (some ⟨b0, off, none⟩) n cap, .int .i64 i, .slice b m cq, .slice fa ((m : Nat) + 1) fc] w (OnA m (en D W i) f w)
  | 0, i, h, _ => by omega
  | k + 1, i, h, hi => fun f fa fc w h1 h2 h3 h4 h5 =>
    ends_of D n b0 off cap W m b cq f fa fc i w hRN hi h1 h2 hm h3 h4 h5 (fun f fa fc w h1 h2 h3 h4 h5 => by
      have hE := fun (c : Nat) (hc : c < i) => s_ends D n b0 off cap W m b cq hRN hW hm k c (by omega) (by omega)
      rcases rn_kinds hRN hi with e | e | e | e
      · exact once_leaf1 D n b0 off cap W m b cq f fa fc i w hRN hi e h1 h2 hW hm h3 h4 h5
      · exact once_seq D n b0 off cap W m b cq f fa fc i w hRN hi e h1 h2 hW hm h3 h4 h5 hE
      · exact once_or D n b0 off cap W m b cq f fa fc i w hRN hi e h1 h2 hW hm h3 h4 h5 hE
      · exact once_leaf4 D n b0 off cap W m b cq f fa fc i w hRN hi e h1 h2 hW hm h3 h4 h5)
theorem fwd_first {G : List Bool} {m : Nat} {R : Nat → Nat → Prop} (h : Fwd ((List.replicate (m + 1) false).set 0 true) G m R) : G[m]?.getD false = true ↔ R 0 m := by
  rw [h m (Nat.le_refl _)]
  constructor
  · rintro ⟨a, ha, h1, h2⟩
    rw [set_at _ 0 true (by simp) a] at h1
    by_cases e : a = 0
    · subst e; exact h2
    · rw [if_neg e, rep_false] at h1; cases h1
  · intro h1
    exact ⟨0, Nat.zero_le _, by rw [set_at _ 0 true (by simp) 0, if_pos rfl], h1⟩
set_option maxRecDepth 100000 in
set_option maxHeartbeats 8000000 in
theorem s_takes (D : Pn) (n b0 off cap : Nat) (W : List ByteArray) (m : Nat) (b : Option Addr) (cq : Nat) (w : World) (hRN : RN D n) (hn1 : 1 ≤ n) (hW : W.length = m) (hm : m ≤ 200) (hbs : b0 < w.heap.size) (hr : PnRow w b0 off D w.heap.size) (hq : TxAt w b W w.heap.size) :
    Calls Tryd.prog 38 #[.slice (some ⟨b0, off, none⟩) n cap, .slice b m cq] w fun r w' => ∃ B : Bool, r = .returned (.bool B) ∧ (B = true ↔ en D W (n - 1) 0 m) ∧ Below w.heap.size w w' := by
  obtain ⟨i0, hi0, hz0, hz1, hz2⟩ := info_parts infoBo
  have hn40 := hRN.2.1
  have HC := hide (fun (g : Nat) (U : World) (hU : Below w.heap.size w U) (hx : BoX w.heap.size U g (m + 1) (m + 1) ((List.replicate (m + 1) false).set 0 true)) => s_ends D n b0 off cap W m b cq hRN hW hm n (n - 1) (by omega) (by omega) _ (some ⟨g, 0, none⟩) (m + 1) U (Nat.lt_of_lt_of_le hbs hU.size) (pnRow_up (pnRow_go hr hbs hU) hU.size) (tx_up (tx_go hq hU) hU.size) hx.1 (boX_bo hx))
  have hnn : (n : Int) - 1 = ((n - 1 : Nat) : Int) := by omega
  have hwp : IntKind.i64.wrap ((n - 1 : Nat) : Int) = ((n - 1 : Nat) : Int) := by rw [IntKind.wrap_i64]; omega
  obtain ⟨R, hR⟩ : ∃ R, en D W (n - 1) = R := ⟨_, rfl⟩
  rw [hR] at HC ⊢
  have hm0 : (0 : Int) < ((m : Nat) + 1 : Int) := by omega
  have hm1 : (m : Int) < ((m : Nat) + 1 : Int) := by omega
  have hm2 : (0 : Int) ≤ (m : Int) := by omega
  clear hRN hW hr hq hR
  go_enter Tryd.func38, Tryd.ntmps38
  go_upto_region 2 with (first | (at_make; refine wpList_make_full _ rfl _ _ 90 rfl w.heap.size 4 i0 (.bool false) 1 Tryd.underlying90 hi0 hz0 hz1 .i64 .i64 _ _ (m + 1) rfl rfl (by go_num) (by go_num) (by rw [hz2]; omega) (by unfold maxLen; omega) (Nat.le_refl _) ?_; intro w1 hown hgrow; rw [made_false] at hown; have HX1 : Hid (BoX w.heap.size w1 w.heap.size (m + 1) (m + 1) (List.replicate (m + 1) false)) := hide ⟨by rw [List.length_replicate], hown⟩; have HB1 : Hid (Below w.heap.size w w1) := hide ((Below.refl _ _).grown hgrow (Nat.le_refl _) (fun k h => by cases h)); clear hown hgrow))
  have u0 := (boX_at HX1.out).2.2 0 (by omega)
  rw [rep_false] at u0
  have uz := boX_frozen HX1.out 0
  have HXS := hide (boX_set HX1.out 0 true)
  have HBS := hide (HB1.out.setCell (p := ⟨w.heap.size, 0, none⟩) (Nat.le_refl _) (.bool true))
  clear HX1 HB1
  go_wp2_with (first | (go_at_call 73; refine (HC.out _ _ HBS.out HXS.out).mono ?_; rintro r w2 ⟨g2, c2, G, rfl, hx2, hf2, hb2⟩; have k0 := (boX_at hx2).2.2 m (by omega); have HF := hide (fwd_first hf2); have HB2 := hide (HBS.out.trans (hb2.mono HBS.out.size)); clear hx2 hf2 hb2 u0 uz))
  go_ret
  exact ⟨_, rfl, HF.out, HB2.out⟩
set_option maxRecDepth 100000 in
set_option maxHeartbeats 8000000 in
theorem s_accepts (D : Pn) (n : Nat) (a : Option Addr) (cap : Nat) (W : List ByteArray) (m : Nat) (b : Option Addr) (cq : Nat) (w : World) (hD : D.n = n) (hz : pnTot D ≤ 1048576) (hr : PnAt w a D w.heap.size) (hW : W.length = m) (hm : m ≤ 1048576) (hq : TxAt w b W w.heap.size) :
    Calls Tryd.prog 10 #[.slice a n cap, .slice b m cq] w fun r w' => ∃ B : Bool, r = .returned (.bool B) ∧ (B = true ↔ AcP D W) ∧ Below w.heap.size w w' := by
  have HP := hide (s_particle D n a cap w hD hz hr)
  cases hpk : pkB D
  · rw [hpk] at HP
    have HE : Hid ((false = true) ↔ AcP D W) := hide ⟨fun h => (by cases h), fun h => (by rw [h.1] at hpk; cases hpk)⟩
    clear hD hz hr hpk hW hq
    go_enter Tryd.func10, Tryd.ntmps10
    go_wp2_with (first | (go_at_call 11; refine HP.out.mono ?_; rintro r w1 ⟨rfl, hb1⟩; have HB1 := hide hb1; clear hb1))
    go_ret
    exact ⟨false, rfl, HE.out, HB1.out⟩
  · by_cases h200 : 200 < m
    · rw [hpk] at HP
      have HE : Hid ((false = true) ↔ AcP D W) := hide ⟨fun h => (by cases h), fun h => (by have := h.2.1; rw [hW] at this; omega)⟩
      have h2i : (200 : Int) < (m : Int) := by omega
      clear hD hz hr hpk hW hq
      go_enter Tryd.func10, Tryd.ntmps10
      go_wp2_with (first | (go_at_call 11; refine HP.out.mono ?_; rintro r w1 ⟨rfl, hb1⟩; have HB1 := hide hb1; clear hb1))
      go_ret
      exact .inl ⟨rfl, fun h => (by cases HE.out.2 h), HB1.out⟩
    · have hRN := rn_of hD hpk hz
      have hn1 : 1 ≤ n ∧ n ≤ 40 := by rw [← hD]; exact (pk_facts hpk).1
      obtain ⟨b0, off, rfl, hb0, hrow⟩ := hr (by rw [hD]; omega)
      have CN := hide (fun (U : World) (hU : Below w.heap.size w U) => s_takes D n b0 off cap W m b cq U hRN hn1.1 hW (by omega) (Nat.lt_of_lt_of_le hb0 hU.size) (pnRow_up (pnRow_go hrow hb0 hU) hU.size) (tx_up (tx_go hq hU) hU.size))
      have HE : Hid (en D W (n - 1) 0 m ↔ AcP D W) := hide (by unfold AcP; rw [hD, hW]; exact ⟨fun h => ⟨hpk, by omega, h⟩, fun h => h.2.2⟩)
      have h2i : (m : Int) ≤ 200 := by omega
      rw [hpk] at HP
      clear hD hz hr hpk hrow hRN hW hq
      go_enter Tryd.func10, Tryd.ntmps10
      go_wp2_with (first
        | (go_at_call 11; refine HP.out.mono ?_; rintro r w1 ⟨rfl, hb1⟩; have HB1 := hide hb1; clear hb1)
        | (go_at_call 38; refine (CN.out _ HB1.out).mono ?_; rintro r w2 ⟨B, rfl, hB, hb2⟩; have HBB := hide hB; have HB2 := hide (HB1.out.trans (hb2.mono HB1.out.size)); clear hB hb2))
      go_ret
      exact ⟨B, rfl, HBB.out.trans HE.out, HB2.out⟩
end Go.Proofs.YtfohfljdgmlibaaDoor
