/-
  Contract of the program's reader of models: one node, where its kids are read as they must be.
-/
import Derived.Test.YtfohfljdgmlibaaW40
namespace Go.Proofs.Ytfohfljdgmlibaa
open Go.RowKit Go.Joins
set_option linter.unusedVariables false
set_option linter.unusedSimpArgs false
section
variable {R B X : Nat} {u u1 u2 : ByteArray} {w0 w1 w2 w3 : World} {S0 : Nat → Prop} {ro : Option Nat} {ad ad2 : Option Addr} {m c m2 c2 : Nat} {D D2 : Pn} {k k2 : Int} {nm : ByteArray} {kad2 : Option Addr} {L2 : List Int} {kc2 : Nat} {oc : Int}
theorem rj_kidsX (h : RJ R B w0 S0 ro X w1 u ad m c D k nm none [] 0 oc) (hk2 : Kp (fun j => j = R ∨ (Value.slice ad m c).ownBlock = some j) w1 w2) : XN w2 X k nm none 0 0 oc := by
  have hlt := h.lt
  have hx := h.hx
  refine (hk2.block _ (xn_lt h.nd) ?_).trans h.nd
  rintro (e | e)
  · omega
  · exact (h.ob _ e).2 rfl
/-- The kids that were read are laid into the node. -/
theorem rj_kids {nm3 : ByteArray} {oc3 : Int} (h : RJ R B w0 S0 ro X w1 u ad m c D k nm none [] 0 oc) (h2 : MR w2 R u2 ad2 m2 c2) (hpo2 : POZ 1048576 B (fun j => (((S0 j ∨ w0.heap.size ≤ j) ∧ (Value.slice none 0 0).ownBlock ≠ some j) ∨ w1.heap.size ≤ j) ∧ (Value.slice kad2 L2.length kc2).ownBlock ≠ some j) w2 ad2 m2 c2 D2) (hkk : w2.ownsRow 0 2 1 (.slice kad2 L2.length kc2) L2.length (L2.map (Value.int .i64))) (hkb : ∀ j, (Value.slice kad2 L2.length kc2).ownBlock = some j → w1.heap.size ≤ j)
    (hk2 : Kp (fun j => j = R ∨ (Value.slice ad m c).ownBlock = some j) w1 w2) (hnew : ∀ j, (Value.slice ad2 m2 c2).ownBlock = some j → (Value.slice ad m c).ownBlock = some j ∨ w1.heap.size ≤ j) (hk3 : Kp (fun j => j = X) w2 w3) (hn3 : XN w3 X k2 nm3 kad2 L2.length kc2 oc3) : RJ R B w0 S0 ro X w3 u2 ad2 m2 c2 D2 k2 nm3 kad2 L2 kc2 oc3 := by
  have hX2 := rj_kidsX h hk2
  have hlt := h.lt
  have hx := h.hx
  have hX := xn_lt h.nd
  have hsz := h.kp.size
  have hob : ∀ j, (Value.slice ad2 m2 c2).ownBlock = some j → ((ro = some j ∧ j < w0.heap.size) ∨ w0.heap.size ≤ j) ∧ j ≠ X := fun j hj => by
    rcases hnew j hj with e | e
    · exact h.ob j e
    · exact ⟨.inr (by omega), by omega⟩
  refine ⟨mr_kp h2 hk3 (by omega), hn3, own_kp hkk hk3 (fun j hj => type_ne hkk hj hX2 (by decide)), ?_, ?_, hob, fun j hj => by have := hkb j hj; omega, h.lt, h.hx⟩
  · refine po_imp (po_kp hpo2 hk3 (fun j hj => (hob j hj).2) (fun B' z n v ys j hv hj _ => type_ne hv hj hX2 (by decide))) (fun j _ hj => ⟨?_, hj.2⟩)
    rcases hj.1 with e | e
    · exact e.1
    · exact .inr (by omega)
  · refine (h.kp.trans hk2 (fun j h5 h6 => ?_)).trans hk3 (fun j h5 h6 => by omega)
    rcases h6 with e | e
    · exact .inl e
    · rcases (h.ob _ e).1 with ⟨e, -⟩ | e
      · exact .inr e
      · omega
end
/-- What holds when a node's body is read. -/
def RpS (R B : Nat) (u : ByteArray) (w0 : World) (S0 : Nat → Prop) (ro : Option Nat) (D : Pn) (dd : Nat) (w : World) : Prop :=
  ∃ u1 ad1 m1 c1 D1 k1 nm1 kad1 L1 kc1, RJ R B w0 S0 ro w0.heap.size w u1 ad1 m1 c1 D1 k1 nm1 kad1 L1 kc1 0 ∧ RpB u D D1 k1 nm1 L1 u1 ∧ u1.size ≤ u.size ∧ (m1 + dd ≤ 48 ∧ L1.length ≤ 100 ∧ nm1.size ≤ 1048576)
set_option maxRecDepth 100000 in
set_option maxHeartbeats 8000000 in
theorem i_partF (R B dd : Nat) (u : ByteArray) (m : Nat) (ad : Option Addr) (c : Nat) (D : Pn) (S : Nat → Prop) (w : World) (hu : u.size ≤ 1048576) (hdd : dd ≤ 9) (hm : m ≤ 49) (hB : B ≤ w.heap.size) (h : MR w R u ad m c) (hpo : POZ 1048576 B S w ad m c D)
    (hK : ∀ (u : ByteArray) (m : Nat) (ad : Option Addr) (c : Nat) (D : Pn) (S : Nat → Prop) (w : World), u.size ≤ 1048576 → m < 40 → B ≤ w.heap.size → MR w R u ad m c → POZ 1048576 B S w ad m c D → Calls Try.prog 70 #[.pointer (some ⟨R, 0, none⟩), .int .i64 ((dd : Int) + 1)] w (RkAns R B u (.slice ad m c) S D dd w)) :
    Calls Try.prog 49 #[.pointer (some ⟨R, 0, none⟩), .int .i64 (dd : Int)] w (RpAns R B u (.slice ad m c) S D dd w) := by
  obtain ⟨i1, hi1, hy0, hy1, hy2⟩ := info_parts infoPN
  have HH := hide h
  have HP := hide hpo
  have HK := hide hK
  obtain ⟨c0, c1⟩ := mr_cells h
  have hd9 : (dd : Int) ≤ 9 := by omega
  have hd9d : decide ((dd : Int) ≤ 9) = true := decide_eq_true hd9
  have H0 : Hid (RJ R B w S (Value.slice ad m c).ownBlock w.heap.size (w.alloc (.cells #[.int .i64 0, .string ⟨#[]⟩, .slice none 0 0, .int .i64 0] 46)).drew u ad m c D 0 ⟨#[]⟩ none [] 0 0) := hide (rj_dr (rj_new (L := []) HH.out (po_imp HP.out (fun j _ hj => ⟨.inl hj, fun e => by cases e⟩)) (World.ownsRow_nil _ _ _ _) (Kp.refl _ _) (fun j hj => .inl ⟨hj, po_lt HP.out j hj⟩) (fun j hj => by cases hj) (mr_lt HH.out) 0 ⟨#[]⟩ 0))
  clear h hpo hK
  by_cases h40 : m < 40
  case neg => exact i_partM R B dd u m ad c D S w hu hdd h40 hB HH.out HP.out
  case pos =>
    have hm4 : (m : Int) < 40 := by omega
    have hm4d : decide ((m : Int) < 40) = true := decide_eq_true hm4
    go_enter Try.func49, Try.ntmps49
    go_wp2_with fail
    refine wp_region_any (by kernel_rfl) ?_
    try (change wpAny _ _ _ _ _ _ _ (World.drew _))
    refine wpAny_take (i := 0) (v := (.pointer (some ⟨R, 0, none⟩))) rfl (by kernel_rfl) (by kernel_rfl) (by kernel_rfl) (fun _ _ _ h => h) (Or.inl ⟨by kernel_rfl, ?hy0⟩) ?_
    case hy0 => (intro w; go_simp; try with_reducible rfl)
    refine wpAny_take (i := 1) (v := (.pointer (some ⟨R, 0, none⟩))) rfl (by kernel_rfl) (by kernel_rfl) (by kernel_rfl) (fun _ _ _ h => h) (Or.inl ⟨by kernel_rfl, ?hy1⟩) ?_
    case hy1 => (intro w; go_simp; try with_reducible rfl)
    refine wpAny_take (i := 2) (v := (.pointer (some ⟨R, 0, none⟩))) rfl (by kernel_rfl) (by kernel_rfl) (by kernel_rfl) (fun _ _ _ h => h) (Or.inl ⟨by kernel_rfl, ?hy2⟩) ?_
    case hy2 => (intro w; go_simp; try with_reducible rfl)
    refine wpAny_take (i := 3) (v := (.int .i64 (dd : Int))) rfl (by kernel_rfl) (by kernel_rfl) (by kernel_rfl) (fun _ _ _ h => h) (Or.inl ⟨by kernel_rfl, ?hy3⟩) ?_
    case hy3 => (intro w; go_simp; try with_reducible rfl)
    refine wpAny_take (i := 4) (v := (.bool true)) rfl (by kernel_rfl) (by kernel_rfl) (by kernel_rfl) (fun _ _ _ h => h) (Or.inl ⟨by kernel_rfl, ?hy4⟩) ?_
    case hy4 => (intro w; go_simp; try with_reducible rfl)
    refine wpAny_take (i := 5) (v := (.bool true)) rfl (by kernel_rfl) (by kernel_rfl) (by kernel_rfl) (fun _ _ _ h => h) (Or.inl ⟨by kernel_rfl, ?hy5⟩) ?_
    case hy5 => (intro w; go_simp; try with_reducible rfl)
    refine wpAny_take (i := 6) (v := (.pointer (some ⟨R, 0, none⟩))) rfl (by kernel_rfl) (by kernel_rfl) (by kernel_rfl) (fun _ _ _ h => h) (Or.inl ⟨by kernel_rfl, ?hy6⟩) ?_
    case hy6 => (intro w; go_simp; try with_reducible rfl)
    refine wpAny_take (i := 7) (v := (.pointer (some ⟨R, 0, none⟩))) rfl (by kernel_rfl) (by kernel_rfl) (by kernel_rfl) (fun _ _ _ h => h) (Or.inl ⟨by kernel_rfl, ?hy7⟩) ?_
    case hy7 => (intro w; go_simp; try with_reducible rfl)
    refine wpAny_take (i := 8) (v := (.pointer (some ⟨R, 1, none⟩))) rfl (by kernel_rfl) (by kernel_rfl) (by kernel_rfl) (fun _ _ _ h => h) (Or.inl ⟨by kernel_rfl, ?hy8⟩) ?_
    case hy8 => (intro w; go_simp; try with_reducible rfl)
    refine wpAny_ready (rs := [9]) (by kernel_rfl) (by simp) ?_
    refine AllReady.cons rfl (fun K hK => ?_) AllReady.nil
    go_simp
    first | (refine hK _ _ ?_; clear hK K) | skip
    refine wpAny_take (i := 10) (v := (.int .i64 (m : Int))) rfl (by kernel_rfl) (by kernel_rfl) (by kernel_rfl) (fun _ _ _ h => h) (Or.inl ⟨by kernel_rfl, ?hy10⟩) ?_
    case hy10 => (intro w; go_simp; try with_reducible rfl)
    refine wpAny_take (i := 11) (v := (.bool true)) rfl (by kernel_rfl) (by kernel_rfl) (by kernel_rfl) (fun _ _ _ h => h) (Or.inl ⟨by kernel_rfl, ?hy11⟩) ?_
    case hy11 => (intro w; go_simp; try with_reducible rfl)
    refine wpAny_take (i := 12) (v := (.bool true)) rfl (by kernel_rfl) (by kernel_rfl) (by kernel_rfl) (fun _ _ _ h => h) (Or.inl ⟨by kernel_rfl, ?hy12⟩) ?_
    case hy12 => (intro w; go_simp; try with_reducible rfl)
    refine wpAny_ready (rs := [13]) (by kernel_rfl) (by simp) ?_
    refine AllReady.cons rfl (fun K hK => ?_) AllReady.nil
    go_simp
    refine (i_want_yes _ _).mono ?_
    rintro e w2 ⟨rfl, hw2⟩
    rw [hw2]
    clear hw2 w2
    go_simp
    first | (refine hK _ _ ?_; clear hK K) | skip
    refine wpAny_done (by kernel_rfl) ?_ _
    clear c0 c1 hd9 hd9d hm4 hm4d
    go_upto_block 0 with fail
    obtain ⟨wy, hwy⟩ : ∃ wy, (w.alloc (.cells #[.int .i64 0, .string ⟨#[]⟩, .slice none 0 0, .int .i64 0] 46)).drew = wy := ⟨_, rfl⟩
    rw [hwy] at H0
    rw [hwy]
    clear hwy HH HP
    go_cut [26, 35] (fun v26 v35 wx => RpS R B u w S (Value.slice ad m c).ownBlock D dd wx)
    case first =>
      have hwd : IntKind.i64.wrap ((dd : Int) + 1) = (dd : Int) + 1 := by rw [IntKind.wrap_i64]; omega
      go_wp2_with fail
      refine (i_takes R u ad m c 40 _ H0.out.rd).mono ?_
      rintro e w1 ⟨b1, u1, rfl, h1, k1, o1⟩
      have H1 := hide (rj_step H0.out k1 h1)
      clear h1 k1 H0
      cases b1
      case true =>
        have HU : Hid (u.data.toList = 40 :: u1.data.toList) := hide (by rcases o1 with ⟨-, h⟩ | ⟨h, -⟩; exact h; cases h)
        clear o1
        have hz1 : u1.size + 1 = u.size := by have := congrArg List.length HU.out; rw [List.length_cons, ba_len, ba_len] at this; omega
        have hB1 : B ≤ w1.heap.size := Nat.le_trans hB H1.out.kp.size
        go_wp2_with fail
        refine (HK.out u1 m ad c D _ w1 (by omega) h40 hB1 H1.out.rd H1.out.po).mono ?_
        rintro e w2 (⟨ks, k2, u2, ad2, m2, c2, kad2, L2, kc2, rfl, h2, hkd, hL, hu2, hm2, hpo2, hkk, hkb, hk2, hnew⟩ | ⟨⟨⟨tv, v, rfl⟩, k2⟩, hno⟩)
        · have hX2 := rj_kidsX H1.out hk2
          obtain ⟨x0, x1, x2, x3⟩ := xn_cells hX2
          have f0 := xn_frozen hX2 0
          have f1 := xn_frozen hX2 1
          have f2 := xn_frozen hX2 2
          have f3 := xn_frozen hX2 3
          have HR := hide (fun w3 => rj_kids (w3 := w3) (k2 := k2) (nm3 := ⟨#[]⟩) (oc3 := 0) H1.out h2 hpo2 hkk hkb hk2 hnew)
          have HX2 := hide hX2
          have HPB := hide (rpb_kids (D := D) HU.out hkd hL)
          have HL := hide hL
          clear h2 hkd hL hpo2 hkk hkb hk2 hnew hX2
          go_wp2
          go_meet
          refine ⟨u2, ad2, m2, c2, _, k2, ⟨#[]⟩, kad2, L2, kc2, HR.out _ ?_ ?_, HPB.out, by omega, by omega, ?_, Nat.zero_le _⟩
          · exact (((kp_set (S := fun j => j = w.heap.size) _ _ _ rfl).trans (kp_set (S := fun j => j = w.heap.size) _ _ _ rfl) (fun j _ hj => hj)).trans (kp_set (S := fun j => j = w.heap.size) _ _ _ rfl) (fun j _ hj => hj)).trans (kp_set (S := fun j => j = w.heap.size) _ _ _ rfl) (fun j _ hj => hj)
          · exact xn_oc (xn_kd (xn_nm (xn_k HX2.out k2) _) _ _ _) 0
          · have h9 := flF_cnt ks D []
            rw [HL.out, flF_lenP]
            simp
            omega
        · have K2 := hide k2
          have HN := hide hno
          clear k2 hno
          go_wp2
          exact ⟨rfl, rp_no ⟨⟨tv, v, rfl⟩, H1.out.kp.trans K2.out (fun j _ hj => hj)⟩ (fun j _ hj => hj) (by rw [HU.out]; exact HN.out)⟩
      case false =>
        have o2 : u1 = u := by rcases o1 with ⟨h, -⟩ | ⟨-, h, -⟩; cases h; exact h
        have O1 : Hid (u.data.toList.head? ≠ some 40) := hide (by rcases o1 with ⟨h, -⟩ | ⟨-, -, h⟩; cases h; exact h)
        subst o2
        clear o1
        go_wp2_with fail
        refine (i_takes R u1 ad m c 35 _ H1.out.rd).mono ?_
        rintro e w2 ⟨b2, u2, rfl, h2, k2, o2⟩
        have H2 := hide (rj_step H1.out k2 h2)
        clear h2 k2 H1
        obtain ⟨x0, x1, x2, x3⟩ := xn_cells H2.out.nd
        have f0 := xn_frozen H2.out.nd 0
        have f1 := xn_frozen H2.out.nd 1
        cases b2
        case true =>
          have HU : Hid (u1.data.toList = 35 :: u2.data.toList) := hide (by rcases o2 with ⟨-, h⟩ | ⟨h, -⟩; exact h; cases h)
          clear o2
          have hz1 : u2.size + 1 = u1.size := by have := congrArg List.length HU.out; rw [List.length_cons, ba_len, ba_len] at this; omega
          go_wp2
          go_meet
          exact ⟨u2, ad, m, c, D, 4, ⟨#[]⟩, none, [], 0, rj_k H2.out 4, rpb_any HU.out, by omega, by omega, Nat.zero_le _, Nat.zero_le _⟩
        case false =>
          have o3 : u2 = u1 := by rcases o2 with ⟨h, -⟩ | ⟨-, h, -⟩; cases h; exact h
          have O2 : Hid (u1.data.toList.head? ≠ some 35) := hide (by rcases o2 with ⟨h, -⟩ | ⟨-, -, h⟩; cases h; exact h)
          subst o3
          clear o2 x0 x1 x2 x3 f0 f1
          go_wp2_with fail
          refine (i_runOf R u2 ad m c _ H2.out.rd hu).mono ?_
          rintro e w3 ⟨nm, u3, rfl, h3, k3, e3, e4⟩
          have H3 := hide (rj_step H2.out k3 h3)
          have E3 := hide e3
          have E4 := hide e4
          have hz3 : nm.size ≤ u2.size := by have h9 := congrArg List.length e3; have h8 := tw_len u2.data.toList; rw [ba_len] at h9 h8; omega
          have hz4 : u3.size ≤ u2.size := by have h9 := congrArg List.length e4; have h8 := dw_len u2.data.toList; rw [ba_len] at h9 h8; omega
          clear h3 k3 H2 e3 e4
          obtain ⟨x0, x1, x2, x3⟩ := xn_cells H3.out.nd
          have f0 := xn_frozen H3.out.nd 0
          have f1 := xn_frozen H3.out.nd 1
          go_wp2
          go_meet
          exact ⟨u3, ad, m, c, D, 1, nm, none, [], 0, rj_nm (rj_k H3.out 1) nm, rpb_name O1.out O2.out E3.out E4.out, by omega, by omega, Nat.zero_le _, by omega⟩
    case rest =>
      obtain ⟨u1, ad1, m1, c1, D1, k1, nm1, kad1, L1, kc1, h1, hpb, hu1, hm1, hl1, hn1⟩ := hcut
      have H1 := hide h1
      have HPB := hide hpb
      clear h1 hpb H0
      go_wp2_with fail
      refine (i_occur R u1 ad1 m1 c1 _ H1.out.rd).mono ?_
      rintro e w2 ⟨oc, u2, rfl, h2, k2, o2⟩
      have H2 := hide (rj_step H1.out k2 h2)
      have hz2 : u2.size ≤ u1.size := by have h8 := oc_len o2; rw [ba_len, ba_len] at h8; exact h8
      have HD := hide (rpb_done HPB.out o2)
      clear h2 k2 H1 o2
      obtain ⟨x0, x1, x2, x3⟩ := xn_cells H2.out.nd
      have f3 := xn_frozen H2.out.nd 3
      go_upto_region 9 with fail
      have H3 := hide (rj_oc H2.out oc)
      obtain ⟨wz, hwz⟩ : ∃ wz, w2.setCell ⟨w.heap.size, 3, none⟩ (.int .i64 oc) = wz := ⟨_, rfl⟩
      rw [hwz] at H3
      rw [hwz]
      clear hwz x0 x1 x2 x3 f3 H2
      go_cut [] (fun wx => ∃ gg cap', MR wx R u2 (some ⟨gg, 0, none⟩) (m1 + 1) cap' ∧ POZ 1048576 B (fun j => S j ∨ w.heap.size ≤ j) wx (some ⟨gg, 0, none⟩) (m1 + 1) cap' (pushN D1 k1 nm1 L1 oc) ∧ Kp (fun j => j = R ∨ (Value.slice ad m c).ownBlock = some j) w wx ∧ ((Value.slice ad m c).ownBlock = some gg ∨ w.heap.size ≤ gg))
      case first =>
        have HDR := hide (rj_dr H3.out)
        obtain ⟨x0, x1, x2, x3⟩ := xn_cells HDR.out.nd
        obtain ⟨r0, r1⟩ := mr_cells HDR.out.rd
        obtain ⟨xs, hown, hits, hdj⟩ := H3.out.po
        have HDJ := hide hdj
        have HOW := hide hown
        have HIT := hide hits
        have hB6 : B ≤ wz.heap.size := Nat.le_trans hB H3.out.kp.size
        have r3a : ∀ o, (wz.alloc o).cell? ⟨R, 1, none⟩ = some (.slice ad1 m1 c1) := fun o => (mr_cells (rj_alloc H3.out o).rd).2
        clear hown hits hdj
        go_region_law (first
          | (refine step_append_lies _ (by rfl) _ _ _ (by rfl) B 46 i1 _ 4 56 Try.underlying24 hi1 hy0 hy1 hy2 rfl (by omega) (.slice ad1 m1 c1) m1 xs (by rfl) (HOW.out.alloc _).drew ⟨wz.heap.size, 0, none⟩ 1 1 [.int .i64 k1, .string nm1, .slice kad1 L1.length kc1, .int .i64 oc] (by rfl) (by rfl) (World.news_of_block (cs := #[.int .i64 k1, .string nm1, .slice kad1 L1.length kc1, .int .i64 oc]) (t := 46) (fr := (0, 0)) (heap_alloc_new wz _)) (by simp [Value.oneCell']) (by omega) (by unfold maxLen; omega) (by omega) (by simp; omega) (wz.heap.size + 1) (by simp) ?_; intro gg cap' w9 hown9 hgrow9 hat9 hlt9; have hgr9 := grown_undrew hgrow9; have H9 := hide (rj_push H3.out HIT.out HOW.out HDJ.out hn1 hl1 hown9 hgr9 hat9); have h9r := rj_pushR H3.out HOW.out hgr9; have hf9 := mr_frozen h9r 1; have hc9 := (mr_cells h9r).2; clear hown9 hgrow9 hgr9 hat9 h9r)
          | (fail))
        all_goals
          go_wp2
          go_meet
          exact ⟨gg, cap', H9.out⟩
      case rest =>
        obtain ⟨gg, cap', h9, hpo9, hk9, hg9⟩ := hcut
        clear H3
        have H9 := hide h9
        have HP9 := hide hpo9
        have HK9 := hide hk9
        obtain ⟨r0, r1⟩ := mr_cells h9
        clear h9 hpo9 hk9
        go_wp2
        go_ret
        obtain ⟨t, ht, hd⟩ := HD.out
        have hn9 : (pushN D1 k1 nm1 L1 oc).n = m1 + 1 := (po_at HP9.out).1
        refine .inl ⟨t, u2, some ⟨gg, 0, none⟩, m1 + 1, cap', ?_, H9.out, ht, by omega, ⟨by rw [← hd, hn9], by omega⟩, by rw [← hd]; exact HP9.out, HK9.out, fun j hj => ?_⟩
        · first | rfl | (congr 2; omega) | (simp; done)
        · have : gg = j := by simpa [Value.ownBlock] using hj
          subst this; exact hg9
end Go.Proofs.Ytfohfljdgmlibaa
