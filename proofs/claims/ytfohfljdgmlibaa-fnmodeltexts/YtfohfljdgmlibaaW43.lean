/-
  Contract of the program's reader of models: a row of kids, where each node is read as it must be: the walk.
-/
import Derived.Test.YtfohfljdgmlibaaW42
namespace Go.Proofs.Ytfohfljdgmlibaa
open Go.RowKit Go.Joins
set_option linter.unusedVariables false
set_option linter.unusedSimpArgs false
theorem rj_back {R B X : Nat} {u : ByteArray} {w0 w : World} {S0 : Nat → Prop} {ro : Option Nat} {ad : Option Addr} {m c : Nat} {D : Pn} {k : Int} {nm : ByteArray} {kad : Option Addr} {L : List Int} {kc : Nat} {oc : Int} {n j : Nat} (h : RJ R B w0 S0 ro X w u ad m c D k nm kad L kc oc) (hn : n ≤ w0.heap.size) (hj : j < n) (hx : j = R ∨ (Value.slice ad m c).ownBlock = some j) : j = R ∨ ro = some j := by
  rcases hx with e | e
  · exact .inl e
  · rcases (h.ob _ e).1 with ⟨e, -⟩ | e
    · exact .inr e
    · omega
theorem own_oneP (w : World) (x : Int) : (w.alloc (.cells #[.int .i64 x] 2)).ownsRow 0 2 1 (.slice (some ⟨w.heap.size, 0, none⟩) [x].length 1) [x].length ([x].map (Value.int .i64)) :=
  ⟨rfl, .inr ⟨w.heap.size, 1, #[.int .i64 x], rfl, Nat.zero_le _, heap_alloc_new w _, Nat.le_refl _, by unfold maxLen; omega, rfl, rfl⟩⟩
theorem rk_done {R B dd m' c' kc : Nat} {u u' : ByteArray} {v : Value} {S : Nat → Prop} {D : Pn} {w w5 wf : World} {ad' kad : Option Addr} {L : List Int} {k k4 : Int} {ks : List Tr} {nm4 : ByteArray} {a4 : Option Addr} {n4 c4 : Nat} {o4 : Int}
    (hmr : MR w5 R u' ad' m' c') (hp : POZ 1048576 B (fun j => (S j ∨ w.heap.size ≤ j) ∧ (Value.slice kad L.length kc).ownBlock ≠ some j) w5 ad' m' c' (flF ks D []).1) (hkk : w5.ownsRow 0 2 1 (.slice kad L.length kc) L.length (L.map (Value.int .i64))) (hkb : ∀ j, (Value.slice kad L.length kc).ownBlock = some j → w.heap.size ≤ j)
    (hkp : Kp (fun j => j = R ∨ v.ownBlock = some j) w w5) (hnew : ∀ j, (Value.slice ad' m' c').ownBlock = some j → (v.ownBlock = some j ∨ w.heap.size ≤ j) ∧ j ≠ w.heap.size) (hR : R < w.heap.size) (hX : XN w5 w.heap.size k4 nm4 a4 n4 c4 o4) (hk4 : Kp (fun j => j = w.heap.size) w5 wf)
    (hkd : KdP k ks u.data.toList (41 :: u'.data.toList)) (hL : L = (flF ks D []).2) (hu : u'.size ≤ u.size) (hm : m' = (flF ks D []).1.n ∧ m' + dd ≤ 48) : RkAns R B u v S D dd w (.returned (.agg #[.int .i64 k, .string ⟨#[]⟩, .slice kad L.length kc, .int .i64 0])) wf := by
  refine .inl ⟨ks, k, u', ad', m', c', kad, L, kc, rfl, mr_kp hmr hk4 (by omega), hkd, hL, hu, hm, po_kp hp hk4 (fun j hj => (hnew j hj).2) (fun B' z n v ys j hv hj _ => type_ne hv hj hX (by decide)), own_kp hkk hk4 (fun j hj => type_ne hkk hj hX (by decide)), hkb, hkp.trans hk4 (fun j h1 h2 => by omega), fun j hj => (hnew j hj).1⟩
theorem xn_set4 {w : World} {X : Nat} {k : Int} {nm : ByteArray} {a : Option Addr} {n c : Nat} {oc : Int} (h : XN w X k nm a n c oc) (k' : Int) (nm' : ByteArray) (a' : Option Addr) (n' c' : Nat) (oc' : Int) :
    XN ((((w.setCell ⟨X, 0, none⟩ (.int .i64 k')).setCell ⟨X, 1, none⟩ (.string nm')).setCell ⟨X, 2, none⟩ (.slice a' n' c')).setCell ⟨X, 3, none⟩ (.int .i64 oc')) X k' nm' a' n' c' oc' ∧ Kp (fun j => j = X) w ((((w.setCell ⟨X, 0, none⟩ (.int .i64 k')).setCell ⟨X, 1, none⟩ (.string nm')).setCell ⟨X, 2, none⟩ (.slice a' n' c')).setCell ⟨X, 3, none⟩ (.int .i64 oc')) :=
  ⟨xn_oc (xn_kd (xn_nm (xn_k h k') nm') a' n' c') oc', (((kp_set (S := fun j => j = X) _ _ _ rfl).trans (kp_set (S := fun j => j = X) _ _ _ rfl) (fun j _ hj => hj)).trans (kp_set (S := fun j => j = X) _ _ _ rfl) (fun j _ hj => hj)).trans (kp_set (S := fun j => j = X) _ _ _ rfl) (fun j _ hj => hj)⟩
set_option maxRecDepth 100000 in
set_option maxHeartbeats 8000000 in
theorem i_kidsF (R B dd : Nat) (u : ByteArray) (m : Nat) (ad : Option Addr) (c : Nat) (D : Pn) (S : Nat → Prop) (w : World) (hu : u.size ≤ 1048576) (hdd : dd ≤ 9) (hm : m < 40) (hB : B ≤ w.heap.size) (h : MR w R u ad m c) (hpo : POZ 1048576 B S w ad m c D)
    (hI : ∀ (u : ByteArray) (m : Nat) (ad : Option Addr) (c : Nat) (D : Pn) (S : Nat → Prop) (w : World), u.size ≤ 1048576 → m ≤ 49 → B ≤ w.heap.size → MR w R u ad m c → POZ 1048576 B S w ad m c D → Calls Try.prog 49 #[.pointer (some ⟨R, 0, none⟩), .int .i64 ((dd : Int) + 1)] w (RpAns R B u (.slice ad m c) S D (dd + 1) w)) :
    Calls Try.prog 70 #[.pointer (some ⟨R, 0, none⟩), .int .i64 ((dd : Int) + 1)] w (RkAns R B u (.slice ad m c) S D dd w) := by
  obtain ⟨i0, hi0, hz0, hz1, hz2⟩ := info_parts info64
  have HI := hide hI
  have hRw := mr_lt h
  have hrob : ∀ j, (Value.slice ad m c).ownBlock = some j → j < w.heap.size := fun j hj => po_lt hpo j hj
  have HRO := hide hrob
  have HA : Hid (MR (w.alloc (.cells #[.int .i64 0, .string ⟨#[]⟩, .slice none 0 0, .int .i64 0] 46)) R u ad m c) := hide (mr_kp h (kp_alloc (S := fun _ => False) w _) (fun x => x))
  have HPA : Hid (POZ 1048576 B S (w.alloc (.cells #[.int .i64 0, .string ⟨#[]⟩, .slice none 0 0, .int .i64 0] 46)) ad m c D) := hide (po_kp (T := fun _ => False) hpo (kp_alloc w _) (fun _ _ x => x) (fun _ _ _ _ _ _ _ _ _ x => x))
  have HX4 : Hid (XN (w.alloc (.cells #[.int .i64 0, .string ⟨#[]⟩, .slice none 0 0, .int .i64 0] 46)) w.heap.size 0 ⟨#[]⟩ none 0 0 0) := hide (heap_alloc_new w _)
  have HKA : Hid (Kp (fun j => j = R ∨ (Value.slice ad m c).ownBlock = some j) w (w.alloc (.cells #[.int .i64 0, .string ⟨#[]⟩, .slice none 0 0, .int .i64 0] 46))) := hide (kp_alloc w _)
  clear h hpo hI hrob
  go_enter Try.func70, Try.ntmps70
  go_wp2_with fail
  obtain ⟨wa, hwa⟩ : ∃ wa, w.alloc (.cells #[.int .i64 0, .string ⟨#[]⟩, .slice none 0 0, .int .i64 0] 46) = wa := ⟨_, rfl⟩
  have hsa : wa.heap.size = w.heap.size + 1 := by rw [← hwa]; simp
  rw [hwa] at HA HPA HX4 HKA
  try rw [hwa]
  clear hwa
  refine (i_takes R u ad m c 41 _ HA.out).mono ?_
  rintro e w1 ⟨b1, u1, rfl, h1, k1, o1⟩
  have hX1 : XN w1 w.heap.size 0 ⟨#[]⟩ none 0 0 0 := (k1.block _ (xn_lt HX4.out) (by omega)).trans HX4.out
  have hp1 : POZ 1048576 B S w1 ad m c D := po_kp HPA.out k1 (fun j hj => by obtain ⟨xs, hx, -⟩ := HPA.out; exact type_ne hx hj HA.out (by decide)) (fun B' z n v ys j hv hj _ => type_ne hv hj HA.out (by decide))
  have H1 := hide h1
  have HP1 := hide hp1
  have K1 := hide k1
  cases b1
  case true =>
    have HU : Hid (u.data.toList = 41 :: u1.data.toList) := hide (by rcases o1 with ⟨-, h⟩ | ⟨h, -⟩; exact h; cases h)
    have hz9 : u1.size + 1 = u.size := by have := congrArg List.length HU.out; rw [List.length_cons, ba_len, ba_len] at this; omega
    obtain ⟨x0, x1, x2, x3⟩ := xn_cells hX1
    have f0 := xn_frozen hX1 0
    have f1 := xn_frozen hX1 1
    have f2 := xn_frozen hX1 2
    have f3 := xn_frozen hX1 3
    have HX1 := hide hX1
    clear h1 k1 o1 hX1 hp1
    go_wp2
    obtain ⟨hXF, hKF⟩ := xn_set4 HX1.out 2 ⟨#[]⟩ none 0 0 0
    obtain ⟨wf, hwf⟩ : ∃ wf, ((((w1.setCell ⟨w.heap.size, 0, none⟩ (.int .i64 2)).setCell ⟨w.heap.size, 1, none⟩ (.string ⟨#[]⟩)).setCell ⟨w.heap.size, 2, none⟩ (.slice none 0 0)).setCell ⟨w.heap.size, 3, none⟩ (.int .i64 0)) = wf := ⟨_, rfl⟩
    rw [hwf] at hXF hKF
    rw [hwf]
    clear hwf x0 x1 x2 x3 f0 f1 f2 f3
    obtain ⟨y0, y1, y2, y3⟩ := xn_cells hXF
    refine bodyPost_ret (v := .agg #[.int .i64 2, .string ⟨#[]⟩, .slice none 0 0, .int .i64 0]) (by simp [results, Try.results70, go_sem, y0, y1, y2, y3]) rfl ?_
    have hn := (po_at HP1.out).1
    exact rk_done (L := []) (ks := []) H1.out (by rw [flF]; exact po_imp HP1.out (fun j _ hj => ⟨.inl hj, fun e => by cases e⟩)) (World.ownsRow_nil _ _ _ _) (fun j hj => by cases hj) (HKA.out.trans K1.out (fun j _ hj => .inl hj)) (fun j hj => ⟨.inl hj, by have := HRO.out j hj; omega⟩) hRw HX1.out hKF (.inl ⟨rfl, rfl, HU.out.symm⟩) (by rw [flF]) (by omega) ⟨by rw [flF]; exact hn.symm, by omega⟩
  case false =>
    have o2 : u1 = u := by rcases o1 with ⟨h, -⟩ | ⟨-, h, -⟩; cases h; exact h
    have O1 : Hid (u.data.toList.head? ≠ some 41) := hide (by rcases o1 with ⟨h, -⟩ | ⟨-, -, h⟩; cases h; exact h)
    subst o2
    clear h1 k1 o1 hX1 hp1
    have hB1 : B ≤ w1.heap.size := by have := HKA.out.size; have := K1.out.size; omega
    go_wp2_with fail
    refine (HI.out u1 m ad c D S w1 hu (by omega) hB1 H1.out HP1.out).mono ?_
    rintro e w2 (⟨t, u2, ad2, m2, c2, rfl, h2, hrd, hu2, hm2, hpo2, hk2, hnew2⟩ | ⟨⟨⟨tv, v, rfl⟩, k2⟩, hno⟩)
    · have H2 := hide h2
      have HRD := hide hrd
      have HP2 := hide hpo2
      have HK2 := hide hk2
      have HN2 := hide hnew2
      have HM2 := hide hm2.1
      have hm2' := hm2.2
      clear h2 hrd hpo2 hk2 hnew2 hm2
      have hs1 : wa.heap.size ≤ w1.heap.size := K1.out.size
      have hs2 : w1.heap.size ≤ w2.heap.size := HK2.out.size
      have H3 : Hid (RJ R B wa S (Value.slice ad m c).ownBlock (w2.heap.size + 1) ((w2.alloc (.cells #[.int .i64 ((m2 : Int) - 1)] 2)).alloc (.cells #[.int .i64 2, .string ⟨#[]⟩, .slice (some ⟨w2.heap.size, 0, none⟩) 1 1, .int .i64 0] 46)) u2 ad2 m2 c2 (fl t D) 2 ⟨#[]⟩ (some ⟨w2.heap.size, 0, none⟩) [(m2 : Int) - 1] 1 0) := hide (by
        have hsz : (w2.alloc (.cells #[.int .i64 ((m2 : Int) - 1)] 2)).heap.size = w2.heap.size + 1 := by simp
        rw [← hsz]
        have ka : ∀ T, Kp T w2 (w2.alloc (.cells #[.int .i64 ((m2 : Int) - 1)] 2)) := fun T => kp_alloc w2 _
        have hkk : Kp (fun j => j = R ∨ (Value.slice ad m c).ownBlock = some j) wa (w2.alloc (.cells #[.int .i64 ((m2 : Int) - 1)] 2)) := (((Kp.refl _ wa).trans K1.out (fun j _ hj => .inl hj)).trans HK2.out (fun j _ hj => hj)).trans (ka (fun _ => False)) (fun j _ hj => hj.elim)
        refine rj_new (w0 := wa) (L := [(m2 : Int) - 1]) (mr_kp H2.out (ka (fun _ => False)) (fun x => x)) (po_kp (T := fun _ => False) (po_imp HP2.out (fun j hj1 hj => ⟨?_, fun e => ?_⟩)) (ka _) (fun _ _ x => x) (fun _ _ _ _ _ _ _ _ _ x => x)) (own_oneP w2 ((m2 : Int) - 1)) hkk (fun j hj => ?_) (fun j hj => ?_) (by omega) 2 ⟨#[]⟩ 0
        · rcases hj with hj | hj
          · exact .inl hj
          · exact .inr (by omega)
        · have : w2.heap.size = j := by simpa [Value.ownBlock] using e
          omega
        · rcases HN2.out j hj with e | e
          · have := HRO.out j e
            exact .inl ⟨e, by omega⟩
          · exact .inr (by omega)
        · have : w2.heap.size = j := by simpa [Value.ownBlock] using hj
          omega)
      go_upto_region 4 with fail
      obtain ⟨w3, hw3⟩ : ∃ w3, ((w2.alloc (.cells #[.int .i64 ((m2 : Int) - 1)] 2)).alloc (.cells #[.int .i64 2, .string ⟨#[]⟩, .slice (some ⟨w2.heap.size, 0, none⟩) 1 1, .int .i64 0] 46)) = w3 := ⟨_, rfl⟩
      rw [hw3] at H3
      rw [hw3]
      clear hw3
      obtain ⟨r0, r1⟩ := mr_cells H3.out.rd
      go_wp2_with fail
      refine (i_prefix u2 _).mono ?_
      rintro e w9 ⟨b, rfl, hw9, hb⟩
      rw [hw9]
      have HB := hide hb
      clear hw9 w9 hb r0 r1
      go_upto_if 22 with fail
      go_cut [6] (fun v6 wx => ∃ (ch : UInt8) (k : Int), v6 = .string ⟨#[ch]⟩ ∧ Hid (RJ R B wa S (Value.slice ad m c).ownBlock (w2.heap.size + 1) wx u2 ad2 m2 c2 (fl t D) k ⟨#[]⟩ (some ⟨w2.heap.size, 0, none⟩) [(m2 : Int) - 1] 1 0) ∧ Hid (RkK ch k u1 D dd u2 m2 (fl t D) [(m2 : Int) - 1]))
      case first =>
        obtain ⟨x0, x1, x2, x3⟩ := xn_cells H3.out.nd
        have f0 := xn_frozen H3.out.nd 0
        cases b
        case false =>
          go_wp2
          go_meet
          exact ⟨44, 2, rfl, H3, hide (rkk_first (kdq_f0 O1.out HRD.out (fun e => by have := HB.out.2 e; cases this)) HM2.out)⟩
        case true =>
          go_wp2
          go_meet
          exact ⟨124, 3, rfl, hide (rj_k H3.out 3), hide (rkk_first (kdq_f1 O1.out HRD.out (HB.out.1 (by first | rfl | trivial))) HM2.out)⟩
      case rest =>
        obtain ⟨ch, k, rfl, H4, HK4⟩ := hcut
        clear H3 HB
        go_wp2_with fail
        go_loopw [] (fun wr => ∃ u3 ad3 m3 c3 D3 kad3 L3 kc3, Hid (RJ R B wa S (Value.slice ad m c).ownBlock (w2.heap.size + 1) wr u3 ad3 m3 c3 D3 k ⟨#[]⟩ kad3 L3 kc3 0) ∧ Hid (RkK ch k u1 D dd u3 m3 D3 L3) ∧ u3.size ≤ u1.size ∧ m3 + dd ≤ 48) (fun wr => mrM R wr)
        case atStart => exact ⟨u2, ad2, m2, c2, _, _, _, _, H4, HK4, hu2, by omega⟩
        case round =>
          clear H4 HK4
          obtain ⟨u3, ad3, m3, c3, D3, kad3, L3, kc3, H5, HK5, hu3, hm3⟩ := hrel
          have HRM := hide (mrM_of H5.out.rd)
          go_wp2_with fail
          refine (i_takes R u3 ad3 m3 c3 ch _ H5.out.rd).mono ?_
          rintro e w4 ⟨b4, u4, rfl, h4, k4, o4⟩
          have H6 := hide (rj_step H5.out k4 h4)
          clear h4 k4 H5
          cases b4
          case false =>
            have o2 : u4 = u3 := by rcases o4 with ⟨h, -⟩ | ⟨-, h, -⟩; cases h; exact h
            have O4 : Hid (u3.data.toList.head? ≠ some ch) := hide (by rcases o4 with ⟨h, -⟩ | ⟨-, -, h⟩; cases h; exact h)
            subst o2
            clear o4
            go_wp2_with fail
            refine (i_must R u4 ad3 m3 c3 41 _ H6.out.rd).mono ?_
            rintro e w5 (⟨u5, rfl, h5, k5, e5⟩ | ⟨⟨⟨tv, v, rfl⟩, k5⟩, hno⟩)
            · have H7 := hide (rj_step H6.out k5 h5)
              have E5 := hide e5
              have hz5 : u5.size + 1 = u4.size := by have := congrArg List.length e5; rw [List.length_cons, ba_len, ba_len] at this; omega
              clear h5 k5 e5 H6
              have hX4 := x4_stay H7.out HX4.out (by omega) (fun e => by have := HRO.out _ e; omega)
              obtain ⟨x0, x1, x2, x3⟩ := xn_cells hX4
              have f0 := xn_frozen hX4 0
              have f1 := xn_frozen hX4 1
              have f2 := xn_frozen hX4 2
              have f3 := xn_frozen hX4 3
              obtain ⟨y0, y1, y2, y3⟩ := xn_cells H7.out.nd
              have HX := hide hX4
              clear hX4
              go_wp2
              obtain ⟨hXF, hKF⟩ := xn_set4 HX.out k ⟨#[]⟩ kad3 L3.length kc3 0
              obtain ⟨wf, hwf⟩ : ∃ wf, ((((w5.setCell ⟨w.heap.size, 0, none⟩ (.int .i64 k)).setCell ⟨w.heap.size, 1, none⟩ (.string ⟨#[]⟩)).setCell ⟨w.heap.size, 2, none⟩ (.slice kad3 L3.length kc3)).setCell ⟨w.heap.size, 3, none⟩ (.int .i64 0)) = wf := ⟨_, rfl⟩
              rw [hwf] at hXF hKF
              rw [hwf]
              clear hwf x0 x1 x2 x3 f0 f1 f2 f3 y0 y1 y2 y3
              obtain ⟨y0, y1, y2, y3⟩ := xn_cells hXF
              refine bodyPost_ret (v := .agg #[.int .i64 k, .string ⟨#[]⟩, .slice kad3 L3.length kc3, .int .i64 0]) (by simp [results, Try.results70, go_sem, y0, y1, y2, y3]) rfl ?_
              obtain ⟨ks, q1, q2, q3, q4⟩ := HK5.out
              rw [E5.out] at q1
              subst q2
              exact rk_done (ks := ks) H7.out.rd (po_imp H7.out.po (fun j _ hj => ⟨by rcases hj.1 with e | e; exact .inl e; exact .inr (by omega), hj.2⟩)) H7.out.kd (fun j hj => by have := H7.out.kb j hj; omega) (HKA.out.trans H7.out.kp (fun j _ hj => hj)) (fun j hj => by rcases (H7.out.ob j hj).1 with ⟨e, -⟩ | e; exact ⟨.inl e, by have := HRO.out j e; omega⟩; exact ⟨.inr (by omega), by omega⟩) hRw HX.out hKF (kdq_done q1) q3 (by omega) ⟨q4, hm3⟩
            · have HN := hide hno
              have K5 := hide k5
              clear hno k5
              go_wp2
              exact ⟨rfl, rk_no ⟨⟨tv, v, rfl⟩, (HKA.out.trans H6.out.kp (fun j _ hj => hj)).trans K5.out (fun j _ hj => .inl hj)⟩ (fun j _ hj => hj) (rkk_no HK5.out O4.out HN.out)⟩
          case true =>
            have E4 : Hid (u3.data.toList = ch :: u4.data.toList) := hide (by rcases o4 with ⟨-, h⟩ | ⟨h, -⟩; exact h; cases h)
            clear o4
            have hz4 : u4.size + 1 = u3.size := by have := congrArg List.length E4.out; rw [List.length_cons, ba_len, ba_len] at this; omega
            have hl3 := rkk_len HK5.out
            have HD := hide (rj_dr H6.out)
            have hc2d := (xn_cells HD.out.nd).2.2.1
            have hB6 : B ≤ w4.heap.size := by have := HKA.out.size; have := H6.out.kp.size; omega
            go_wp2_with fail
            go_region_law (first
              | (go_simp; go_at_call 49; refine (HI.out u4 m3 ad3 c3 D3 _ w4.drew (by omega) (by omega) hB6 HD.out.rd HD.out.po).mono ?_; rintro e w8 (⟨t8, u8, ad8, m8, c8, rfl, h8, hrd8, hu8, hm8, hpo8, hk8, hnew8⟩ | ⟨⟨⟨tv, v, rfl⟩, k8⟩, hno⟩); rotate_left; (focus (go_wp2; exact ⟨rfl, rk_no ⟨⟨tv, v, rfl⟩, (HKA.out.trans HD.out.kp (fun j _ hj => hj)).trans k8 (fun j h1 hj => rj_back HD.out HKA.out.size h1 hj)⟩ (fun j _ hj => hj) (rkk_kid HK5.out E4.out hno)⟩)); have H8 := hide (rj_item HD.out h8 hpo8 hk8 hnew8); have HK8 := hide (rkk_next HK5.out E4.out hrd8 hm8.1); have hm8' := hm8.2; have hc8 := (xn_cells H8.out.nd).2.2.1; have hc8a : ∀ o, (w8.alloc o).cell? ⟨w2.heap.size + 1, 2, none⟩ = some (.slice kad3 L3.length kc3) := (fun o => (xn_cells (rj_alloc H8.out o).nd).2.2.1); clear h8 hrd8 hpo8 hk8 hnew8 hm8)
              | (refine step_append_lies _ (by rfl) _ _ _ (by rfl) 0 2 i0 _ 1 8 Try.underlying44 hi0 hz0 hz1 hz2 rfl (by omega) (.slice kad3 L3.length kc3) L3.length (L3.map (Value.int .i64)) (by rfl) (H8.out.kd.alloc _) ⟨w8.heap.size, 0, none⟩ 1 1 [.int .i64 ((m8 : Int) - 1)] (by rfl) (by rfl) (World.news_of_block (cs := #[.int .i64 ((m8 : Int) - 1)]) (t := 2) (fr := (0, 0)) (heap_alloc_new w8 _)) (by simp [Value.oneCell']) (by omega) (by unfold maxLen; omega) (by omega) (Nat.zero_le _) (w8.heap.size + 1) (by simp) ?_; intro gg cap' w9 hown9 hgrow9 hat9 hlt9; have H9 := hide (rj_kid (x := (m8 : Int) - 1) H8.out hown9 hgrow9 hat9); have hf9 := xn_frozen (rj_kidX H8.out hgrow9) 2; have hc9 := (xn_cells (rj_kidX H8.out hgrow9)).2.2.1; clear hown9 hgrow9 hat9)
              | (fail))
            all_goals
              go_wp2
              go_roundw
              case rel => exact ⟨u8, ad8, m8, c8, _, some ⟨gg, 0, none⟩, L3 ++ [(m8 : Int) - 1], cap', H9, HK8, by omega, by omega⟩
              case measure =>
                rw [HRM.out, mrM_of H9.out.rd]
                omega
    · have K2 := hide k2
      have HN := hide hno
      clear k2 hno
      go_wp2
      exact ⟨rfl, rk_no ⟨⟨tv, v, rfl⟩, (HKA.out.trans K1.out (fun j _ hj => .inl hj)).trans K2.out (fun j _ hj => hj)⟩ (fun j _ hj => hj) (noT_kid0 HN.out O1.out)⟩
end Go.Proofs.Ytfohfljdgmlibaa
