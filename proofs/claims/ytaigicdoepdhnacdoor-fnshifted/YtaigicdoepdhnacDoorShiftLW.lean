/-
  Plain facts on dates in another zone, and the walk of the law on them.
-/
import Derived.Test.YtaigicdoepdhnacDoorReg9
import Derived.Test.YtaigicdoepdhnacDoorCmpDate
import Derived.Test.YtaigicdoepdhnacDoorShI
import Derived.Test.YtaigicdoepdhnacDoorShS
namespace Go.Proofs.YtaigicdoepdhnacDoor
open Go.RowKit Go.Joins
set_option linter.unusedVariables false
set_option linter.unusedSimpArgs false
theorem sh_lsec {a y m d h n s : Int} (p : Sh a y m d h n s) : lsec y m d h n s = a := by
  obtain ⟨⟨y1, y2⟩, ⟨k, hk, rfl, c1, c2, rfl⟩, b1, b2, rfl, rfl, rfl⟩ := p
  unfold lsec
  rw [show ((k : Int) + 1 - 1).toNat = k by omega]
  omega
theorem sh_right {a y m d h n s zone : Int} (p : Sh a y m d h n s) (z1 : -840 ≤ zone) (z2 : zone ≤ 840) : Rt y m d h n s true zone := by
  obtain ⟨⟨y1, y2⟩, ⟨k, hk, rfl, c1, c2, rfl⟩, b1, b2, rfl, rfl, rfl⟩ := p
  simp only [cumN] at c2
  exact ⟨y1, y2, by omega, by omega, by omega, by omega, by omega, by omega, by omega, by omega, by omega, by omega, z1, z2, .inl rfl⟩
theorem right_sh {y mo d h mi s : Int} {g : Bool} {z : Int} (r : Rt y mo d h mi s g z) : Sh (lsec y mo d h mi s) y mo d h mi s := by
  obtain ⟨y1, y2, m1, m2, d1, d2, h1, h2, n1, n2, s1, s2, z1, z2, _⟩ := r
  obtain ⟨k, hk⟩ : ∃ k : Nat, mo = (k : Int) + 1 := ⟨(mo - 1).toNat, by omega⟩
  subst hk
  have e1 : ((k : Int) + 1 - 1).toNat = k := by omega
  have hc : cumN y (k + 1) = cumN y k + dim y ((k : Int) + 1) := rfl
  have h12 := cum_12 y1 y2
  have hm := cumN_mono ⟨y1, y2⟩ (a := k + 1) (b := 12) (by omega) (by omega)
  have hb := (cumN_bd ⟨y1, y2⟩ k (by omega)).1
  obtain ⟨X, hX⟩ : ∃ X, dby y + d - 1 + cumN y k = X := ⟨_, rfl⟩
  unfold Sh lsec
  rw [e1, hX]
  have q : (86400 * X + 3600 * h + 60 * mi + s) / 86400 = X := by omega
  rw [q]
  exact ⟨⟨y1, y2⟩, ⟨k, by omega, rfl, by omega, by omega, by omega⟩, by omega, by omega, by omega, by omega, by omega⟩
theorem right_bound {y mo d h mi s : Int} {g : Bool} {z : Int} (r : Rt y mo d h mi s g z) : 0 ≤ lsec y mo d h mi s ∧ lsec y mo d h mi s ≤ 86400 * 3652059 - 1 := by
  have hb := lsec_bd r
  obtain ⟨⟨y1, y2⟩, _, b1, b2, _⟩ := right_sh r
  have hm := dby_mono (a := y + 1) (b := 10000) (by omega) (by omega)
  rw [dby_max] at hm
  exact ⟨hb.1, by omega⟩
theorem shift_facts {y mo d h mi s : Int} {g : Bool} {z zone : Int} {y' m' d' h' n' s' : Int} (ho : shOk y mo d h mi s g z zone = true) (hs : Sh (secs y mo d h mi s z + 60 * zone) y' m' d' h' n' s') :
    g = true ∧ dateB y' m' d' h' n' s' true zone = true ∧ secsB y' m' d' h' n' s' true zone = secsB y mo d h mi s g z ∧ cmpDB y' m' d' h' n' s' true zone y mo d h mi s g z = 0 ∧ shOk y' m' d' h' n' s' true zone z = true ∧
      ∀ b0 b1 b2 b3 b4 b5 : Int, Sh (secs y' m' d' h' n' s' zone + 60 * z) b0 b1 b2 b3 b4 b5 → y = b0 ∧ mo = b1 ∧ d = b2 ∧ h = b3 ∧ mi = b4 ∧ s = b5 := by
  unfold shOk at ho
  simp only [Bool.and_eq_true] at ho
  obtain ⟨hd, hg, hzn, hin⟩ := ho
  have hz := inB_of hzn
  have r := rt_of hd
  have r' := sh_right hs hz.1 hz.2
  have hd' := dateB_of r'
  have hl := sh_lsec hs
  have hsec : secs y' m' d' h' n' s' zone = secs y mo d h mi s z := by unfold secs at hl ⊢; omega
  have hlz : secs y' m' d' h' n' s' zone + 60 * z = lsec y mo d h mi s := by rw [hsec]; unfold secs; omega
  have hbd := right_bound r
  refine ⟨hg, hd', ?_, ?_, ?_, ?_⟩
  · unfold secsB; rw [if_pos hd', if_pos hd, hsec]
  · unfold cmpDB; rw [if_pos ⟨hd', hd⟩, hsec, hg]; unfold cmpG sgn; rw [if_pos rfl, if_neg (by omega), if_neg (by omega)]
  · unfold shOk
    rw [hd', hlz]
    simp only [Bool.true_and, Bool.and_eq_true]
    exact ⟨inB_t ⟨r.z1, r.z2⟩, inB_t hbd⟩
  · intro b0 b1 b2 b3 b4 b5 hb
    rw [hlz] at hb
    exact sh_one (right_sh r) hb
set_option maxRecDepth 100000 in
set_option maxHeartbeats 8000000 in
theorem shifted_walk (a : Option Addr) (n cap : Nat) (zs : List Int) (w : World) (hl : zs.length = n) (hz : ∀ x ∈ zs, 0 ≤ x ∧ x ≤ 255) (hn : n ≤ 1048576) (hs : SrcAt w a zs w.heap.size) (ht : MTab 0 w) :
    Calls Tryd.prog 3 #[.slice a n cap] w fun e w' => e = .returned (.bool true) ∧ Below w.heap.size w w' := by
  have hn' : ¬ (1048576 : Int) < (n : Int) := by omega
  have HS := hide hs
  have HL := hide hl
  have HZ := hide hz
  have HT := hide ht
  clear hs hl hz ht
  go_enter Tryd.func3, Tryd.ntmps3
  go_wp2_with (go_at_call 4; go_in)
  refine (d_shifted a n cap zs _ HL.out HZ.out hn HS.out).mono ?_
  rintro e w1 ⟨y, mo, d, h, mi, s, g, z, zone, rfl, hb1⟩
  have HB1 := hide hb1
  have MT := hide (mtab_go HT.out hb1)
  clear hb1
  have D1 := hide (dbox_new w1 y mo d h mi s g z 25)
  have W1 := hide ((Below.refl w1.heap.size w1).alloc (Nat.le_refl _) (.cells #[.int .i64 y, .int .i64 mo, .int .i64 d, .int .i64 h, .int .i64 mi, .int .i64 s, .bool g, .int .i64 z] 25))
  go_wp2_with fail
  refine (i_shift y mo d h mi s g z zone _ (mtab_go MT.out W1.out)).mono ?_
  rintro e w2 ⟨hp, hb2⟩
  have D2 := hide (dbox_go D1.out hb2)
  have W2 := hide (below_go W1.out hb2)
  clear hb2
  rcases hp with ⟨ho, y', m', d', h', n', s', hsh, rfl⟩ | ⟨ho, rfl⟩
  · have D3 := hide (dbox_go D2.out ((Below.refl w2.heap.size w2).alloc (Nat.le_refl _) (.cells #[.int .i64 y', .int .i64 m', .int .i64 d', .int .i64 h', .int .i64 n', .int .i64 s', .bool true, .int .i64 zone] 25)))
    have W3 := hide (below_go W2.out ((Below.refl w2.heap.size w2).alloc (Nat.le_refl _) (.cells #[.int .i64 y', .int .i64 m', .int .i64 d', .int .i64 h', .int .i64 n', .int .i64 s', .bool true, .int .i64 zone] 25)))
    have E3 := hide (dbox_new w2 y' m' d' h' n' s' true zone 25)
    obtain ⟨k0, k1, k2, k3, k4, k5, k6, k7, k8⟩ := D3.out
    clear k0
    go_wp2_with fail
    refine (s_shift y mo d h mi s g z zone _).mono ?_
    rintro e w3 ⟨hq, hb3⟩
    have D4 := hide (dbox_go D3.out hb3)
    have E4 := hide (dbox_go E3.out hb3)
    have W4 := hide (below_go W3.out hb3)
    clear hb3 k1 k2 k3 k4 k5 k6 k7 k8
    rcases hq with ⟨_, y2, m2, d2, h2, n2, s2, hsh2, rfl⟩ | ⟨ho2, rfl⟩
    · obtain ⟨rfl, rfl, rfl, rfl, rfl, rfl⟩ := sh_one hsh hsh2
      obtain ⟨hg, f1, f2, f3, f4, f5⟩ := shift_facts ho hsh
      subst hg
      have F1 := hide f1
      have F2 := hide f2
      have F3 := hide f3
      have F4 := hide f4
      have F5 := hide f5
      clear hsh hsh2 ho f1 f2 f3 f4 f5
      have bX := (Below.refl w3.heap.size w3).alloc (Nat.le_refl _) (.cells #[.int .i64 y', .int .i64 m', .int .i64 d', .int .i64 h', .int .i64 n', .int .i64 s', .bool true, .int .i64 zone] 25)
      have D5 := hide (dbox_go D4.out bX)
      have E5 := hide (dbox_go E4.out bX)
      have W5 := hide (below_go W4.out bX)
      have X5 := hide (dbox_new w3 y' m' d' h' n' s' true zone 25)
      obtain ⟨k0, k1, k2, k3, k4, k5, k6, k7, k8⟩ := D5.out
      obtain ⟨l0, l1, l2, l3, l4, l5, l6, l7, l8⟩ := E5.out
      obtain ⟨p0, p1, p2, p3, p4, p5, p6, p7, p8⟩ := X5.out
      clear k0 l0 p0 bX
      go_wp2_with fail
      refine (i_shift y' m' d' h' n' s' true zone z _ (mtab_go MT.out W5.out)).mono ?_
      rintro e w4 ⟨hr, hb4⟩
      have D6 := hide (dbox_go D5.out hb4)
      have E6 := hide (dbox_go E5.out hb4)
      have W6 := hide (below_go W5.out hb4)
      clear hb4 k1 k2 k3 k4 k5 k6 k7 k8 l1 l2 l3 l4 l5 l6 l7 l8 p1 p2 p3 p4 p5 p6 p7 p8
      rcases hr with ⟨_, c0, c1, c2, c3, c4, c5, hsh3, rfl⟩ | ⟨ho3, rfl⟩
      · obtain ⟨rfl, rfl, rfl, rfl, rfl, rfl⟩ := F5.out c0 c1 c2 c3 c4 c5 hsh3
        clear hsh3
        have bY := (Below.refl w4.heap.size w4).alloc (Nat.le_refl _) (.cells #[.int .i64 y, .int .i64 mo, .int .i64 d, .int .i64 h, .int .i64 mi, .int .i64 s, .bool true, .int .i64 z] 25)
        have D7 := hide (dbox_go D6.out bY)
        have E7 := hide (dbox_go E6.out bY)
        have W7 := hide (below_go W6.out bY)
        have K7 := hide (dbox_new w4 y mo d h mi s true z 25)
        clear bY
        go_wp2_with fail
        refine reg9 (w := w) F1.out F2.out rfl F3.out ⟨D7.out, E7.out, K7.out, below_go HB1.out W7.out, mtab_go MT.out W7.out⟩ ?_
        intro u wF hbF e2
        have HBF := hide hbF
        clear hbF
        rw [e2]
        go_wp2
        go_ret
        exact ⟨rfl, HBF.out⟩
      · rw [F4.out] at ho3; cases ho3
    · rw [ho] at ho2; cases ho2
  · have D3 := hide (dbox_go D2.out ((Below.refl w2.heap.size w2).alloc (Nat.le_refl _) (.cells #[.int .i64 0, .int .i64 0, .int .i64 0, .int .i64 0, .int .i64 0, .int .i64 0, .bool false, .int .i64 0] 25)))
    have W3 := hide (below_go W2.out ((Below.refl w2.heap.size w2).alloc (Nat.le_refl _) (.cells #[.int .i64 0, .int .i64 0, .int .i64 0, .int .i64 0, .int .i64 0, .int .i64 0, .bool false, .int .i64 0] 25)))
    have E3 := hide (dbox_new w2 0 0 0 0 0 0 false 0 25)
    obtain ⟨k0, k1, k2, k3, k4, k5, k6, k7, k8⟩ := D3.out
    clear k0
    go_wp2_with fail
    refine (s_shift y mo d h mi s g z zone _).mono ?_
    rintro e w3 ⟨hq, hb3⟩
    have E4 := hide (dbox_go E3.out hb3)
    have W4 := hide (below_go W3.out hb3)
    clear hb3 k1 k2 k3 k4 k5 k6 k7 k8
    rcases hq with ⟨ho2, _⟩ | ⟨_, rfl⟩
    · rw [ho] at ho2; cases ho2
    · have bX := (Below.refl w3.heap.size w3).alloc (Nat.le_refl _) (.cells #[.int .i64 0, .int .i64 0, .int .i64 0, .int .i64 0, .int .i64 0, .int .i64 0, .bool false, .int .i64 0] 25)
      have E5 := hide (dbox_go E4.out bX)
      have W5 := hide (below_go W4.out bX)
      have X5 := hide (dbox_new w3 0 0 0 0 0 0 false 0 25)
      obtain ⟨l0, l1, l2, l3, l4, l5, l6, l7, l8⟩ := E5.out
      obtain ⟨p0, p1, p2, p3, p4, p5, p6, p7, p8⟩ := X5.out
      clear l0 p0 bX
      go_wp2
      go_ret
      exact ⟨rfl, below_go HB1.out W5.out⟩
end Go.Proofs.YtaigicdoepdhnacDoor
