/-
  Contract of the specification: one of the shortest texts of a node.
-/
import Derived.Test.YtepommmmmfaihaaDoorC44
import Derived.Test.YtepommmmmfaihaaDoorC45
import Derived.Test.YtepommmmmfaihaaDoorC9
import Derived.Test.YtepommmmmfaihaaDoorC23
namespace Go.Proofs.YtepommmmmfaihaaDoor
open Go.RowKit Go.Joins
set_option linter.unusedVariables false
set_option linter.unusedSimpArgs false
/-- What is answered of a node: a row, and whether there is one. -/
def ShV (X : Rx) (n : Nat) (M : List Int) (o : Bool) : Prop := o = (shX X n).isSome ∧ ∀ p, shX X n = some p → M = p
theorem shv_yes {X : Rx} {n : Nat} {M : List Int} (h : shX X n = some M) : ShV X n M true := ⟨by rw [h]; rfl, fun p hp => by rw [h] at hp; exact Option.some.inj hp⟩
theorem shv_no {X : Rx} {n : Nat} {M : List Int} (h : shX X n = none) : ShV X n M false := ⟨by rw [h]; rfl, fun p hp => by rw [h] at hp; cases hp⟩
theorem shv_t {X : Rx} {n : Nat} {M : List Int} (h : ShV X n M true) : shX X n = some M := by
  cases hx : shX X n with
  | none => have := h.1; rw [hx] at this; cases this
  | some p => rw [h.2 p hx]
theorem shv_f {X : Rx} {n : Nat} {M : List Int} (h : ShV X n M false) : shX X n = none := by
  cases hx : shX X n with
  | none => rfl
  | some p => have := h.1; rw [hx] at this; cases this
def ShAns (X : Rx) (n bd : Nat) (w : World) (e : Ending) (w' : World) : Prop :=
  ∃ (ad : Option Addr) (c k : Nat) (M : List Int) (o : Bool), e = .returned (.tuple #[.slice ad k c, .bool o]) ∧ k = M.length ∧ ShV X n M o ∧ k ≤ bd ∧ IR w.heap.size w' ad c M ∧ Below w.heap.size w w'
def SpC (X : Rx) (len b off cap n bd : Nat) : Prop := ∀ w : World, b < w.heap.size → RxRow w b off X w.heap.size → Calls Tryd.prog 32 #[.slice (some ⟨b, off, none⟩) len cap, .int .i64 n] w (ShAns X n bd w)
theorem ir_nil (B : Nat) (w : World) : IR B w none 0 [] := ⟨rfl, .inl ⟨rfl, rfl⟩⟩
theorem ir_empty (w : World) : IR w.heap.size (w.alloc (.cells #[] 2)) (some ⟨w.heap.size, 0, none⟩) 0 [] :=
  ⟨rfl, .inr ⟨w.heap.size, 0, #[], rfl, Nat.le_refl _, heap_alloc_new w _, Nat.le_refl _, by unfold maxLen; omega, rfl, rfl⟩⟩
theorem ir_one (w : World) (x : Int) : IR w.heap.size (w.alloc (.cells #[.int .i64 x] 2)) (some ⟨w.heap.size, 0, none⟩) 1 [x] :=
  ⟨rfl, .inr ⟨w.heap.size, 1, #[.int .i64 x], rfl, Nat.le_refl _, heap_alloc_new w _, Nat.le_refl _, by unfold maxLen; omega, rfl, rfl⟩⟩
theorem ir_src {B : Nat} {w : World} {ad : Option Addr} {c : Nat} {L : List Int} (h : IR B w ad c L) (h0 : 0 < L.length) : ∃ a, ad = some a ∧ ∀ j u, (L.map (Value.int .i64))[j]? = some u → w.cell? (a.add j) = some u := by
  obtain ⟨g, rfl, -, -⟩ := ir_at h 0 h0
  refine ⟨_, rfl, row_src (fun j hj => ?_)⟩
  obtain ⟨g2, e, -, hc⟩ := ir_at h j hj
  simp only [Option.some.injEq, Addr.mk.injEq] at e
  rw [e.1, Nat.zero_add]
  exact hc
theorem ir_go {B : Nat} {w w' : World} {ad : Option Addr} {c : Nat} {L : List Int} (h : IR B w ad c L) (hb : Below w.heap.size w w') : IR B w' ad c L := gOwn_after h hb
theorem ir_low {B B' : Nat} {w : World} {ad : Option Addr} {c : Nat} {L : List Int} (h : IR B w ad c L) (hB : B' ≤ B) : IR B' w ad c L := gOwn_lower h hB
theorem gr_below {B : Nat} {w w1 w2 : World} {e : TypeId} {z : Nat} {v : Value} {n : Nat} {xs : List Value} (h : Below B w w1) (hown : w1.ownsRow B e z v n xs) (hB : B ≤ w1.heap.size) (hg : w1.grownBy w2 v.ownBlock) : Below B w w2 := h.grown hg hB (fun k hk => (hown.lt k hk).1)
section
variable {X : Rx} {n a b : Nat} {M1 M2 : List Int}
theorem sv_row (e : shX X n = rowS (shX X a) (shX X b)) (h1 : ShV X a M1 true) (h2 : ShV X b M2 true) (h : M1.length + M2.length ≤ 300) : ShV X n (M1 ++ M2) true := shv_yes (by rw [e, shv_t h1, shv_t h2, rowS, if_pos h])
theorem sv_rowL (e : shX X n = rowS (shX X a) (shX X b)) (h1 : ShV X a M1 true) (h2 : ShV X b M2 true) (h : ¬ M1.length + M2.length ≤ 300) (M : List Int) : ShV X n M false := shv_no (by rw [e, shv_t h1, shv_t h2, rowS, if_neg h])
theorem sv_rowF {o1 o2 : Bool} (e : shX X n = rowS (shX X a) (shX X b)) (h1 : ShV X a M1 o1) (h2 : ShV X b M2 o2) (h : (o1 && o2) = false) (M : List Int) : ShV X n M false := shv_no (by
  rw [e]
  cases o1
  · rw [shv_f h1]; rfl
  · cases o2
    · rw [shv_t h1, shv_f h2]; rfl
    · cases h)
theorem sv_orB {o2 : Bool} (e : shX X n = orS (shX X a) (shX X b)) (h1 : ShV X a M1 false) (h2 : ShV X b M2 o2) : ShV X n M2 o2 := by
  have : shX X n = shX X b := by rw [e, shv_f h1]; rfl
  unfold ShV at h2 ⊢
  rw [this]
  exact h2
theorem sv_orL (e : shX X n = orS (shX X a) (shX X b)) (h1 : ShV X a M1 true) (h2 : ShV X b M2 true) (h : M2.length < M1.length) : ShV X n M2 true := shv_yes (by rw [e, shv_t h1, shv_t h2, orS, if_pos h])
theorem sv_orA (e : shX X n = orS (shX X a) (shX X b)) (h1 : ShV X a M1 true) (h2 : ShV X b M2 true) (h : ¬ M2.length < M1.length) : ShV X n M1 true := shv_yes (by rw [e, shv_t h1, shv_t h2, orS, if_neg h])
theorem sv_orF (e : shX X n = orS (shX X a) (shX X b)) (h1 : ShV X a M1 true) (h2 : ShV X b M2 false) : ShV X n M1 true := shv_yes (by rw [e, shv_t h1, shv_f h2]; rfl)
theorem sv_cnt0 {mn : Int} (e : shX X n = cntS mn (shX X a)) (h : mn = 0) : ShV X n [] true := shv_yes (by rw [e]; unfold cntS; rw [if_pos h])
theorem sv_cntF {mn : Int} (e : shX X n = cntS mn (shX X a)) (h : mn ≠ 0) (h1 : ShV X a M1 false) (M : List Int) : ShV X n M false := shv_no (by rw [e]; unfold cntS; rw [if_neg h, shv_f h1])
theorem sv_cntL {mn : Int} (e : shX X n = cntS mn (shX X a)) (h : mn ≠ 0) (h1 : ShV X a M1 true) (hl : ¬ M1.length * mn.toNat ≤ 300) (M : List Int) : ShV X n M false := shv_no (by rw [e]; unfold cntS; rw [if_neg h, shv_t h1]; exact if_neg hl)
theorem sv_cnt {mn : Int} (e : shX X n = cntS mn (shX X a)) (h : mn ≠ 0) (h1 : ShV X a M1 true) (hl : M1.length * mn.toNat ≤ 300) : ShV X n (repL M1 mn.toNat) true := shv_yes (by rw [e]; unfold cntS; rw [if_neg h, shv_t h1]; exact if_pos hl)
theorem sv_class (h : X.K n = 2) {x : Int} (hx : leC (X.NT n) (X.NR n) (X.L n) (X.H n) = some x) : ShV X n [x] true := shv_yes (by rw [sh_class h, hx]; rfl)
theorem sv_classF (h : X.K n = 2) (hx : leC (X.NT n) (X.NR n) (X.L n) (X.H n) = none) (M : List Int) : ShV X n M false := shv_no (by rw [sh_class h, hx]; rfl)
theorem sv_empty (h : X.K n = 1) : ShV X n [] true := shv_yes (sh_empty h)
end
theorem ir_row {B k c : Nat} {w : World} {ad : Option Addr} {M : List Int} (hk : M.length = k) (h : w.ownsRow B 2 1 (.slice ad k c) k (M.map (Value.int .i64))) : IR B w ad c M := by subst hk; exact h
set_option maxRecDepth 100000 in
set_option maxHeartbeats 8000000 in
theorem h_empty (X : Rx) (len : Nat) (hX : X.len = len) (hlen : len ≤ 120) (b off cap n : Nat) (w : World) (hn : n < len) (hb : b < w.heap.size) (hr : RxRow w b off X w.heap.size) (h1 : X.K n = 1) :
    Calls Tryd.prog 32 #[.slice (some ⟨b, off, none⟩) len cap, .int .i64 n] w (ShAns X n 1 w) := by
  have HR := hide hr
  have hXn : n < X.len := by rw [hX]; exact hn
  obtain ⟨ad, cp, hc, hrg⟩ := hr n hXn
  obtain ⟨c0, c1, c2, c3, c4, c5, c6⟩ := hc
  have hi : (n : Int) < (len : Int) := by omega
  have st : ∀ o, Below w.heap.size w (w.alloc o) := fun o => (Below.refl _ _).alloc (Nat.le_refl _) _
  have HW0 : ∀ T, Hid (WS w (w.alloc (.cells #[.int .i64 (X.K n), .bool (X.NT n), .slice ad (X.NR n) cp, .int .i64 (X.A n), .int .i64 (X.B n), .int .i64 (X.MN n), .int .i64 (X.MX n)] T)) b off X n ad cp) := fun T => ⟨nodeAt_new _ _ _ _ _ _ _ _ _ _ _, rxRow_go HR.out hb (st _), hb, st _⟩
  have HV := hide (sv_empty h1)
  rw [h1] at c0
  clear hr h1 HW0 hrg
  go_enter Tryd.func32, Tryd.ntmps32
  go_wp2
  go_ret2
  exact ⟨none, 0, 0, [], true, rfl, rfl, HV.out, Nat.zero_le _, ir_nil _ _, st _⟩
set_option maxRecDepth 100000 in
set_option maxHeartbeats 8000000 in
theorem h_class (X : Rx) (len : Nat) (hX : X.len = len) (hlen : len ≤ 120) (b off cap n : Nat) (w : World) (hn : n < len) (hb : b < w.heap.size) (hr : RxRow w b off X w.heap.size) (h2 : X.K n = 2) (hok : RgOk (X.NR n) (X.L n) (X.H n)) (hnd : nodeB 2 (X.NT n) (X.NR n) (X.L n) (X.H n) (X.A n) (X.B n) (X.MN n) (X.MX n) = true) :
    Calls Tryd.prog 32 #[.slice (some ⟨b, off, none⟩) len cap, .int .i64 n] w (ShAns X n 1 w) := by
  have HR := hide hr
  have hXn : n < X.len := by rw [hX]; exact hn
  obtain ⟨ad, cp, hc, hrg⟩ := hr n hXn
  obtain ⟨c0, c1, c2, c3, c4, c5, c6⟩ := hc
  have hi : (n : Int) < (len : Int) := by omega
  have st : ∀ o, Below w.heap.size w (w.alloc o) := fun o => (Below.refl _ _).alloc (Nat.le_refl _) _
  have HW0 : ∀ T, Hid (WS w (w.alloc (.cells #[.int .i64 (X.K n), .bool (X.NT n), .slice ad (X.NR n) cp, .int .i64 (X.A n), .int .i64 (X.B n), .int .i64 (X.MN n), .int .i64 (X.MX n)] T)) b off X n ad cp) := fun T => ⟨nodeAt_new _ _ _ _ _ _ _ _ _ _ _, rxRow_go HR.out hb (st _), hb, st _⟩
  have CL := hide (fun w2 (h : Below w.heap.size w w2) => s_least (X.NT n) ad (X.NR n) cp (X.A n) (X.B n) (X.MN n) (X.MX n) (X.L n) (X.H n) w2 hok hnd (rngAt_up (rngAt_go hrg h) h.size))
  have HV1 := hide (fun x => sv_class (X := X) h2 (x := x))
  have HV0 := hide (fun M h => sv_classF (X := X) h2 h M)
  have HGE : Hid (∀ x, leC (X.NT n) (X.NR n) (X.L n) (X.H n) = some x → 0 ≤ x) := hide (fun x h => by have := chB_cases (le_range h); omega)
  rw [h2] at c0
  simp only [h2] at HW0
  clear hr h2 hrg hok hnd
  cases hle : leC (X.NT n) (X.NR n) (X.L n) (X.H n) with
  | none =>
    rw [hle] at CL
    go_enter Tryd.func32, Tryd.ntmps32
    go_wp2_with (go_at_call 48; refine (CL.out _ (st _)).mono ?_; rintro e w2 ⟨rfl, hb2⟩; have HB2 := hide ((st _).trans (hb2.mono (st _).size)); clear hb2; simp only [Option.getD_none])
    go_ret2
    exact ⟨none, 0, 0, [], false, rfl, rfl, HV0.out _ hle, Nat.zero_le _, ir_nil _ _, HB2.out⟩
  | some x =>
    rw [hle] at CL
    have hx0 := HGE.out x hle
    go_enter Tryd.func32, Tryd.ntmps32
    go_wp2_with (go_at_call 48; refine (CL.out _ (st _)).mono ?_; rintro e w2 ⟨rfl, hb2⟩; have HB2 := hide ((st _).trans (hb2.mono (st _).size)); clear hb2; simp only [Option.getD_some])
    go_ret2
    exact ⟨_, 1, 1, [x], true, rfl, rfl, HV1.out _ hle, Nat.le_refl _, ir_low (ir_one _ _) HB2.out.size, HB2.out.alloc HB2.out.size _⟩
set_option maxRecDepth 100000 in
set_option maxHeartbeats 8000000 in
theorem h_seq (X : Rx) (len : Nat) (hX : X.len = len) (hlen : len ≤ 120) (b off cap n : Nat) (w : World) (hn : n < len) (hb : b < w.heap.size) (hr : RxRow w b off X w.heap.size) (i j : Nat) (hk : X.K n = 3) (hA : X.A n = (i : Int)) (hB : X.B n = (j : Int)) (hai : i < n) (hbj : j < n) (zi zj : Nat) (hz : zi + zj ≤ 100000) (CA : SpC X len b off cap i zi) (CB : SpC X len b off cap j zj) :
    Calls Tryd.prog 32 #[.slice (some ⟨b, off, none⟩) len cap, .int .i64 n] w (ShAns X n (zi + zj) w) := by
  have HR := hide hr
  have hXn : n < X.len := by rw [hX]; exact hn
  obtain ⟨ad, cp, hc, hrg⟩ := hr n hXn
  obtain ⟨c0, c1, c2, c3, c4, c5, c6⟩ := hc
  have hi : (n : Int) < (len : Int) := by omega
  have st : ∀ o, Below w.heap.size w (w.alloc o) := fun o => (Below.refl _ _).alloc (Nat.le_refl _) _
  have HW0 : ∀ T, Hid (WS w (w.alloc (.cells #[.int .i64 (X.K n), .bool (X.NT n), .slice ad (X.NR n) cp, .int .i64 (X.A n), .int .i64 (X.B n), .int .i64 (X.MN n), .int .i64 (X.MX n)] T)) b off X n ad cp) := fun T => ⟨nodeAt_new _ _ _ _ _ _ _ _ _ _ _, rxRow_go HR.out hb (st _), hb, st _⟩
  obtain ⟨i0, hi0, hz0, hz1, hz2⟩ := info_parts info64S
  have HE := hide (sh_seq hk hA hB hai hbj)
  have CA0 := hide CA
  have CB0 := hide CB
  rw [hk] at c0
  rw [hA] at c3
  rw [hB] at c4
  simp only [hk, hA, hB] at HW0
  clear hr hrg CA CB
  go_enter Tryd.func32, Tryd.ntmps32
  go_wp2_with fail
  refine (CA0.out _ (ws_lt (HW0 _).out) (ws_row (HW0 _).out)).mono ?_
  rintro e w1 ⟨a1, k1, m1, M1, o1, rfl, hm1, hv1, hl1, hi1, hb1⟩
  have HM1 := hide hm1
  have HV1 := hide hv1
  have HW1 := hide (ws_go (HW0 _).out hb1)
  have HI1 := hide (ir_low hi1 (ws_below (HW0 _).out).size)
  obtain ⟨n0, n1, n2, n3, n4, n5, n6⟩ := nodeAt_cells HW1.out.1
  rw [hA] at n3
  rw [hB] at n4
  clear hm1 hv1 hi1 hb1
  go_wp2_with fail
  refine (CB0.out _ (ws_lt HW1.out) (ws_row HW1.out)).mono ?_
  rintro e w2 ⟨a2, k2, m2, M2, o2, rfl, hm2, hv2, hl2, hi2, hb2⟩
  have HM2 := hide hm2
  have HV2 := hide hv2
  have HW2 := hide (ws_go HW1.out hb2)
  have HI1b := hide (ir_go HI1.out hb2)
  have HI2 := hide (ir_low hi2 (ws_below HW1.out).size)
  clear hm2 hv2 hi2 hb2 n0 n1 n2 n3 n4 n5 n6
  cases o1
  · have HF := hide (fun M => sv_rowF HE.out HV1.out HV2.out rfl M)
    go_wp2_with (first | (at_builtin; refine wpList_append_src rfl (.tmp 50) (.tmp 51) 38 rfl w2.heap.size 2 i0 (.int .i64 0) 1 8 Tryd.underlying38 hi0 hz0 hz1 hz2 rfl (by decide) _ 0 [] rfl (ir_empty w2) a1 m1 k1 (M1.map (Value.int .i64)) rfl (by rw [List.length_map, Nat.mul_one]; exact HM1.out.symm) (fun h9 => ir_src (ir_go HI1b.out ((Below.refl _ _).alloc (Nat.le_refl _) _)) (by rw [← HM1.out]; exact h9)) (ints_one _) (by unfold maxLen; omega) (by omega) (by simp) ?_; intro a5 c5 w5 hown5 hgr5; rw [Nat.zero_add, List.nil_append] at hown5; rw [Nat.zero_add]; have HO5 := hide hown5; have HB5 := hide (gr_below ((Below.refl _ _).alloc (Nat.le_refl _) _) (ir_empty w2) (by simp) hgr5); clear hown5 hgr5) | (at_builtin; refine wpList_append_src rfl (.tmp 52) (.tmp 53) 38 rfl w2.heap.size 2 i0 (.int .i64 0) 1 8 Tryd.underlying38 hi0 hz0 hz1 hz2 rfl (by decide) _ _ _ rfl HO5.out a2 m2 k2 (M2.map (Value.int .i64)) rfl (by rw [List.length_map, Nat.mul_one]; exact HM2.out.symm) (fun h9 => ir_src (ir_go HI2.out HB5.out) (by rw [← HM2.out]; exact h9)) (ints_one _) (by unfold maxLen; omega) (by omega) HB5.out.size ?_; intro a6 c6 w6 hown6 hgr6; rw [← List.map_append] at hown6; have HO6 := hide hown6; have HB6 := hide ((ws_below HW2.out).trans ((gr_below HB5.out HO5.out HB5.out.size hgr6).mono (ws_below HW2.out).size)); clear hown6 hgr6))
    go_ret2
    exact ⟨a6, c6, m1 + m2, M1 ++ M2, _, rfl, by rw [List.length_append, HM1.out, HM2.out], HF.out _, by omega, ir_row (by rw [List.length_append, HM1.out, HM2.out]) (gOwn_lower HO6.out (ws_below HW2.out).size), HB6.out⟩
  · cases o2
    · have HF := hide (fun M => sv_rowF HE.out HV1.out HV2.out rfl M)
      go_wp2_with (first | (at_builtin; refine wpList_append_src rfl (.tmp 50) (.tmp 51) 38 rfl w2.heap.size 2 i0 (.int .i64 0) 1 8 Tryd.underlying38 hi0 hz0 hz1 hz2 rfl (by decide) _ 0 [] rfl (ir_empty w2) a1 m1 k1 (M1.map (Value.int .i64)) rfl (by rw [List.length_map, Nat.mul_one]; exact HM1.out.symm) (fun h9 => ir_src (ir_go HI1b.out ((Below.refl _ _).alloc (Nat.le_refl _) _)) (by rw [← HM1.out]; exact h9)) (ints_one _) (by unfold maxLen; omega) (by omega) (by simp) ?_; intro a5 c5 w5 hown5 hgr5; rw [Nat.zero_add, List.nil_append] at hown5; rw [Nat.zero_add]; have HO5 := hide hown5; have HB5 := hide (gr_below ((Below.refl _ _).alloc (Nat.le_refl _) _) (ir_empty w2) (by simp) hgr5); clear hown5 hgr5) | (at_builtin; refine wpList_append_src rfl (.tmp 52) (.tmp 53) 38 rfl w2.heap.size 2 i0 (.int .i64 0) 1 8 Tryd.underlying38 hi0 hz0 hz1 hz2 rfl (by decide) _ _ _ rfl HO5.out a2 m2 k2 (M2.map (Value.int .i64)) rfl (by rw [List.length_map, Nat.mul_one]; exact HM2.out.symm) (fun h9 => ir_src (ir_go HI2.out HB5.out) (by rw [← HM2.out]; exact h9)) (ints_one _) (by unfold maxLen; omega) (by omega) HB5.out.size ?_; intro a6 c6 w6 hown6 hgr6; rw [← List.map_append] at hown6; have HO6 := hide hown6; have HB6 := hide ((ws_below HW2.out).trans ((gr_below HB5.out HO5.out HB5.out.size hgr6).mono (ws_below HW2.out).size)); clear hown6 hgr6))
      go_ret2
      exact ⟨a6, c6, m1 + m2, M1 ++ M2, _, rfl, by rw [List.length_append, HM1.out, HM2.out], HF.out _, by omega, ir_row (by rw [List.length_append, HM1.out, HM2.out]) (gOwn_lower HO6.out (ws_below HW2.out).size), HB6.out⟩
    · by_cases hz3 : m1 + m2 ≤ 300
      · have HT := hide (sv_row HE.out HV1.out HV2.out (by rw [← HM1.out, ← HM2.out]; exact hz3))
        have hzd : decide ((m1 : Int) + (m2 : Int) ≤ 300) = true := decide_eq_true (by omega)
        go_wp2_with (first | (at_builtin; refine wpList_append_src rfl (.tmp 50) (.tmp 51) 38 rfl w2.heap.size 2 i0 (.int .i64 0) 1 8 Tryd.underlying38 hi0 hz0 hz1 hz2 rfl (by decide) _ 0 [] rfl (ir_empty w2) a1 m1 k1 (M1.map (Value.int .i64)) rfl (by rw [List.length_map, Nat.mul_one]; exact HM1.out.symm) (fun h9 => ir_src (ir_go HI1b.out ((Below.refl _ _).alloc (Nat.le_refl _) _)) (by rw [← HM1.out]; exact h9)) (ints_one _) (by unfold maxLen; omega) (by omega) (by simp) ?_; intro a5 c5 w5 hown5 hgr5; rw [Nat.zero_add, List.nil_append] at hown5; rw [Nat.zero_add]; have HO5 := hide hown5; have HB5 := hide (gr_below ((Below.refl _ _).alloc (Nat.le_refl _) _) (ir_empty w2) (by simp) hgr5); clear hown5 hgr5) | (at_builtin; refine wpList_append_src rfl (.tmp 52) (.tmp 53) 38 rfl w2.heap.size 2 i0 (.int .i64 0) 1 8 Tryd.underlying38 hi0 hz0 hz1 hz2 rfl (by decide) _ _ _ rfl HO5.out a2 m2 k2 (M2.map (Value.int .i64)) rfl (by rw [List.length_map, Nat.mul_one]; exact HM2.out.symm) (fun h9 => ir_src (ir_go HI2.out HB5.out) (by rw [← HM2.out]; exact h9)) (ints_one _) (by unfold maxLen; omega) (by omega) HB5.out.size ?_; intro a6 c6 w6 hown6 hgr6; rw [← List.map_append] at hown6; have HO6 := hide hown6; have HB6 := hide ((ws_below HW2.out).trans ((gr_below HB5.out HO5.out HB5.out.size hgr6).mono (ws_below HW2.out).size)); clear hown6 hgr6))
        go_ret2
        exact ⟨a6, c6, m1 + m2, M1 ++ M2, _, rfl, by rw [List.length_append, HM1.out, HM2.out], HT.out, by omega, ir_row (by rw [List.length_append, HM1.out, HM2.out]) (gOwn_lower HO6.out (ws_below HW2.out).size), HB6.out⟩
      · have HF := hide (fun M => sv_rowL HE.out HV1.out HV2.out (by rw [← HM1.out, ← HM2.out]; exact hz3) M)
        have hzd : decide ((m1 : Int) + (m2 : Int) ≤ 300) = false := decide_eq_false (by omega)
        go_wp2_with (first | (at_builtin; refine wpList_append_src rfl (.tmp 50) (.tmp 51) 38 rfl w2.heap.size 2 i0 (.int .i64 0) 1 8 Tryd.underlying38 hi0 hz0 hz1 hz2 rfl (by decide) _ 0 [] rfl (ir_empty w2) a1 m1 k1 (M1.map (Value.int .i64)) rfl (by rw [List.length_map, Nat.mul_one]; exact HM1.out.symm) (fun h9 => ir_src (ir_go HI1b.out ((Below.refl _ _).alloc (Nat.le_refl _) _)) (by rw [← HM1.out]; exact h9)) (ints_one _) (by unfold maxLen; omega) (by omega) (by simp) ?_; intro a5 c5 w5 hown5 hgr5; rw [Nat.zero_add, List.nil_append] at hown5; rw [Nat.zero_add]; have HO5 := hide hown5; have HB5 := hide (gr_below ((Below.refl _ _).alloc (Nat.le_refl _) _) (ir_empty w2) (by simp) hgr5); clear hown5 hgr5) | (at_builtin; refine wpList_append_src rfl (.tmp 52) (.tmp 53) 38 rfl w2.heap.size 2 i0 (.int .i64 0) 1 8 Tryd.underlying38 hi0 hz0 hz1 hz2 rfl (by decide) _ _ _ rfl HO5.out a2 m2 k2 (M2.map (Value.int .i64)) rfl (by rw [List.length_map, Nat.mul_one]; exact HM2.out.symm) (fun h9 => ir_src (ir_go HI2.out HB5.out) (by rw [← HM2.out]; exact h9)) (ints_one _) (by unfold maxLen; omega) (by omega) HB5.out.size ?_; intro a6 c6 w6 hown6 hgr6; rw [← List.map_append] at hown6; have HO6 := hide hown6; have HB6 := hide ((ws_below HW2.out).trans ((gr_below HB5.out HO5.out HB5.out.size hgr6).mono (ws_below HW2.out).size)); clear hown6 hgr6))
        go_ret2
        exact ⟨a6, c6, m1 + m2, M1 ++ M2, _, rfl, by rw [List.length_append, HM1.out, HM2.out], HF.out _, by omega, ir_row (by rw [List.length_append, HM1.out, HM2.out]) (gOwn_lower HO6.out (ws_below HW2.out).size), HB6.out⟩
set_option maxRecDepth 100000 in
set_option maxHeartbeats 8000000 in
theorem h_or (X : Rx) (len : Nat) (hX : X.len = len) (hlen : len ≤ 120) (b off cap n : Nat) (w : World) (hn : n < len) (hb : b < w.heap.size) (hr : RxRow w b off X w.heap.size) (i j : Nat) (hk : X.K n = 4) (hA : X.A n = (i : Int)) (hB : X.B n = (j : Int)) (hai : i < n) (hbj : j < n) (zi zj : Nat) (hz : zi + zj ≤ 100000) (CA : SpC X len b off cap i zi) (CB : SpC X len b off cap j zj) :
    Calls Tryd.prog 32 #[.slice (some ⟨b, off, none⟩) len cap, .int .i64 n] w (ShAns X n (zi + zj) w) := by
  have HR := hide hr
  have hXn : n < X.len := by rw [hX]; exact hn
  obtain ⟨ad, cp, hc, hrg⟩ := hr n hXn
  obtain ⟨c0, c1, c2, c3, c4, c5, c6⟩ := hc
  have hi : (n : Int) < (len : Int) := by omega
  have st : ∀ o, Below w.heap.size w (w.alloc o) := fun o => (Below.refl _ _).alloc (Nat.le_refl _) _
  have HW0 : ∀ T, Hid (WS w (w.alloc (.cells #[.int .i64 (X.K n), .bool (X.NT n), .slice ad (X.NR n) cp, .int .i64 (X.A n), .int .i64 (X.B n), .int .i64 (X.MN n), .int .i64 (X.MX n)] T)) b off X n ad cp) := fun T => ⟨nodeAt_new _ _ _ _ _ _ _ _ _ _ _, rxRow_go HR.out hb (st _), hb, st _⟩
  have HE := hide (sh_or hk hA hB hai hbj)
  have CA0 := hide CA
  have CB0 := hide CB
  rw [hk] at c0
  rw [hA] at c3
  rw [hB] at c4
  simp only [hk, hA, hB] at HW0
  clear hr hrg CA CB
  go_enter Tryd.func32, Tryd.ntmps32
  go_wp2_with fail
  refine (CA0.out _ (ws_lt (HW0 _).out) (ws_row (HW0 _).out)).mono ?_
  rintro e w1 ⟨a1, k1, m1, M1, o1, rfl, hm1, hv1, hl1, hi1, hb1⟩
  have HM1 := hide hm1
  have HV1 := hide hv1
  have HW1 := hide (ws_go (HW0 _).out hb1)
  have HI1 := hide (ir_low hi1 (ws_below (HW0 _).out).size)
  obtain ⟨n0, n1, n2, n3, n4, n5, n6⟩ := nodeAt_cells HW1.out.1
  rw [hA] at n3
  rw [hB] at n4
  clear hm1 hv1 hi1 hb1
  go_wp2_with fail
  refine (CB0.out _ (ws_lt HW1.out) (ws_row HW1.out)).mono ?_
  rintro e w2 ⟨a2, k2, m2, M2, o2, rfl, hm2, hv2, hl2, hi2, hb2⟩
  have HM2 := hide hm2
  have HV2 := hide hv2
  have HW2 := hide (ws_go HW1.out hb2)
  have HI1b := hide (ir_go HI1.out hb2)
  have HI2 := hide (ir_low hi2 (ws_below HW1.out).size)
  clear hm2 hv2 hi2 hb2 n0 n1 n2 n3 n4 n5 n6
  cases o1
  · have HT := hide (sv_orB HE.out HV1.out HV2.out)
    go_wp2
    go_ret2
    exact ⟨a2, k2, m2, M2, o2, rfl, HM2.out, HT.out, by omega, HI2.out, ws_below HW2.out⟩
  · cases o2
    · have HT := hide (sv_orF HE.out HV1.out HV2.out)
      go_wp2
      go_ret2
      exact ⟨a1, k1, m1, M1, true, rfl, HM1.out, HT.out, by omega, HI1b.out, ws_below HW2.out⟩
    · by_cases hz3 : m2 < m1
      · have HT := hide (sv_orL HE.out HV1.out HV2.out (by rw [← HM1.out, ← HM2.out]; exact hz3))
        have hzd : decide ((m2 : Int) < (m1 : Int)) = true := decide_eq_true (by omega)
        go_wp2
        go_ret2
        exact ⟨a2, k2, m2, M2, true, rfl, HM2.out, HT.out, by omega, HI2.out, ws_below HW2.out⟩
      · have HT := hide (sv_orA HE.out HV1.out HV2.out (by rw [← HM1.out, ← HM2.out]; exact hz3))
        have hzd : decide ((m2 : Int) < (m1 : Int)) = false := decide_eq_false (by omega)
        go_wp2
        go_ret2
        exact ⟨a1, k1, m1, M1, true, rfl, HM1.out, HT.out, by omega, HI1b.out, ws_below HW2.out⟩
end Go.Proofs.YtepommmmmfaihaaDoor
