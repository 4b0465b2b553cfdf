/-
  Contract of the program: the text of a node, and of one in parentheses where they must be.
-/
import Derived.Test.YtibagghpimadfaaGreatDoorV29
import Derived.Test.YtibagghpimadfaaGreatDoorV26
namespace Go.Proofs.YtibagghpimadfaaGreatDoor
open Go.RowKit Go.Joins
set_option linter.unusedVariables false
set_option linter.unusedSimpArgs false
/-- What a node's text's contract says. -/
def NodeC (X : Rx) (len b off cap : Nat) (n : Nat) : Prop := ∀ w : World, b < w.heap.size → RxRow w b off X w.heap.size → PwT w → Calls Tryz.prog 14 #[.slice (some ⟨b, off, none⟩) len cap, .int .i64 n] w fun e w' => e = .returned (.string (ntX X n)) ∧ Below w.heap.size w w'
def WrapC (X : Rx) (len b off cap : Nat) (ks : List Int) (i : Int) (t : ByteArray) : Prop := ∀ (w : World) (v : Value), KsAt w v ks → b < w.heap.size → RxRow w b off X w.heap.size → PwT w → Calls Tryz.prog 27 #[.slice (some ⟨b, off, none⟩) len cap, .int .i64 i, v] w fun e w' => e = .returned (.string t) ∧ Below w.heap.size w w'
set_option maxHeartbeats 2000000 in
theorem i_wrap (X : Rx) (len : Nat) (hX : X.len = len) (b off cap n : Nat) (hn : n < len) (hlen : len ≤ 120) (hz : (ntX X n).size ≤ 18000) (ks : List Int) (hk : ks.length ≤ 3) (hT : NodeC X len b off cap n) : WrapC X len b off cap ks n (wrT ks (X.K n) (ntX X n)) := by
  intro w v hv hb hr hp
  have C := hide (hT w hb hr hp)
  obtain ⟨ad, cp, hc, -⟩ := hr n (by rw [hX]; exact hn)
  have c0 := hc.1
  have hi : (n : Int) < (len : Int) := by omega
  obtain ⟨K, hK⟩ : ∃ K, X.K n = K := ⟨_, rfl⟩
  obtain ⟨t, ht⟩ : ∃ t, ntX X n = t := ⟨_, rfl⟩
  rw [hK] at c0 ⊢
  rw [ht] at C hz ⊢
  have HKS := hide hv
  have a1 : ¬ 9223372036854775807 < 1 + t.size := by omega
  have a2 : ¬ 9223372036854775807 < 1 + t.size + 1 := by omega
  have C0 : Hid (∀ w2, Below w.heap.size w w2 → w2.cell? ⟨b, off + n * 7, none⟩ = some (.int .i64 K)) := hide (fun w2 h => (h.cell (p := ⟨b, off + n * 7, none⟩) hb).trans c0)
  clear hv hc hr hp hT hK ht
  cases hq : ks.contains K
  · have HV := hide (wr_no (t := t) hq)
    have CK : Hid (∀ w2, Below w.heap.size w w2 → Calls Tryz.prog 47 #[v, .int .i64 K] w2 fun e w' => e = .returned (.bool false) ∧ Below w2.heap.size w2 w') := hide (fun w2 h => by rw [← hq]; exact i_among ks v K w2 hk (ks_go HKS.out h))
    clear hq
    go_enter Tryz.func27, Tryz.ntmps27
    go_wp2_with (first | (go_at_call 14; refine C.out.mono ?_; rintro e w2 ⟨rfl, hb2⟩; have HB2 := hide hb2; have c9 := C0.out w2 hb2; clear hb2) | (go_at_call 47; refine (CK.out _ HB2.out).mono ?_; rintro e w3 ⟨rfl, hb3⟩; have HB3 := hide (HB2.out.trans (hb3.mono HB2.out.size)); clear hb3))
    go_ret
    exact ⟨ret_s9 HV.out.symm, HB3.out⟩
  · have HV := hide (wr_yes (t := t) hq)
    have CK : Hid (∀ w2, Below w.heap.size w w2 → Calls Tryz.prog 47 #[v, .int .i64 K] w2 fun e w' => e = .returned (.bool true) ∧ Below w2.heap.size w2 w') := hide (fun w2 h => by rw [← hq]; exact i_among ks v K w2 hk (ks_go HKS.out h))
    clear hq
    go_enter Tryz.func27, Tryz.ntmps27
    go_wp2_with (first | (go_at_call 14; refine C.out.mono ?_; rintro e w2 ⟨rfl, hb2⟩; have HB2 := hide hb2; have c9 := C0.out w2 hb2; clear hb2) | (go_at_call 47; refine (CK.out _ HB2.out).mono ?_; rintro e w3 ⟨rfl, hb3⟩; have HB3 := hide (HB2.out.trans (hb3.mono HB2.out.size)); clear hb3))
    go_ret
    exact ⟨ret_s9 HV.out.symm, HB3.out⟩
theorem ks_drew {w : World} {v : Value} {ks : List Int} (h : KsAt w v ks) : KsAt w.drew v ks := h
theorem ks_none (w : World) : KsAt w (.slice none 0 0) [] := .inl ⟨rfl, rfl⟩
theorem ks_one (w : World) (k0 : Int) (T : TypeId) : KsAt (w.alloc (.cells #[.int .i64 k0] T)) (.slice (some ⟨w.heap.size, 0, none⟩) 1 1) [k0] := .inr ⟨_, T, rfl, heap_alloc_new w _⟩
theorem ks_oneB (w : World) (o : Obj) (k0 : Int) (T : TypeId) : KsAt ((w.alloc o).alloc (.cells #[.int .i64 k0] T)) (.slice (some ⟨w.heap.size + 1, 0, none⟩) 1 1) [k0] := by
  have h := ks_one (w.alloc o) k0 T
  rwa [World.size_alloc] at h
theorem ks_oneC (w : World) (o : Obj) (k0 : Int) (T : TypeId) : KsAt ((w.alloc (.cells #[.int .i64 k0] T)).alloc o) (.slice (some ⟨w.heap.size, 0, none⟩) 1 1) [k0] := ks_go (ks_one w k0 T) ((Below.refl _ _).alloc (Nat.le_refl _) o)
theorem ks_oneD (w : World) (o p : Obj) (k0 : Int) (T : TypeId) : KsAt (((w.alloc o).alloc p).alloc (.cells #[.int .i64 k0] T)) (.slice (some ⟨w.heap.size + 1 + 1, 0, none⟩) 1 1) [k0] := by
  have h := ks_oneB (w.alloc o) p k0 T
  rwa [World.size_alloc] at h
theorem ks_oneE (w : World) (o p : Obj) (k0 : Int) (T : TypeId) : KsAt (((w.alloc o).alloc (.cells #[.int .i64 k0] T)).alloc p) (.slice (some ⟨w.heap.size + 1, 0, none⟩) 1 1) [k0] := ks_go (ks_oneB w o k0 T) ((Below.refl _ _).alloc (Nat.le_refl _) p)
theorem ks_two (w : World) (k0 k1 : Int) (T : TypeId) : KsAt (w.alloc (.cells #[.int .i64 k0, .int .i64 k1] T)) (.slice (some ⟨w.heap.size, 0, none⟩) 2 2) [k0, k1] := .inr ⟨_, T, rfl, heap_alloc_new w _⟩
theorem ks_twoB (w : World) (o : Obj) (k0 k1 : Int) (T : TypeId) : KsAt ((w.alloc o).alloc (.cells #[.int .i64 k0, .int .i64 k1] T)) (.slice (some ⟨w.heap.size + 1, 0, none⟩) 2 2) [k0, k1] := by
  have h := ks_two (w.alloc o) k0 k1 T
  rwa [World.size_alloc] at h
theorem ks_twoC (w : World) (o : Obj) (k0 k1 : Int) (T : TypeId) : KsAt ((w.alloc (.cells #[.int .i64 k0, .int .i64 k1] T)).alloc o) (.slice (some ⟨w.heap.size, 0, none⟩) 2 2) [k0, k1] := ks_go (ks_two w k0 k1 T) ((Below.refl _ _).alloc (Nat.le_refl _) o)
theorem ks_twoD (w : World) (o p : Obj) (k0 k1 : Int) (T : TypeId) : KsAt (((w.alloc o).alloc p).alloc (.cells #[.int .i64 k0, .int .i64 k1] T)) (.slice (some ⟨w.heap.size + 1 + 1, 0, none⟩) 2 2) [k0, k1] := by
  have h := ks_twoB (w.alloc o) p k0 k1 T
  rwa [World.size_alloc] at h
theorem ks_twoE (w : World) (o p : Obj) (k0 k1 : Int) (T : TypeId) : KsAt (((w.alloc o).alloc (.cells #[.int .i64 k0, .int .i64 k1] T)).alloc p) (.slice (some ⟨w.heap.size + 1, 0, none⟩) 2 2) [k0, k1] := ks_go (ks_twoB w o k0 k1 T) ((Below.refl _ _).alloc (Nat.le_refl _) p)
theorem ks_thr (w : World) (k0 k1 k2 : Int) (T : TypeId) : KsAt (w.alloc (.cells #[.int .i64 k0, .int .i64 k1, .int .i64 k2] T)) (.slice (some ⟨w.heap.size, 0, none⟩) 3 3) [k0, k1, k2] := .inr ⟨_, T, rfl, heap_alloc_new w _⟩
theorem ks_thrB (w : World) (o : Obj) (k0 k1 k2 : Int) (T : TypeId) : KsAt ((w.alloc o).alloc (.cells #[.int .i64 k0, .int .i64 k1, .int .i64 k2] T)) (.slice (some ⟨w.heap.size + 1, 0, none⟩) 3 3) [k0, k1, k2] := by
  have h := ks_thr (w.alloc o) k0 k1 k2 T
  rwa [World.size_alloc] at h
theorem ks_thrC (w : World) (o : Obj) (k0 k1 k2 : Int) (T : TypeId) : KsAt ((w.alloc (.cells #[.int .i64 k0, .int .i64 k1, .int .i64 k2] T)).alloc o) (.slice (some ⟨w.heap.size, 0, none⟩) 3 3) [k0, k1, k2] := ks_go (ks_thr w k0 k1 k2 T) ((Below.refl _ _).alloc (Nat.le_refl _) o)
theorem ks_thrD (w : World) (o p : Obj) (k0 k1 k2 : Int) (T : TypeId) : KsAt (((w.alloc o).alloc p).alloc (.cells #[.int .i64 k0, .int .i64 k1, .int .i64 k2] T)) (.slice (some ⟨w.heap.size + 1 + 1, 0, none⟩) 3 3) [k0, k1, k2] := by
  have h := ks_thrB (w.alloc o) p k0 k1 k2 T
  rwa [World.size_alloc] at h
theorem ks_thrE (w : World) (o p : Obj) (k0 k1 k2 : Int) (T : TypeId) : KsAt (((w.alloc o).alloc (.cells #[.int .i64 k0, .int .i64 k1, .int .i64 k2] T)).alloc p) (.slice (some ⟨w.heap.size + 1, 0, none⟩) 3 3) [k0, k1, k2] := ks_go (ks_thrB w o k0 k1 k2 T) ((Below.refl _ _).alloc (Nat.le_refl _) p)
theorem ws_alloc {w w1 : World} {b off : Nat} {X : Rx} {j : Nat} {ad : Option Addr} {cp : Nat} (h : WS w w1 b off X j ad cp) (o : Obj) : WS w (w1.alloc o) b off X j ad cp := ws_go h ((Below.refl _ _).alloc (Nat.le_refl _) o)
set_option maxRecDepth 100000 in
set_option maxHeartbeats 8000000 in
theorem n_empty (X : Rx) (len : Nat) (hX : X.len = len) (hlen : len ≤ 120) (b off cap n : Nat) (w : World) (hn : n < len) (hb : b < w.heap.size) (hr : RxRow w b off X w.heap.size) (hp : PwT w) (h1 : X.K n = 1) :
    Calls Tryz.prog 14 #[.slice (some ⟨b, off, none⟩) len cap, .int .i64 n] w fun e w' => e = .returned (.string (ntX X n)) ∧ Below w.heap.size w w' := by
  have HR := hide hr
  have hXn : n < X.len := by rw [hX]; exact hn
  obtain ⟨ad, cp, hc, hrg⟩ := hr n hXn
  obtain ⟨c0, c1, c2, c3, c4, c5, c6⟩ := hc
  have hi : (n : Int) < (len : Int) := by omega
  have st : ∀ o, Below w.heap.size w (w.alloc o) := fun o => (Below.refl _ _).alloc (Nat.le_refl _) _
  have HW0 : ∀ T, Hid (WS w (w.alloc (.cells #[.int .i64 (X.K n), .bool (X.NT n), .slice ad (X.NR n) cp, .int .i64 (X.A n), .int .i64 (X.B n), .int .i64 (X.MN n), .int .i64 (X.MX n)] T)) b off X n ad cp) := fun T => ⟨nodeAt_new _ _ _ _ _ _ _ _ _ _ _, rxRow_go HR.out hb (st _), hb, st _⟩
  have HV := hide (nt_empty h1)
  rw [h1] at c0
  clear hr h1 HW0 hrg hp
  go_enter Tryz.func14, Tryz.ntmps14
  go_wp2
  go_ret
  exact ⟨ret_s9 HV.out.symm, st _⟩
set_option maxRecDepth 100000 in
set_option maxHeartbeats 8000000 in
theorem n_class (X : Rx) (len : Nat) (hX : X.len = len) (hlen : len ≤ 120) (b off cap n : Nat) (w : World) (hn : n < len) (hb : b < w.heap.size) (hr : RxRow w b off X w.heap.size) (hp : PwT w) (h2 : X.K n = 2) (hok : RgOk (X.NR n) (X.L n) (X.H n)) :
    Calls Tryz.prog 14 #[.slice (some ⟨b, off, none⟩) len cap, .int .i64 n] w fun e w' => e = .returned (.string (ntX X n)) ∧ Below w.heap.size w w' := by
  have HR := hide hr
  have hXn : n < X.len := by rw [hX]; exact hn
  obtain ⟨ad, cp, hc, hrg⟩ := hr n hXn
  obtain ⟨c0, c1, c2, c3, c4, c5, c6⟩ := hc
  have hi : (n : Int) < (len : Int) := by omega
  have st : ∀ o, Below w.heap.size w (w.alloc o) := fun o => (Below.refl _ _).alloc (Nat.le_refl _) _
  have HW0 : ∀ T, Hid (WS w (w.alloc (.cells #[.int .i64 (X.K n), .bool (X.NT n), .slice ad (X.NR n) cp, .int .i64 (X.A n), .int .i64 (X.B n), .int .i64 (X.MN n), .int .i64 (X.MX n)] T)) b off X n ad cp) := fun T => ⟨nodeAt_new _ _ _ _ _ _ _ _ _ _ _, rxRow_go HR.out hb (st _), hb, st _⟩
  have HV := hide (nt_class h2)
  have CC := hide (fun T => i_cls (X.NT n) ad (X.NR n) cp (X.A n) (X.B n) (X.MN n) (X.MX n) (X.L n) (X.H n) (w.alloc (.cells #[.int .i64 2, .bool (X.NT n), .slice ad (X.NR n) cp, .int .i64 (X.A n), .int .i64 (X.B n), .int .i64 (X.MN n), .int .i64 (X.MX n)] T)) hok (rngAt_up (rngAt_go hrg (st _)) (st _).size))
  rw [h2] at c0
  simp only [h2] at HW0
  clear hr h2 hrg hok hp
  go_enter Tryz.func14, Tryz.ntmps14
  go_wp2_with (go_at_call 26; refine (CC.out _).mono ?_; rintro e w2 ⟨rfl, hb2⟩; have HW2 := hide (ws_go (HW0 _).out hb2); clear hb2)
  go_ret
  exact ⟨ret_s9 HV.out.symm, ws_below HW2.out⟩
set_option maxRecDepth 100000 in
set_option maxHeartbeats 8000000 in
theorem n_seq (X : Rx) (len : Nat) (hX : X.len = len) (hlen : len ≤ 120) (b off cap n : Nat) (w : World) (hn : n < len) (hb : b < w.heap.size) (hr : RxRow w b off X w.heap.size) (hp : PwT w) (h3 : X.K n = 3) (x y : ByteArray) (hv : ntX X n = x ++ y) (zx : x.size ≤ 18002) (zy : y.size ≤ 18002)
    (CA0 : WrapC X len b off cap [4] (X.A n) x) (CB0 : WrapC X len b off cap [3, 4] (X.B n) y) :
    Calls Tryz.prog 14 #[.slice (some ⟨b, off, none⟩) len cap, .int .i64 n] w fun e w' => e = .returned (.string (ntX X n)) ∧ Below w.heap.size w w' := by
  have HR := hide hr
  have hXn : n < X.len := by rw [hX]; exact hn
  obtain ⟨ad, cp, hc, hrg⟩ := hr n hXn
  obtain ⟨c0, c1, c2, c3, c4, c5, c6⟩ := hc
  have hi : (n : Int) < (len : Int) := by omega
  have st : ∀ o, Below w.heap.size w (w.alloc o) := fun o => (Below.refl _ _).alloc (Nat.le_refl _) _
  have HW0 : ∀ T, Hid (WS w (w.alloc (.cells #[.int .i64 (X.K n), .bool (X.NT n), .slice ad (X.NR n) cp, .int .i64 (X.A n), .int .i64 (X.B n), .int .i64 (X.MN n), .int .i64 (X.MX n)] T)) b off X n ad cp) := fun T => ⟨nodeAt_new _ _ _ _ _ _ _ _ _ _ _, rxRow_go HR.out hb (st _), hb, st _⟩
  have HK := hide h3
  have HPW := hide hp
  have HV := hide hv
  have CA := hide CA0
  have CB := hide CB0
  have a1 : ¬ 9223372036854775807 < x.size + y.size := by omega
  have HKP : Hid (∀ w', WS w w' b off X n ad cp → WS w w' b off X n ad cp ∧ w'.cell? ⟨w.heap.size, 0, none⟩ = some (.int .i64 3) ∧ w'.cell? ⟨w.heap.size, 1, none⟩ = some (.bool (X.NT n)) ∧ w'.cell? ⟨w.heap.size, 2, none⟩ = some (.slice ad (X.NR n) cp) ∧ w'.cell? ⟨w.heap.size, 3, none⟩ = some (.int .i64 (X.A n)) ∧ w'.cell? ⟨w.heap.size, 4, none⟩ = some (.int .i64 (X.B n)) ∧ w'.cell? ⟨w.heap.size, 5, none⟩ = some (.int .i64 (X.MN n)) ∧ w'.cell? ⟨w.heap.size, 6, none⟩ = some (.int .i64 (X.MX n))) := hide (fun w' h => by have h9 := ws_all7 h; rw [HK.out] at h9; exact h9)
  rw [h3] at c0
  simp only [h3] at HW0
  clear hr hrg hp h3 hv CA0 CB0
  go_enter Tryz.func14, Tryz.ntmps14
  go_wp2
  go_region_held3 (fun w' => WS w w' b off X n ad cp ∧ w'.cell? ⟨w.heap.size, 0, none⟩ = some (.int .i64 3) ∧ w'.cell? ⟨w.heap.size, 1, none⟩ = some (.bool (X.NT n)) ∧ w'.cell? ⟨w.heap.size, 2, none⟩ = some (.slice ad (X.NR n) cp) ∧ w'.cell? ⟨w.heap.size, 3, none⟩ = some (.int .i64 (X.A n)) ∧ w'.cell? ⟨w.heap.size, 4, none⟩ = some (.int .i64 (X.B n)) ∧ w'.cell? ⟨w.heap.size, 5, none⟩ = some (.int .i64 (X.MN n)) ∧ w'.cell? ⟨w.heap.size, 6, none⟩ = some (.int .i64 (X.MX n))) (first | assumption | exact HKP.out _ (ws_drew (HW0 _).out) | exact HKP.out _ (HW0 _).out | exact HKP.out _ (ws_alloc (And.left (by assumption)) _) | exact HKP.out _ (ws_alloc (ws_drew (HW0 _).out) _) | exact HKP.out _ (ws_alloc (ws_alloc (ws_drew (HW0 _).out) _) _) | exact HKP.out _ HTA.out | exact HKP.out _ (ws_alloc HTA.out _) | exact HKP.out _ HTB.out | exact HKP.out _ (ws_alloc HTB.out _)) (first | (go_at_call_of 27 (X.A n); refine (CA.out _ _ (by first | exact ks_drew (ks_one _ 4 _) | exact ks_one _ 4 _ | exact ks_drew (ks_oneB _ _ 4 _) | exact ks_oneB _ _ 4 _ | exact ks_drew (ks_oneD _ _ _ 4 _) | exact ks_oneD _ _ _ 4 _ | exact ks_drew (ks_oneE _ _ _ 4 _) | exact ks_oneE _ _ _ 4 _ | exact ks_drew (ks_oneC _ _ 4 _) | exact ks_oneC _ _ 4 _ | exact ks_go (ks_drew (ks_one _ 4 _)) HFA.out | exact ks_go (ks_one _ 4 _) HFA.out | exact ks_drew (ks_go (ks_drew (ks_one _ 4 _)) HFA.out) | exact ks_go (ks_drew (ks_one _ 4 _)) HFB.out | exact ks_go (ks_one _ 4 _) HFB.out | exact ks_drew (ks_go (ks_drew (ks_one _ 4 _)) HFB.out) | exact ks_go (ks_drew (ks_oneB _ _ 4 _)) HFA.out | exact ks_go (ks_oneB _ _ 4 _) HFA.out | exact ks_drew (ks_go (ks_drew (ks_oneB _ _ 4 _)) HFA.out) | exact ks_go (ks_drew (ks_oneB _ _ 4 _)) HFB.out | exact ks_go (ks_oneB _ _ 4 _) HFB.out | exact ks_drew (ks_go (ks_drew (ks_oneB _ _ 4 _)) HFB.out) | exact ks_go (ks_drew (ks_oneD _ _ _ 4 _)) HFA.out | exact ks_go (ks_oneD _ _ _ 4 _) HFA.out | exact ks_drew (ks_go (ks_drew (ks_oneD _ _ _ 4 _)) HFA.out) | exact ks_go (ks_drew (ks_oneD _ _ _ 4 _)) HFB.out | exact ks_go (ks_oneD _ _ _ 4 _) HFB.out | exact ks_drew (ks_go (ks_drew (ks_oneD _ _ _ 4 _)) HFB.out) | exact ks_go (ks_drew (ks_oneE _ _ _ 4 _)) HFA.out | exact ks_go (ks_oneE _ _ _ 4 _) HFA.out | exact ks_drew (ks_go (ks_drew (ks_oneE _ _ _ 4 _)) HFA.out) | exact ks_go (ks_drew (ks_oneE _ _ _ 4 _)) HFB.out | exact ks_go (ks_oneE _ _ _ 4 _) HFB.out | exact ks_drew (ks_go (ks_drew (ks_oneE _ _ _ 4 _)) HFB.out) | exact ks_go (ks_drew (ks_oneC _ _ 4 _)) HFA.out | exact ks_go (ks_oneC _ _ 4 _) HFA.out | exact ks_drew (ks_go (ks_drew (ks_oneC _ _ 4 _)) HFA.out) | exact ks_go (ks_drew (ks_oneC _ _ 4 _)) HFB.out | exact ks_go (ks_oneC _ _ 4 _) HFB.out | exact ks_drew (ks_go (ks_drew (ks_oneC _ _ 4 _)) HFB.out)) (ws_lt (And.left (by assumption))) (ws_row (And.left (by assumption))) (pw_go HPW.out (ws_below (And.left (by assumption))))).mono ?_; rintro e w2 ⟨rfl, hb2⟩; have HTA := hide (ws_go (And.left (by assumption)) hb2); have HFA := hide hb2; clear hb2) | (go_at_call_of 27 (X.B n); refine (CB.out _ _ (by first | exact ks_drew (ks_two _ 3 4 _) | exact ks_two _ 3 4 _ | exact ks_drew (ks_twoB _ _ 3 4 _) | exact ks_twoB _ _ 3 4 _ | exact ks_drew (ks_twoD _ _ _ 3 4 _) | exact ks_twoD _ _ _ 3 4 _ | exact ks_drew (ks_twoE _ _ _ 3 4 _) | exact ks_twoE _ _ _ 3 4 _ | exact ks_drew (ks_twoC _ _ 3 4 _) | exact ks_twoC _ _ 3 4 _ | exact ks_go (ks_drew (ks_two _ 3 4 _)) HFA.out | exact ks_go (ks_two _ 3 4 _) HFA.out | exact ks_drew (ks_go (ks_drew (ks_two _ 3 4 _)) HFA.out) | exact ks_go (ks_drew (ks_two _ 3 4 _)) HFB.out | exact ks_go (ks_two _ 3 4 _) HFB.out | exact ks_drew (ks_go (ks_drew (ks_two _ 3 4 _)) HFB.out) | exact ks_go (ks_drew (ks_twoB _ _ 3 4 _)) HFA.out | exact ks_go (ks_twoB _ _ 3 4 _) HFA.out | exact ks_drew (ks_go (ks_drew (ks_twoB _ _ 3 4 _)) HFA.out) | exact ks_go (ks_drew (ks_twoB _ _ 3 4 _)) HFB.out | exact ks_go (ks_twoB _ _ 3 4 _) HFB.out | exact ks_drew (ks_go (ks_drew (ks_twoB _ _ 3 4 _)) HFB.out) | exact ks_go (ks_drew (ks_twoD _ _ _ 3 4 _)) HFA.out | exact ks_go (ks_twoD _ _ _ 3 4 _) HFA.out | exact ks_drew (ks_go (ks_drew (ks_twoD _ _ _ 3 4 _)) HFA.out) | exact ks_go (ks_drew (ks_twoD _ _ _ 3 4 _)) HFB.out | exact ks_go (ks_twoD _ _ _ 3 4 _) HFB.out | exact ks_drew (ks_go (ks_drew (ks_twoD _ _ _ 3 4 _)) HFB.out) | exact ks_go (ks_drew (ks_twoE _ _ _ 3 4 _)) HFA.out | exact ks_go (ks_twoE _ _ _ 3 4 _) HFA.out | exact ks_drew (ks_go (ks_drew (ks_twoE _ _ _ 3 4 _)) HFA.out) | exact ks_go (ks_drew (ks_twoE _ _ _ 3 4 _)) HFB.out | exact ks_go (ks_twoE _ _ _ 3 4 _) HFB.out | exact ks_drew (ks_go (ks_drew (ks_twoE _ _ _ 3 4 _)) HFB.out) | exact ks_go (ks_drew (ks_twoC _ _ 3 4 _)) HFA.out | exact ks_go (ks_twoC _ _ 3 4 _) HFA.out | exact ks_drew (ks_go (ks_drew (ks_twoC _ _ 3 4 _)) HFA.out) | exact ks_go (ks_drew (ks_twoC _ _ 3 4 _)) HFB.out | exact ks_go (ks_twoC _ _ 3 4 _) HFB.out | exact ks_drew (ks_go (ks_drew (ks_twoC _ _ 3 4 _)) HFB.out)) (ws_lt (And.left (by assumption))) (ws_row (And.left (by assumption))) (pw_go HPW.out (ws_below (And.left (by assumption))))).mono ?_; rintro e w2 ⟨rfl, hb2⟩; have HTB := hide (ws_go (And.left (by assumption)) hb2); have HFB := hide hb2; clear hb2))
  all_goals
    go_wp2
    all_goals
      go_ret
      exact ⟨ret_s9 HV.out.symm, ws_below (And.left (by assumption))⟩
set_option maxRecDepth 100000 in
set_option maxHeartbeats 8000000 in
theorem n_or (X : Rx) (len : Nat) (hX : X.len = len) (hlen : len ≤ 120) (b off cap n : Nat) (w : World) (hn : n < len) (hb : b < w.heap.size) (hr : RxRow w b off X w.heap.size) (hp : PwT w) (h4 : X.K n = 4) (x y : ByteArray) (hv : ntX X n = x ++ ⟨#[124]⟩ ++ y) (zx : x.size ≤ 18002) (zy : y.size ≤ 18002)
    (CA0 : WrapC X len b off cap [] (X.A n) x) (CB0 : WrapC X len b off cap [4] (X.B n) y) :
    Calls Tryz.prog 14 #[.slice (some ⟨b, off, none⟩) len cap, .int .i64 n] w fun e w' => e = .returned (.string (ntX X n)) ∧ Below w.heap.size w w' := by
  have HR := hide hr
  have hXn : n < X.len := by rw [hX]; exact hn
  obtain ⟨ad, cp, hc, hrg⟩ := hr n hXn
  obtain ⟨c0, c1, c2, c3, c4, c5, c6⟩ := hc
  have hi : (n : Int) < (len : Int) := by omega
  have st : ∀ o, Below w.heap.size w (w.alloc o) := fun o => (Below.refl _ _).alloc (Nat.le_refl _) _
  have HW0 : ∀ T, Hid (WS w (w.alloc (.cells #[.int .i64 (X.K n), .bool (X.NT n), .slice ad (X.NR n) cp, .int .i64 (X.A n), .int .i64 (X.B n), .int .i64 (X.MN n), .int .i64 (X.MX n)] T)) b off X n ad cp) := fun T => ⟨nodeAt_new _ _ _ _ _ _ _ _ _ _ _, rxRow_go HR.out hb (st _), hb, st _⟩
  have HK := hide h4
  have HPW := hide hp
  have HV := hide hv
  have CA := hide CA0
  have CB := hide CB0
  have a0 : ¬ 9223372036854775807 < x.size + 1 := by omega
  have a1 : ¬ 9223372036854775807 < x.size + 1 + y.size := by omega
  have HKP : Hid (∀ w', WS w w' b off X n ad cp → WS w w' b off X n ad cp ∧ w'.cell? ⟨w.heap.size, 0, none⟩ = some (.int .i64 4) ∧ w'.cell? ⟨w.heap.size, 1, none⟩ = some (.bool (X.NT n)) ∧ w'.cell? ⟨w.heap.size, 2, none⟩ = some (.slice ad (X.NR n) cp) ∧ w'.cell? ⟨w.heap.size, 3, none⟩ = some (.int .i64 (X.A n)) ∧ w'.cell? ⟨w.heap.size, 4, none⟩ = some (.int .i64 (X.B n)) ∧ w'.cell? ⟨w.heap.size, 5, none⟩ = some (.int .i64 (X.MN n)) ∧ w'.cell? ⟨w.heap.size, 6, none⟩ = some (.int .i64 (X.MX n))) := hide (fun w' h => by have h9 := ws_all7 h; rw [HK.out] at h9; exact h9)
  rw [h4] at c0
  simp only [h4] at HW0
  clear hr hrg hp h4 hv CA0 CB0
  go_enter Tryz.func14, Tryz.ntmps14
  go_wp2
  go_region_held3 (fun w' => WS w w' b off X n ad cp ∧ w'.cell? ⟨w.heap.size, 0, none⟩ = some (.int .i64 4) ∧ w'.cell? ⟨w.heap.size, 1, none⟩ = some (.bool (X.NT n)) ∧ w'.cell? ⟨w.heap.size, 2, none⟩ = some (.slice ad (X.NR n) cp) ∧ w'.cell? ⟨w.heap.size, 3, none⟩ = some (.int .i64 (X.A n)) ∧ w'.cell? ⟨w.heap.size, 4, none⟩ = some (.int .i64 (X.B n)) ∧ w'.cell? ⟨w.heap.size, 5, none⟩ = some (.int .i64 (X.MN n)) ∧ w'.cell? ⟨w.heap.size, 6, none⟩ = some (.int .i64 (X.MX n))) (first | assumption | exact HKP.out _ (ws_drew (HW0 _).out) | exact HKP.out _ (HW0 _).out | exact HKP.out _ (ws_alloc (And.left (by assumption)) _) | exact HKP.out _ (ws_alloc (ws_drew (HW0 _).out) _) | exact HKP.out _ (ws_alloc (ws_alloc (ws_drew (HW0 _).out) _) _) | exact HKP.out _ HTA.out | exact HKP.out _ (ws_alloc HTA.out _) | exact HKP.out _ HTB.out | exact HKP.out _ (ws_alloc HTB.out _)) (first | (go_at_call_of 27 (X.A n); refine (CA.out _ _ (ks_none _) (ws_lt (And.left (by assumption))) (ws_row (And.left (by assumption))) (pw_go HPW.out (ws_below (And.left (by assumption))))).mono ?_; rintro e w2 ⟨rfl, hb2⟩; have HTA := hide (ws_go (And.left (by assumption)) hb2); have HFA := hide hb2; clear hb2) | (go_at_call_of 27 (X.B n); refine (CB.out _ _ (by first | exact ks_drew (ks_one _ 4 _) | exact ks_one _ 4 _ | exact ks_drew (ks_oneB _ _ 4 _) | exact ks_oneB _ _ 4 _ | exact ks_drew (ks_oneD _ _ _ 4 _) | exact ks_oneD _ _ _ 4 _ | exact ks_drew (ks_oneE _ _ _ 4 _) | exact ks_oneE _ _ _ 4 _ | exact ks_drew (ks_oneC _ _ 4 _) | exact ks_oneC _ _ 4 _ | exact ks_go (ks_drew (ks_one _ 4 _)) HFA.out | exact ks_go (ks_one _ 4 _) HFA.out | exact ks_drew (ks_go (ks_drew (ks_one _ 4 _)) HFA.out) | exact ks_go (ks_drew (ks_one _ 4 _)) HFB.out | exact ks_go (ks_one _ 4 _) HFB.out | exact ks_drew (ks_go (ks_drew (ks_one _ 4 _)) HFB.out) | exact ks_go (ks_drew (ks_oneB _ _ 4 _)) HFA.out | exact ks_go (ks_oneB _ _ 4 _) HFA.out | exact ks_drew (ks_go (ks_drew (ks_oneB _ _ 4 _)) HFA.out) | exact ks_go (ks_drew (ks_oneB _ _ 4 _)) HFB.out | exact ks_go (ks_oneB _ _ 4 _) HFB.out | exact ks_drew (ks_go (ks_drew (ks_oneB _ _ 4 _)) HFB.out) | exact ks_go (ks_drew (ks_oneD _ _ _ 4 _)) HFA.out | exact ks_go (ks_oneD _ _ _ 4 _) HFA.out | exact ks_drew (ks_go (ks_drew (ks_oneD _ _ _ 4 _)) HFA.out) | exact ks_go (ks_drew (ks_oneD _ _ _ 4 _)) HFB.out | exact ks_go (ks_oneD _ _ _ 4 _) HFB.out | exact ks_drew (ks_go (ks_drew (ks_oneD _ _ _ 4 _)) HFB.out) | exact ks_go (ks_drew (ks_oneE _ _ _ 4 _)) HFA.out | exact ks_go (ks_oneE _ _ _ 4 _) HFA.out | exact ks_drew (ks_go (ks_drew (ks_oneE _ _ _ 4 _)) HFA.out) | exact ks_go (ks_drew (ks_oneE _ _ _ 4 _)) HFB.out | exact ks_go (ks_oneE _ _ _ 4 _) HFB.out | exact ks_drew (ks_go (ks_drew (ks_oneE _ _ _ 4 _)) HFB.out) | exact ks_go (ks_drew (ks_oneC _ _ 4 _)) HFA.out | exact ks_go (ks_oneC _ _ 4 _) HFA.out | exact ks_drew (ks_go (ks_drew (ks_oneC _ _ 4 _)) HFA.out) | exact ks_go (ks_drew (ks_oneC _ _ 4 _)) HFB.out | exact ks_go (ks_oneC _ _ 4 _) HFB.out | exact ks_drew (ks_go (ks_drew (ks_oneC _ _ 4 _)) HFB.out)) (ws_lt (And.left (by assumption))) (ws_row (And.left (by assumption))) (pw_go HPW.out (ws_below (And.left (by assumption))))).mono ?_; rintro e w2 ⟨rfl, hb2⟩; have HTB := hide (ws_go (And.left (by assumption)) hb2); have HFB := hide hb2; clear hb2))
  all_goals
    go_wp2
    all_goals
      go_ret
      exact ⟨ret_s9 HV.out.symm, ws_below (And.left (by assumption))⟩
set_option maxRecDepth 100000 in
set_option maxHeartbeats 8000000 in
theorem n_cnt (X : Rx) (len : Nat) (hX : X.len = len) (hlen : len ≤ 120) (b off cap n : Nat) (w : World) (hn : n < len) (hb : b < w.heap.size) (hr : RxRow w b off X w.heap.size) (hp : PwT w) (h5 : X.K n = 5) (hm : 0 ≤ X.MN n ∧ X.MN n ≤ 20 ∧ X.MX n ≤ 20 ∧ -1 ≤ X.MX n) (x : ByteArray) (hv : ntX X n = x ++ cnT (X.MN n) (X.MX n)) (zx : x.size ≤ 18002)
    (CA0 : WrapC X len b off cap [3, 4, 5] (X.A n) x) :
    Calls Tryz.prog 14 #[.slice (some ⟨b, off, none⟩) len cap, .int .i64 n] w fun e w' => e = .returned (.string (ntX X n)) ∧ Below w.heap.size w w' := by
  have HR := hide hr
  have hXn : n < X.len := by rw [hX]; exact hn
  obtain ⟨ad, cp, hc, hrg⟩ := hr n hXn
  obtain ⟨c0, c1, c2, c3, c4, c5, c6⟩ := hc
  have hi : (n : Int) < (len : Int) := by omega
  have st : ∀ o, Below w.heap.size w (w.alloc o) := fun o => (Below.refl _ _).alloc (Nat.le_refl _) _
  have HW0 : ∀ T, Hid (WS w (w.alloc (.cells #[.int .i64 (X.K n), .bool (X.NT n), .slice ad (X.NR n) cp, .int .i64 (X.A n), .int .i64 (X.B n), .int .i64 (X.MN n), .int .i64 (X.MX n)] T)) b off X n ad cp) := fun T => ⟨nodeAt_new _ _ _ _ _ _ _ _ _ _ _, rxRow_go HR.out hb (st _), hb, st _⟩
  have HK := hide h5
  have HPW := hide hp
  have CA := hide CA0
  have y2 := cnT_size hm
  have CB : Hid (∀ w : World, PwT w → Calls Tryz.prog 28 #[.int .i64 (X.MN n), .int .i64 (X.MX n)] w fun e w' => e = .returned (.string (cnT (X.MN n) (X.MX n))) ∧ Below w.heap.size w w') := hide (fun w hp => i_cnt (X.MN n) (X.MX n) w hm hp)
  obtain ⟨y, hy⟩ : ∃ y, cnT (X.MN n) (X.MX n) = y := ⟨_, rfl⟩
  rw [hy] at hv CB y2
  have HV := hide hv
  have a1 : ¬ 9223372036854775807 < x.size + y.size := by omega
  clear hy
  have HKP : Hid (∀ w', WS w w' b off X n ad cp → WS w w' b off X n ad cp ∧ w'.cell? ⟨w.heap.size, 0, none⟩ = some (.int .i64 5) ∧ w'.cell? ⟨w.heap.size, 1, none⟩ = some (.bool (X.NT n)) ∧ w'.cell? ⟨w.heap.size, 2, none⟩ = some (.slice ad (X.NR n) cp) ∧ w'.cell? ⟨w.heap.size, 3, none⟩ = some (.int .i64 (X.A n)) ∧ w'.cell? ⟨w.heap.size, 4, none⟩ = some (.int .i64 (X.B n)) ∧ w'.cell? ⟨w.heap.size, 5, none⟩ = some (.int .i64 (X.MN n)) ∧ w'.cell? ⟨w.heap.size, 6, none⟩ = some (.int .i64 (X.MX n))) := hide (fun w' h => by have h9 := ws_all7 h; rw [HK.out] at h9; exact h9)
  rw [h5] at c0
  simp only [h5] at HW0
  clear hr hrg hp h5 hv CA0 hm
  go_enter Tryz.func14, Tryz.ntmps14
  go_wp2
  go_region_held3 (fun w' => WS w w' b off X n ad cp ∧ w'.cell? ⟨w.heap.size, 0, none⟩ = some (.int .i64 5) ∧ w'.cell? ⟨w.heap.size, 1, none⟩ = some (.bool (X.NT n)) ∧ w'.cell? ⟨w.heap.size, 2, none⟩ = some (.slice ad (X.NR n) cp) ∧ w'.cell? ⟨w.heap.size, 3, none⟩ = some (.int .i64 (X.A n)) ∧ w'.cell? ⟨w.heap.size, 4, none⟩ = some (.int .i64 (X.B n)) ∧ w'.cell? ⟨w.heap.size, 5, none⟩ = some (.int .i64 (X.MN n)) ∧ w'.cell? ⟨w.heap.size, 6, none⟩ = some (.int .i64 (X.MX n))) (first | assumption | exact HKP.out _ (ws_drew (HW0 _).out) | exact HKP.out _ (HW0 _).out | exact HKP.out _ (ws_alloc (And.left (by assumption)) _) | exact HKP.out _ (ws_alloc (ws_drew (HW0 _).out) _) | exact HKP.out _ (ws_alloc (ws_alloc (ws_drew (HW0 _).out) _) _) | exact HKP.out _ HTA.out | exact HKP.out _ (ws_alloc HTA.out _) | exact HKP.out _ HTB.out | exact HKP.out _ (ws_alloc HTB.out _)) (first | (go_at_call_of 27 (X.A n); refine (CA.out _ _ (by first | exact ks_drew (ks_thr _ 3 4 5 _) | exact ks_thr _ 3 4 5 _ | exact ks_drew (ks_thrB _ _ 3 4 5 _) | exact ks_thrB _ _ 3 4 5 _ | exact ks_drew (ks_thrD _ _ _ 3 4 5 _) | exact ks_thrD _ _ _ 3 4 5 _ | exact ks_drew (ks_thrE _ _ _ 3 4 5 _) | exact ks_thrE _ _ _ 3 4 5 _ | exact ks_drew (ks_thrC _ _ 3 4 5 _) | exact ks_thrC _ _ 3 4 5 _ | exact ks_go (ks_drew (ks_thr _ 3 4 5 _)) HFA.out | exact ks_go (ks_thr _ 3 4 5 _) HFA.out | exact ks_drew (ks_go (ks_drew (ks_thr _ 3 4 5 _)) HFA.out) | exact ks_go (ks_drew (ks_thr _ 3 4 5 _)) HFB.out | exact ks_go (ks_thr _ 3 4 5 _) HFB.out | exact ks_drew (ks_go (ks_drew (ks_thr _ 3 4 5 _)) HFB.out) | exact ks_go (ks_drew (ks_thrB _ _ 3 4 5 _)) HFA.out | exact ks_go (ks_thrB _ _ 3 4 5 _) HFA.out | exact ks_drew (ks_go (ks_drew (ks_thrB _ _ 3 4 5 _)) HFA.out) | exact ks_go (ks_drew (ks_thrB _ _ 3 4 5 _)) HFB.out | exact ks_go (ks_thrB _ _ 3 4 5 _) HFB.out | exact ks_drew (ks_go (ks_drew (ks_thrB _ _ 3 4 5 _)) HFB.out) | exact ks_go (ks_drew (ks_thrD _ _ _ 3 4 5 _)) HFA.out | exact ks_go (ks_thrD _ _ _ 3 4 5 _) HFA.out | exact ks_drew (ks_go (ks_drew (ks_thrD _ _ _ 3 4 5 _)) HFA.out) | exact ks_go (ks_drew (ks_thrD _ _ _ 3 4 5 _)) HFB.out | exact ks_go (ks_thrD _ _ _ 3 4 5 _) HFB.out | exact ks_drew (ks_go (ks_drew (ks_thrD _ _ _ 3 4 5 _)) HFB.out) | exact ks_go (ks_drew (ks_thrE _ _ _ 3 4 5 _)) HFA.out | exact ks_go (ks_thrE _ _ _ 3 4 5 _) HFA.out | exact ks_drew (ks_go (ks_drew (ks_thrE _ _ _ 3 4 5 _)) HFA.out) | exact ks_go (ks_drew (ks_thrE _ _ _ 3 4 5 _)) HFB.out | exact ks_go (ks_thrE _ _ _ 3 4 5 _) HFB.out | exact ks_drew (ks_go (ks_drew (ks_thrE _ _ _ 3 4 5 _)) HFB.out) | exact ks_go (ks_drew (ks_thrC _ _ 3 4 5 _)) HFA.out | exact ks_go (ks_thrC _ _ 3 4 5 _) HFA.out | exact ks_drew (ks_go (ks_drew (ks_thrC _ _ 3 4 5 _)) HFA.out) | exact ks_go (ks_drew (ks_thrC _ _ 3 4 5 _)) HFB.out | exact ks_go (ks_thrC _ _ 3 4 5 _) HFB.out | exact ks_drew (ks_go (ks_drew (ks_thrC _ _ 3 4 5 _)) HFB.out)) (ws_lt (And.left (by assumption))) (ws_row (And.left (by assumption))) (pw_go HPW.out (ws_below (And.left (by assumption))))).mono ?_; rintro e w2 ⟨rfl, hb2⟩; have HTA := hide (ws_go (And.left (by assumption)) hb2); have HFA := hide hb2; clear hb2) | (go_at_call 28; refine (CB.out _ (pw_go HPW.out (ws_below (And.left (by assumption))))).mono ?_; rintro e w2 ⟨rfl, hb2⟩; have HTB := hide (ws_go (And.left (by assumption)) hb2); have HFB := hide hb2; clear hb2))
  all_goals
    go_wp2
    all_goals
      go_ret
      exact ⟨ret_s9 HV.out.symm, ws_below (And.left (by assumption))⟩
theorem i_node (X : Rx) (len : Nat) (hX : X.len = len) (hlen : len ≤ 120) (hm : NdOk X len) (b off cap : Nat) : ∀ (m n f : Nat), n < m → n < len → trX X n = some f → NodeC X len b off cap n
  | 0, n, f, hmn, hn, htr => by omega
  | m + 1, n, f, hmn, hn, htr => by
    have IH := i_node X len hX hlen hm b off cap m
    have hz : ∀ k g, k < len → trX X k = some g → (ntX X k).size ≤ 18000 := fun k g hk hg => by
      have := (nt_size X len hm (k + 1) k g (by omega) hk hg).1
      omega
    have hw : ∀ ks k g, k < len → trX X k = some g → (wrT ks (X.K k) (ntX X k)).size ≤ 18002 := fun ks k g hk hg => by
      have := hz k g hk hg
      have := wrT_size ks (X.K k) (ntX X k)
      omega
    intro w hb hr hp
    obtain ⟨h5, h2, hk⟩ := hm n hn
    rcases hk with k1 | k2 | k3 | k4 | k5
    · exact n_empty X len hX hlen b off cap n w hn hb hr hp k1
    · exact n_class X len hX hlen b off cap n w hn hb hr hp k2 (h2 k2)
    · obtain ⟨c, hA, hB, ha, hb9, h1, hc, t1, t2⟩ := tr_parts htr (.inl k3)
      refine n_seq X len hX hlen b off cap n w hn hb hr hp k3 _ _ (nt_seq k3 hA hB ha hb9) (hw _ _ _ (by omega) t2) (hw _ _ _ (by omega) t1) ?_ ?_
      · rw [hA]; exact i_wrap X len hX b off cap _ (by omega) hlen (hz _ _ (by omega) t2) _ (by decide) (IH _ _ (by omega) (by omega) t2)
      · rw [hB]; exact i_wrap X len hX b off cap _ (by omega) hlen (hz _ _ (by omega) t1) _ (by decide) (IH _ _ (by omega) (by omega) t1)
    · obtain ⟨c, hA, hB, ha, hb9, h1, hc, t1, t2⟩ := tr_parts htr (.inr k4)
      refine n_or X len hX hlen b off cap n w hn hb hr hp k4 (wrT [] (X.K (c - 1)) (ntX X (c - 1))) _ (nt_or k4 hA hB ha hb9) (hw _ _ _ (by omega) t2) (hw _ _ _ (by omega) t1) ?_ ?_
      · rw [hA]; exact i_wrap X len hX b off cap _ (by omega) hlen (hz _ _ (by omega) t2) _ (by decide) (IH _ _ (by omega) (by omega) t2)
      · rw [hB]; exact i_wrap X len hX b off cap _ (by omega) hlen (hz _ _ (by omega) t1) _ (by decide) (IH _ _ (by omega) (by omega) t1)
    · obtain ⟨hA, ha, t1⟩ := tr_part1 htr k5
      refine n_cnt X len hX hlen b off cap n w hn hb hr hp k5 (h5 k5) _ (nt_cnt k5 hA ha) (hw _ _ _ (by omega) t1) ?_
      rw [hA]; exact i_wrap X len hX b off cap _ (by omega) hlen (hz _ _ (by omega) t1) _ (by decide) (IH _ _ (by omega) (by omega) t1)
end Go.Proofs.YtibagghpimadfaaGreatDoor
