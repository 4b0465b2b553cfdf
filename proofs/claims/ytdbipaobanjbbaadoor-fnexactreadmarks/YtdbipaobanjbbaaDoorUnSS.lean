/-
  Contracts: the specification's Unescape.
-/
import Derived.Test.YtdbipaobanjbbaaDoorUnS
namespace Go.Proofs.YtdbipaobanjbbaaDoor
open Go.RowKit
set_option linter.unusedVariables false
set_option linter.unusedSimpArgs false
def unOk (s : ByteArray) : Bool := plainB s && (unesc s.data.toList).isSome
def unV (s : ByteArray) : ByteArray := if plainB s = true then strO (unesc s.data.toList) else ⟨#[]⟩
theorem unV_no {s : ByteArray} (h : plainB s = false) : unV s = ⟨#[]⟩ ∧ unOk s = false := by unfold unV unOk; rw [h]; exact ⟨rfl, rfl⟩
theorem unV_yes {s : ByteArray} (h : plainB s = true) : unV s = strO (unesc s.data.toList) ∧ unOk s = (unesc s.data.toList).isSome := by unfold unV unOk; rw [h]; exact ⟨rfl, rfl⟩
theorem un_fail {s : ByteArray} (h : plainB s = true) (hn : unesc s.data.toList = none) : unV s = ⟨#[]⟩ ∧ unOk s = false := by
  rw [(unV_yes h).1, (unV_yes h).2, hn]; exact ⟨rfl, rfl⟩
theorem un_done {s : ByteArray} {l : List UInt8} (h : plainB s = true) (hn : unesc s.data.toList = some l) : unV s = ⟨l.toArray⟩ ∧ unOk s = true := by
  rw [(unV_yes h).1, (unV_yes h).2, hn]; exact ⟨rfl, rfl⟩
theorem app_list (a b : ByteArray) : (a ++ b).data.toList = a.data.toList ++ b.data.toList := by simp
theorem size_list (a : ByteArray) : a.data.toList.length = a.size := Array.length_toList
theorem map_app {o : Option (List UInt8)} {u : List UInt8} (a b : List UInt8) (h : u = a ++ b) : (o.map (b ++ ·)).map (a ++ ·) = o.map (u ++ ·) := by
  subst h
  rw [Option.map_map]
  congr 1
  funext x
  simp
theorem ba_of {a : ByteArray} {l : List UInt8} (h : a.data.toList = l) : a = ⟨l.toArray⟩ := by
  subst h
  cases a
  simp
theorem drop_cut {t a r : List UInt8} (h : t = a ++ 59 :: r) : t.drop (a.length + 1) = r := by
  subst h
  rw [show a ++ 59 :: r = (a ++ [59]) ++ r by simp, List.drop_left' (by simp)]
theorem refT_some {t x : List UInt8} (h : refT t = some x) : (cut1 59 t).2.2 = true ∧ refB (cut1 59 t).1 = some x ∧ refN t = (cut1 59 t).1.length + 1 := by
  have hN : refN t = (cut1 59 t).1.length + 1 := by unfold refN; rw [h]; rfl
  unfold refT at h
  split at h
  · rename_i h1; exact ⟨h1, h, hN⟩
  · cases h
theorem refT_none {t : List UInt8} (h : refT t = none) : unesc (38 :: t) = none := by
  unfold refT at h
  split at h
  · exact unesc_bad h
  · rename_i h1; exact unesc_open (by simpa using h1)
set_option maxHeartbeats 8000000 in
set_option maxRecDepth 100000 in
theorem s_unescape (s : ByteArray) (w : World) (hs : s.size ≤ 1048576) :
    Calls Tryd.prog 10 #[.string s] w fun e w' => e = .returned (.tuple #[.string (unV s), .bool (unOk s)]) ∧ Below w.heap.size w w' := by
  have CP := hide (s_text s w hs)
  cases hp : plainB s
  · have HV := hide (unV_no hp)
    rw [hp] at CP
    go_enter Tryd.func10, Tryd.ntmps10
    go_wp2_with (go_at_call 18; refine CP.out.mono ?_; rintro e w1 ⟨rfl, hb1⟩; have HB := hide hb1; clear hb1)
    go_ret2
    exact ⟨un_ret HV.out.1.symm HV.out.2.symm, HB.out⟩
  · have HP := hide hp
    rw [hp] at CP
    clear hp
    go_enter Tryd.func10, Tryd.ntmps10
    go_wp2_with (go_at_call 18; refine CP.out.mono ?_; rintro e w1 ⟨rfl, hb1⟩; have HB := hide hb1; clear hb1)
    go_loopw [4, 5] (fun ov iv wr => ∃ (k : Nat) (o : ByteArray), k ≤ s.size ∧ iv = .int .i64 k ∧ ov = .string o ∧ o.size ≤ k ∧ Hid (Below w.heap.size w wr) ∧ Hid (unesc s.data.toList = (unesc (s.data.toList.drop k)).map (o.data.toList ++ ·))) (fun _ iv _ => s.size - (intOf iv).toNat)
    case atStart => exact ⟨0, ⟨#[]⟩, Nat.zero_le _, rfl, rfl, Nat.le_refl _, hide HB.out, hide (by simp)⟩
    case round =>
      obtain ⟨k, o, hk, rfl, rfl, ho, HBr, HU⟩ := hrel
      by_cases hlt : k < s.size
      · have hdn := drop_next hlt
        by_cases h60 : (s[k].toNat : Int) = 60
        · have f60 : ((s[k].toNat : Int) == 60) = true := by simp [h60]
          have HV := hide (un_fail HP.out (by rw [HU.out, hdn, (u8i (c := 60)).1 h60, unesc_lt]; rfl))
          clear h60 hdn
          go_wp2
          go_ret2
          exact ⟨un_ret HV.out.1.symm HV.out.2.symm, HBr.out⟩
        · have f60 : ((s[k].toNat : Int) == 60) = false := by simpa using h60
          have n60 : s[k] ≠ 60 := fun e => h60 (by rw [e]; rfl)
          by_cases h38 : (s[k].toNat : Int) = 38
          · have f38 : ((s[k].toNat : Int) != 38) = false := by simp [h38]
            have e38 := (u8i (c := 38)).1 h38
            rw [e38] at hdn
            obtain ⟨X, hX⟩ : ∃ X, s.extract (k + 1) s.size = X := ⟨_, rfl⟩
            have hXl : X.data.toList = s.data.toList.drop (k + 1) := by rw [← hX, ex_tail]
            have hXs : X.size + (k + 1) = s.size := by
              rw [← size_list X, hXl, List.length_drop, size_list]; omega
            have hX1 : X.size ≤ 1048576 := by omega
            have CR := hide (fun (w : World) => s_ref X hX1 w)
            rw [← hXl] at hdn
            cases hr : refT X.data.toList with
            | none =>
              have HV := hide (un_fail HP.out (by rw [HU.out, hdn, refT_none hr]; rfl))
              rw [hr, refN_none hr] at CR
              clear h60 hdn n60 h38 e38 hXl hXs hr
              go_wp2_with (go_at_call 19; refine (CR.out _).mono ?_; rintro e w2 ⟨rfl, hb2⟩; have HB2 := hide (HBr.out.trans (hb2.mono HBr.out.size)); clear hb2)
              go_ret2
              exact ⟨un_ret HV.out.1.symm HV.out.2.symm, HB2.out⟩
            | some x =>
              obtain ⟨g1, g2, g3⟩ := refT_some hr
              have hb := refB_len g2
              have hc := cut1_yes 59 X.data.toList g1
              have hcl := congrArg List.length hc
              rw [List.length_append, List.length_cons, size_list] at hcl
              have hdr : s.data.toList.drop (k + 1 + refN X.data.toList) = (cut1 59 X.data.toList).2.1 := by
                rw [← List.drop_drop, ← hXl, g3]
                exact drop_cut hc
              have hu := HU.out
              rw [hdn, unesc_ref g1 g2, ← hdr] at hu
              obtain ⟨n, hn⟩ : ∃ n, refN X.data.toList = n := ⟨_, rfl⟩
              rw [hn] at hdr hu g3
              rw [hr, hn] at CR
              have hn0 : ((n : Int) == 0) = false := by rw [beq_eq_false_iff_ne]; omega
              have hn1 : k + 1 + n ≤ s.size := by omega
              obtain ⟨Y, hY⟩ : ∃ Y : ByteArray, strO (some x) = Y := ⟨_, rfl⟩
              have hYl : Y.data.toList = x := by rw [← hY]; simp [strO]
              have hYs : Y.size = x.length := by rw [← size_list, hYl]
              have hY1 : Y.size ≤ n + 1 := by omega
              have HN : Hid (unesc s.data.toList = (unesc (s.data.toList.drop (k + 1 + n))).map ((o ++ Y).data.toList ++ ·)) := hide (by
                rw [hu]; exact map_app _ _ (by rw [app_list, hYl]))
              rw [hY] at CR
              clear h60 hdn n60 h38 e38 hXl hXs hr hu hdr hcl hc hb g1 g2 g3 hn hYl hYs hY
              go_wp2_with (go_at_call 19; refine (CR.out _).mono ?_; rintro e w2 ⟨rfl, hb2⟩; have HB2 := hide (HBr.out.trans (hb2.mono HBr.out.size)); clear hb2)
              go_roundw
              case rel => exact ⟨k + 1 + n, o ++ Y, by omega, by go_num, rfl, by rw [ByteArray.size_append]; omega, hide HB2.out, HN⟩
              case measure => simp [intOf]; omega
          · have f38 : ((s[k].toNat : Int) != 38) = true := by simpa using h38
            have n38 : s[k] ≠ 38 := fun e => h38 (by rw [e]; rfl)
            obtain ⟨Y, hY⟩ : ∃ Y : ByteArray, s.extract k (k + 1) = Y := ⟨_, rfl⟩
            have hYl : Y.data.toList = [s[k]] := by
              rw [← hY, ex_list, take_next hlt, List.drop_append, take_len (by omega)]
              simp
            have hY1 : Y.size ≤ 1 := by rw [← size_list, hYl]; simp
            have HN : Hid (unesc s.data.toList = (unesc (s.data.toList.drop (k + 1))).map ((o ++ Y).data.toList ++ ·)) := hide (by
              rw [HU.out, hdn, unesc_chr _ n60 n38]; exact map_app _ [s[k]] (by rw [app_list, hYl]))
            have hsl := fun wx => slice_mid s k hlt wx
            rw [hY] at hsl
            clear h60 hdn n60 h38 n38 hYl hY
            go_wp2
            go_roundw
            case rel => exact ⟨k + 1, o ++ Y, by omega, by go_num, rfl, by rw [ByteArray.size_append]; omega, HBr, HN⟩
            case measure => simp [intOf]; omega
      · have HV := hide (un_done (l := o.data.toList) HP.out (by rw [HU.out, drop_all (by omega), unesc_nil]; simp))
        go_wp2
        go_ret2
        exact ⟨un_ret ((ba_of (a := o) rfl).trans HV.out.1.symm) HV.out.2.symm, HBr.out⟩
end Go.Proofs.YtdbipaobanjbbaaDoor
