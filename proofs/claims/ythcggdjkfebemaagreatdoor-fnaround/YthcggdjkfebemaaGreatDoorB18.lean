/-
  Contracts: the pieces of a document's text, by the program: a text escaped, the ends of elements, an element's beginning.
-/
import Derived.Test.YthcggdjkfebemaaGreatDoorB17
import Derived.Test.YthcggdjkfebemaaGreatDoorB12
namespace Go.Proofs.YthcggdjkfebemaaGreatDoor
open Go.RowKit Go.Joins
set_option linter.unusedVariables false
set_option linter.unusedSimpArgs false
theorem ret_s9 {a b : ByteArray} (h : a = b) : Ending.returned (.string a) = .returned (.string b) := by rw [h]
theorem i_escaped (attr : Bool) (s : ByteArray) (w : World) (h : escOk s = true) (hT : Tabs w) :
    Calls Tryz.prog 19 #[.string s, .bool attr] w fun e w' => e = .returned (.string ⟨(escL attr s.data.toList).toArray⟩) ∧ Below w.heap.size w w' := by
  have hs : s.size ≤ 1048576 := by
    unfold escOk at h
    simp only [Bool.and_eq_true, decide_eq_true_eq] at h
    omega
  have CE := hide (i_escape attr s w hs hT)
  rw [h, escV_yes h] at CE
  obtain ⟨E, hE⟩ : ∃ E : ByteArray, (⟨(escL attr s.data.toList).toArray⟩ : ByteArray) = E := ⟨_, rfl⟩
  rw [hE] at CE ⊢
  clear h hT hE
  go_enter Tryz.func19, Tryz.ntmps19
  go_wp2_with (first | (go_at_call 43; refine CE.out.mono ?_; rintro e w2 ⟨rfl, hb2⟩; have HB := hide hb2; clear hb2))
  go_ret
  exact ⟨rfl, HB.out⟩
theorem tgF_len {D : Dc} {n : Nat} (hs : ∀ j, j < n → (D.NM j).size ≤ 2500) (hd : ∀ j, j < n → -1 ≤ D.U j ∧ D.U j < j) {a x : Int} (h : On D a x) (ha : a < n) : ∀ f, (tgF D f a x).length ≤ f * 2503 := by
  induction h with
  | here =>
    intro f
    cases f with
    | zero => exact Nat.zero_le _
    | succ f => rw [tgF, if_pos rfl]; exact Nat.zero_le _
  | up h0 h ih =>
    rename_i a x
    intro f
    cases f with
    | zero => exact Nat.zero_le _
    | succ f =>
      rw [tgF]
      split
      · exact Nat.zero_le _
      · have h1 := hd a.toNat (by omega)
        have h2 := ih (by omega) f
        have h3 := cl_len D a.toNat
        have h4 := hs a.toNat (by omega)
        rw [List.length_append]
        omega
theorem tg_len {D : Dc} {n : Nat} (hn : n ≤ 200) (hs : ∀ j, j < n → (D.NM j).size ≤ 2500) (hd : ∀ j, j < n → -1 ≤ D.U j ∧ D.U j < j) {a x : Int} (h : On D a x) (ha : a < n) : (tg D a x).length ≤ 500600 := by
  have h1 := tgF_len hs hd h ha (a + 1).toNat
  unfold tg
  have : (a + 1).toNat ≤ 200 := by omega
  have : (a + 1).toNat * 2503 ≤ 200 * 2503 := Nat.mul_le_mul_right _ this
  omega
set_option maxRecDepth 100000 in
set_option maxHeartbeats 4000000 in
theorem i_endTags (D : Dc) (n b0 off cap : Nat) (x y : Int) (w : World) (hD : D.n = n) (hn : n ≤ 200) (hs : ∀ j, j < n → (D.NM j).size ≤ 2500) (hd : ∀ j, j < n → -1 ≤ D.U j ∧ D.U j < j) (hr : DcRow w b0 off D w.heap.size) (hx : -1 ≤ x ∧ x < n) (ho : On D x y) :
    Calls Tryz.prog 18 #[.slice (some ⟨b0, off, none⟩) n cap, .int .i64 x, .int .i64 y] w fun e w' => e = .returned (.string ⟨(tg D x y).toArray⟩) ∧ w' = w := by
  have HD := hide hD
  have HR := hide hr
  have HS := hide hs
  have HDD := hide hd
  have HX := hide hx
  have HO := hide ho
  have htl := tg_len hn hs hd ho hx.2
  obtain ⟨T, hT⟩ : ∃ T, tg D x y = T := ⟨_, rfl⟩
  have HT := hide hT
  rw [hT] at htl ⊢
  clear hr hs hd hx ho hD hT
  go_enter Tryz.func18, Tryz.ntmps18
  go_wp2
  go_loop [1, 7] (fun av sv => ∃ (a : Int) (t : ByteArray), av = .int .i64 a ∧ sv = .string t ∧ -1 ≤ a ∧ a < (n : Int) ∧ Hid (On D a y) ∧ Hid (t.data.toList ++ tg D a y = T)) (fun av _ => (intOf av + 1).toNat)
  case atStart => exact ⟨x, ⟨#[]⟩, rfl, rfl, HX.out.1, HX.out.2, HO, hide (by rw [HT.out]; rfl)⟩
  case round =>
    obtain ⟨a, t, rfl, rfl, ha1, ha2, HOA, HTT⟩ := hrel
    by_cases he : a = y
    · have hq : (a != y) = false := by simpa using he
      have HE : Hid (t.data.toList = T) := hide (by have := HTT.out; rw [he, tg_hit, List.append_nil] at this; exact this)
      clear he
      go_wp2
      go_ret
      exact ⟨ret_s9 (Go.WideShapes.bytes_inj (by rw [HE.out])), rfl⟩
    · have hq : (a != y) = true := by simpa using he
      have h0 : 0 ≤ a ∧ On D (D.U a.toNat) y := by
        cases HOA.out with
        | here => exact absurd rfl he
        | up h0 h => exact ⟨h0, h⟩
      obtain ⟨h0, hou⟩ := h0
      have hup := tg_up HDD.out h0 ha2 he hou
      obtain ⟨m, rfl⟩ : ∃ m : Nat, a = (m : Int) := ⟨a.toNat, by omega⟩
      rw [show ((m : Int)).toNat = m by omega] at hup hou
      have hdm := HDD.out m (by omega)
      have HT2 : Hid (t.data.toList ++ clP D m ++ tg D (D.U m) y = T) := hide (by rw [← HTT.out, hup, List.append_assoc])
      have hsm := HS.out m (by omega)
      have hts : t.size + (3 + (D.NM m).size) ≤ 500600 := by
        have h1 := congrArg List.length HT2.out
        simp only [List.length_append, bl, cl_len] at h1
        omega
      have HCL : Hid (clP D m = [60, 47] ++ (D.NM m).data.toList ++ [62]) := hide rfl
      obtain ⟨ad, cp, hc, -⟩ := HR.out m (by rw [HD.out]; omega)
      obtain ⟨c0, c1, c2, c3⟩ := hc
      have HOU := hide hou
      obtain ⟨NM, hNM⟩ : ∃ NM, D.NM m = NM := ⟨_, rfl⟩
      rw [hNM] at c1 hts HCL hsm
      obtain ⟨U, hU⟩ : ∃ U, D.U m = U := ⟨_, rfl⟩
      rw [hU] at c0 hdm HT2 HOU
      have s1 : ¬ 9223372036854775807 < 2 + NM.size := by omega
      have s2 : ¬ 9223372036854775807 < 2 + NM.size + 1 := by omega
      have s3 : ¬ 9223372036854775807 < t.size + (2 + NM.size + 1) := by omega
      clear he hup hou hNM hU c2 c3
      go_wp2
      go_round
      case rel => exact ⟨U, _, rfl, rfl, by omega, by omega, HOU, hide (by rw [← HT2.out, HCL.out]; simp only [bl_app, List.append_assoc])⟩
      case measure => simp [intOf]; omega
/-- What a round of beginTag keeps. -/
def BT (w W : World) (G : Nat) (x y : ByteArray) (up : Int) (nm tx : ByteArray) (ad : Option Addr) (n cp : Nat) : Prop := Below w.heap.size w W ∧ CellsAt W G #[.string x, .string y] ∧ ItAt W w.heap.size up nm tx ad n cp
theorem bt_go {w W W' : World} {G : Nat} {x y : ByteArray} {up : Int} {nm tx : ByteArray} {ad : Option Addr} {n cp : Nat} (h : BT w W G x y up nm tx ad n cp) (k : Below W.heap.size W W') : BT w W' G x y up nm tx ad n cp :=
  ⟨h.1.trans (k.mono h.1.size), cellsAt_go h.2.1 k (cellsAt_lt h.2.1), itAt_go h.2.2 k⟩
theorem bt_drew {w W : World} {G : Nat} {x y : ByteArray} {up : Int} {nm tx : ByteArray} {ad : Option Addr} {n cp : Nat} (h : BT w W G x y up nm tx ad n cp) : BT w W.drew G x y up nm tx ad n cp := bt_go h ⟨rfl, rfl, rfl, Nat.le_refl _, fun _ _ => rfl⟩
theorem bt_all {w W : World} {G : Nat} {x y : ByteArray} {up : Int} {nm tx : ByteArray} {ad : Option Addr} {n cp : Nat} (h : BT w W G x y up nm tx ad n cp) : BT w W G x y up nm tx ad n cp ∧ W.cell? ⟨G, 0, none⟩ = some (.string x) ∧ W.cell? ⟨G, 1, none⟩ = some (.string y) := ⟨h, cellsAt_cell h.2.1 0, cellsAt_cell h.2.1 1⟩
set_option maxRecDepth 100000 in
set_option maxHeartbeats 4000000 in
theorem i_beginTag (up : Int) (nm tx : ByteArray) (ad : Option Addr) (n cp : Nat) (N V : Nat → ByteArray) (w : World) (hn : n ≤ 10) (hsz : nm.size + atsT n N V ≤ 2500) (hV : ∀ j, j < n → escOk (V j) = true) (hr : AtAt w ad n N V w.heap.size) (hT : Tabs w) :
    Calls Tryz.prog 20 #[.agg #[.int .i64 up, .string nm, .string tx, .slice ad n cp]] w fun e w' => e = .returned (.string ⟨([60] ++ nm.data.toList ++ atsP N V n).toArray⟩) ∧ Below w.heap.size w w' := by
  have HR := hide hr
  have HV := hide hV
  have HTT := hide hT
  clear hr hV hT
  go_enter Tryz.func20, Tryz.ntmps20
  go_wp2
  go_loopw [3, 12] (fun sv jv wr => ∃ (j : Nat) (t : ByteArray), j ≤ n ∧ jv = .int .i64 j ∧ sv = .string t ∧ Hid (t.data.toList = [60] ++ nm.data.toList ++ atsP N V j) ∧ Hid (ItAt wr w.heap.size up nm tx ad n cp) ∧ Below w.heap.size w wr) (fun _ jv _ => n - (intOf jv).toNat)
  case atStart => exact ⟨0, _, Nat.zero_le _, rfl, rfl, hide (by simp [atsP, bl_app]), hide (itAt_new w _ _ _ _ _ _ _), (Below.refl _ _).alloc (Nat.le_refl _) _⟩
  case round =>
    obtain ⟨j, t, hj, rfl, rfl, HT, HI, hb⟩ := hrel
    have hts : t.size ≤ 20000 := by
      have h1 := ats_len N V j
      have h2 := congrArg List.length HT.out
      have h3 := sumN_le (atSz N V) hj
      unfold atsT at hsz
      simp only [List.length_append, List.length_cons, List.length_nil, bl] at h2
      omega
    by_cases hlt : j < n
    · obtain ⟨ab, ao, rfl, hab, hatc⟩ := HR.out (by omega)
      obtain ⟨d1, d2⟩ := hatc j hlt
      have e1 := (hb.cell (p := ⟨ab, ao + j * 2, none⟩) hab).trans d1
      have e2 := (hb.cell (p := ⟨ab, ao + j * 2 + 1, none⟩) hab).trans d2
      have has := at_sz (N := N) (V := V) hlt
      have hel := escL_len true (V j).data.toList
      rw [bl] at hel
      have HN : Hid (atsP N V (j + 1) = atsP N V j ++ ([32] ++ (N j).data.toList ++ [61, 34] ++ escL true (V j).data.toList ++ [34])) := hide rfl
      have CE := hide (fun (w : World) (h : Tabs w) => i_escaped true (V j) w (HV.out j hlt) h)
      obtain ⟨E, hEs⟩ : ∃ E : ByteArray, (⟨(escL true (V j).data.toList).toArray⟩ : ByteArray) = E := ⟨_, rfl⟩
      rw [hEs] at CE
      have HE : Hid (E.data.toList = escL true (V j).data.toList) := hide (by rw [← hEs])
      have hE6 : E.size ≤ 15000 := by rw [← bl, HE.out]; omega
      obtain ⟨NJ, hNJ⟩ : ∃ NJ, N j = NJ := ⟨_, rfl⟩
      obtain ⟨VJ, hVJ⟩ : ∃ VJ, V j = VJ := ⟨_, rfl⟩
      rw [hNJ] at e1 has HN
      rw [hVJ] at e2 has CE HE HN
      have hji : (j : Int) < (n : Int) := by omega
      have s1 : ¬ 9223372036854775807 < 1 + NJ.size := by omega
      have s2 : ¬ 9223372036854775807 < 1 + NJ.size + 2 := by omega
      have s3 : ¬ 9223372036854775807 < 1 + NJ.size + 2 + E.size := by omega
      have s4 : ¬ 9223372036854775807 < 1 + NJ.size + 2 + E.size + 1 := by omega
      have s5 : ¬ 9223372036854775807 < t.size + (1 + NJ.size + 2 + E.size + 1) := by omega
      have XX : Hid (BT w (wr.alloc (.cells #[.string NJ, .string VJ] 58)) wr.heap.size NJ VJ up nm tx (some ⟨ab, ao, none⟩) n cp) := hide ⟨hb.alloc hb.size _, cellsAt_new wr _ _, itAt_go HI.out ((Below.refl _ _).alloc (Nat.le_refl _) _)⟩
      clear hatc d1 d2 hEs hel hNJ hVJ hb
      go_wp2
      go_region_held3 (fun w' => BT w w' wr.heap.size NJ VJ up nm tx (some ⟨ab, ao, none⟩) n cp ∧ w'.cell? ⟨wr.heap.size, 0, none⟩ = some (.string NJ) ∧ w'.cell? ⟨wr.heap.size, 1, none⟩ = some (.string VJ)) (first | assumption | exact bt_all (bt_drew XX.out) | exact bt_all XX.out) (first | (go_at_call 19; refine (CE.out _ (tabs_below HTT.out (And.left (And.left (by assumption))))).mono ?_; rintro e w2 ⟨rfl, hb2⟩; have X2 := hide (bt_go (bt_drew XX.out) hb2); replace XX := X2; clear X2 hb2))
      all_goals
        go_wp2
        go_roundw
        case rel =>
          refine ⟨j + 1, _, by omega, by go_num, rfl, hide ?_, hide XX.out.2.2, XX.out.1⟩
          rw [HN.out]
          simp only [bl_app, HT.out, HE.out]
          simp only [List.append_assoc]
        case measure => simp [intOf]; omega
    · have hjn : j = n := by omega
      subst hjn
      go_wp2
      go_ret
      exact ⟨ret_s9 (Go.WideShapes.bytes_inj (by rw [HT.out]; simp)), hb⟩
end Go.Proofs.YthcggdjkfebemaaGreatDoor
