/-
  Contracts: what a prefix is bound to, by the program's maps.
-/
import Derived.Test.YtogeicckbdfldaaDoorBnSc
import Derived.Test.YtogeicckbdfldaaDoorKdMath
import Derived.Deep.QuietTactic
import Derived.BigQuiet
namespace Go.Proofs.YtogeicckbdfldaaDoor
open Go.RowKit Go.Maps
set_option linter.unusedVariables false
set_option linter.unusedSimpArgs false
theorem atF_spec {N : Nat → ByteArray} {nm : ByteArray} : ∀ (f i : Nat), (∀ k, atF N nm f i = some k → i ≤ k ∧ k < i + f ∧ N k = nm) ∧ (atF N nm f i = none → ∀ k, i ≤ k → k < i + f → N k ≠ nm)
  | 0, i => ⟨fun k h => (by cases h), fun _ k h1 h2 => (by omega)⟩
  | f + 1, i => by
    obtain ⟨h1, h2⟩ := atF_spec (N := N) (nm := nm) f (i + 1)
    unfold atF
    by_cases e : N i = nm
    · rw [if_pos e]
      exact ⟨fun k h => (by cases h; exact ⟨Nat.le_refl _, by omega, e⟩), fun h => (by cases h)⟩
    · rw [if_neg e]
      refine ⟨fun k h => ?_, fun h k hk1 hk2 => ?_⟩
      · have := h1 k h; exact ⟨by omega, by omega, this.2.2⟩
      · by_cases e2 : k = i
        · subst e2; exact e
        · exact h2 h k (by omega) (by omega)
theorem name0 : nameB ⟨#[]⟩ = false := nameB_none _ rfl
theorem mF_hit {N V : Nat → ByteArray} {p : ByteArray} {n i : Nat} (hq : ∀ k, k < n → (spl (N k)).2.2 = true) (hd : ∀ k, k < n → N k = N i → k = i) (hN : N i = bnN p) : ∀ m, m ≤ n → i < m → mF N V m p = some (V i)
  | 0, _, h => by omega
  | m + 1, hm, h => by
    show (if bdK (N m) = some p then some (V m) else mF N V m p) = _
    by_cases e : bdK (N m) = some p
    · rw [if_pos e]
      have h1 := (bd_iff (hq m (by omega)) name0).1 e
      rw [hd m (by omega) (by rw [hN, h1])]
    · rw [if_neg e]
      have hmi : m ≠ i := fun e2 => e (by subst e2; exact (bd_iff (hq m (by omega)) name0).2 hN.symm)
      exact mF_hit hq hd hN m (by omega) (by omega)
theorem mF_miss {N V : Nat → ByteArray} {p : ByteArray} {n : Nat} (hq : ∀ k, k < n → (spl (N k)).2.2 = true) (hN : ∀ k, k < n → N k ≠ bnN p) : ∀ m, m ≤ n → mF N V m p = none
  | 0, _ => rfl
  | m + 1, hm => by
    show (if bdK (N m) = some p then some (V m) else mF N V m p) = _
    rw [if_neg (fun e => hN m (by omega) ((bd_iff (hq m (by omega)) name0).1 e).symm)]
    exact mF_miss hq hN m (by omega)
theorem mF_atF {N V : Nat → ByteArray} {p : ByteArray} {n : Nat} (hq : ∀ k, k < n → (spl (N k)).2.2 = true) (hd : ∀ k i, k < n → i < n → N k = N i → k = i) : mF N V n p = (atF N (bnN p) n 0).map V := by
  obtain ⟨h1, h2⟩ := atF_spec (N := N) (nm := bnN p) n 0
  cases h : atF N (bnN p) n 0 with
  | none => exact mF_miss hq (fun k hk => h2 h k (Nat.zero_le _) (by omega)) n (Nat.le_refl _)
  | some i =>
    have h3 := h1 i h
    exact mF_hit hq (fun k hk e => hd k i hk (by omega) e) h3.2.2 n (Nat.le_refl _) (by omega)
/-- All attributes of the items have right names, each another. -/
def AttrsOk (D : Dc) (n : Nat) : Prop := ∀ j, j < n → (∀ k, k < D.AC j → (spl (D.AN j k)).2.2 = true) ∧ ∀ k i, k < D.AC j → i < D.AC j → D.AN j k = D.AN j i → k = i
theorem zeroB (w : World) : (zeroValue 86).run Tryd.prog w = .ok (.agg #[.string ⟨#[]⟩]) w := by kernel_rfl
theorem bl_ret {a a' : ByteArray} {b b' : Bool} (h1 : a' = a) (h2 : b' = b) : Ending.returned (.tuple #[.string a, .bool b]) = .returned (.tuple #[.string a', .bool b']) := by rw [h1, h2]
theorem bl_nil : (⟨#[]⟩ : ByteArray).toList.isEmpty = true := by rw [ByteArray.toList_eq]; rfl
set_option maxRecDepth 100000 in
set_option maxHeartbeats 4000000 in
theorem i_look (D : Dc) (n b off cap : Nat) (sa : Option Addr) (c : Nat) (ms : List Nat) (w : World) (x : Nat) (p : ByteArray) (hD : D.n = n) (hn : n ≤ 200) (hx : x < n) (hbs : b < w.heap.size) (hr : DcRow w b off D w.heap.size) (hdec : ∀ j, j < n → -1 ≤ D.U j ∧ D.U j < j) (hok : AttrsOk D n) (hp : p.size ≤ 1048576)
    (hml : ms.length = n) (hown : ∃ B, w.ownsRow B MT 1 (.slice sa n c) n (ms.map fun b => Value.map (some b))) (hms : MapsAt w D ms) :
    Calls Tryd.prog 45 #[.agg #[.slice (some ⟨b, off, none⟩) n cap, .slice sa n c], .int .i64 x, .string p] w fun e w' => e = .returned (.tuple #[.string (bnV D x p), .bool (bnK D x p)]) ∧ Below w.heap.size w w' := by
  have HD := hide hD
  have HR := hide hr
  have HDEC := hide hdec
  have HOK := hide hok
  have HMS := hide hms
  have hxn : (x : Int) < (n : Int) := by omega
  have hpm : p.size ≤ maxLen := by unfold maxLen; omega
  obtain ⟨g, hsa, hgs, hcg⟩ : ∃ g, sa = some ⟨g, 0, none⟩ ∧ g < w.heap.size ∧ ∀ j, j < n → w.cell? ⟨g, j, none⟩ = some (.map (some (ms[j]?.getD 0))) := by
    obtain ⟨B, hown⟩ := hown
    rcases hown.2 with ⟨hv, h0⟩ | ⟨g, cap', cur, hv, hB, hg, rest⟩
    · omega
    · simp only [Value.slice.injEq] at hv
      obtain ⟨rfl, _, rfl⟩ := hv
      refine ⟨g, rfl, (hown.lt g rfl).2, fun j hj => ?_⟩
      rw [hown.cellAt j (by omega)]
      simp [List.getElem?_eq_getElem (show j < ms.length by omega)]
  subst hsa
  have HCG := hide hcg
  clear hr hD hdec hok hms hown hcg
  cases fx : (p.toList == [120, 109, 108])
  · have HV : Hid (bnV D x p = (bnR D (bnN p) x).getD ⟨#[]⟩ ∧ bnK D x p = (p.toList.isEmpty || !((bnR D (bnN p) x).getD ⟨#[]⟩).toList.isEmpty)) := hide (by
      unfold bnV bnK
      rw [fx, if_neg (by decide), if_neg (by decide)]
      exact ⟨rfl, rfl⟩)
    obtain ⟨R, hR⟩ : ∃ R, bnR D (bnN p) x = R := ⟨_, rfl⟩
    rw [hR] at HV
    have HRR := hide hR
    clear hR
    go_enter Tryd.func45, Tryd.ntmps45
    go_wp2
    go_loopw [8] (fun av wr => ∃ a : Int, a < (n : Int) ∧ -1 ≤ a ∧ av = .int .i64 a ∧ Hid (bnR D (bnN p) a = R) ∧ Hid (Below (w.heap.size + 1) (w.alloc (.cells #[.slice (some ⟨b, off, none⟩) n cap, .slice (some ⟨g, 0, none⟩) n c] ST)) wr)) (fun av _ => (intOf av + 1).toNat)
    case atStart => exact ⟨x, by omega, by omega, rfl, HRR, hide (Below.refl _ _)⟩
    case round =>
      obtain ⟨a, han, ham, rfl, HA, HB⟩ := hrel
      have HBw := hide (((Below.refl w.heap.size w).alloc (Nat.le_refl _) _).trans (HB.out.mono (Nat.le_succ _)))
      have hbk : wr.heap[w.heap.size]? = some (.cells #[.slice (some ⟨b, off, none⟩) n cap, .slice (some ⟨g, 0, none⟩) n c] ST (0, 0)) := (HB.out.block w.heap.size (by omega)).trans (heap_alloc_new w _)
      have s0 : wr.cell? ⟨w.heap.size, 0, none⟩ = some (.slice (some ⟨b, off, none⟩) n cap) := by rw [Lib.cell_of_heap hbk]; rfl
      have s1 : wr.cell? ⟨w.heap.size, 1, none⟩ = some (.slice (some ⟨g, 0, none⟩) n c) := by rw [Lib.cell_of_heap hbk]; rfl
      have hsz := HB.out.size
      have hsz2 : w.heap.size + 1 ≤ wr.heap.size := by simpa using hsz
      clear hbk hsz
      by_cases h0 : a = -1
      · subst h0
        have HX : Hid (R = none) := hide (by rw [← HA.out]; exact bnR_neg (by omega))
        go_wp2
        go_ret2
        exact ⟨bl_ret (by rw [HV.out.1, HX.out]; rfl) (by rw [HV.out.2, HX.out]; show (_ || !((⟨#[]⟩ : ByteArray).toList.isEmpty)) = _; rw [bl_nil]; simp), HBw.out⟩
      · obtain ⟨k, rfl⟩ : ∃ k : Nat, a = k := ⟨a.toNat, by omega⟩
        have hkn : k < n := by omega
        have fk : ((k : Int) != -1) = true := by rw [bne_iff_ne]; omega
        obtain ⟨ad, cp, hcell, -, -⟩ := HR.out k (by rw [HD.out]; omega)
        obtain ⟨c0, c1, c2, c3⟩ := dcCells_go hcell hbs HBw.out
        have m0 : wr.cell? ⟨g, k, none⟩ = some (.map (some (ms[k]?.getD 0))) := (HBw.out.cell (p := ⟨g, k, none⟩) hgs).trans (HCG.out k hkn)
        have hmk := HMS.out k (by omega)
        have hme : ms[k]?.getD 0 = ms[k]'(by omega) := by simp [List.getElem?_eq_getElem (show k < ms.length by omega)]
        rw [← hme] at hmk
        obtain ⟨bm, hbm⟩ : ∃ bm, ms[k]?.getD 0 = bm := ⟨_, rfl⟩
        rw [hbm] at m0 hmk
        have hmk2 := map_below hmk HBw.out
        obtain ⟨Dm, ho, hsay⟩ := hmk2
        have HO := hide ho
        have HS := hide hsay
        have hF := mF_atF (V := D.AV k) (p := p) (HOK.out k hkn).1 (HOK.out k hkn).2
        have hud := HDEC.out k hkn
        have up : ∀ (q : Addr) (v : Value), q.block < wr.heap.size → wr.cell? q = some v → ∀ o, (wr.alloc o).cell? q = some v := fun q v hq h o => (((Below.refl wr.heap.size wr).alloc (Nat.le_refl _) o).cell hq).trans h
        have s0a := up ⟨w.heap.size, 0, none⟩ _ (by show w.heap.size < wr.heap.size; omega) s0
        have c0a := up ⟨b, off + k * 4, none⟩ _ (by show b < wr.heap.size; omega) c0
        clear hcell hmk hme hbm ho hsay h0 up
        cases hat : atF (D.AN k) (bnN p) (D.AC k) 0 with
        | none =>
          rw [hat] at hF
          have HFf := hide hF
          have HX : Hid (bnR D (bnN p) (D.U k) = R) := hide (by rw [← HA.out]; exact (bnR_up (fun j hj => (HDEC.out j hj).2) hkn hat).symm)
          clear hat hF
          go_wp2_with (first | (at_lookup; refine look_bind _ rfl _ _ 80 86 rfl Tryd.underlying80 (zeroB _) bm (D.AC k) Dm _ rfl HO.out HS.out p rfl hpm ?_; rw [HFf.out]; simp only [Option.map_none, Option.getD_none, Option.isSome_none]))
          go_roundw
          case rel => exact ⟨D.U k, by omega, by omega, rfl, HX, hide (HB.out.alloc hsz2 _)⟩
          case measure => simp [intOf]; omega
        | some i =>
          rw [hat] at hF
          have HFf := hide hF
          have HX : Hid (R = some (D.AV k i)) := hide (by rw [← HA.out]; exact bnR_hit hat)
          obtain ⟨V, hV⟩ : ∃ V, D.AV k i = V := ⟨_, rfl⟩
          simp only [Option.map_some, hV] at HFf
          rw [hV] at HX
          clear hat hF hV
          cases hve : V.toList.isEmpty <;> cases hpe : p.toList.isEmpty
          all_goals
            go_wp2_with (first | (at_lookup; refine look_bind _ rfl _ _ 80 86 rfl Tryd.underlying80 (zeroB _) bm (D.AC k) Dm _ rfl HO.out HS.out p rfl hpm ?_; rw [HFf.out]; simp only [Option.getD_some, Option.isSome_some]))
            go_quiet (fail)
            go_wp2
            go_ret2
            exact ⟨bl_ret (by rw [HV.out.1, HX.out]; rfl) (by rw [HV.out.2, HX.out]; simp [hve, hpe]), below_dr (HBw.out.alloc HBw.out.size _) _⟩
  · have HV : Hid (bnV D x p = xmlV ∧ bnK D x p = true) := hide (by unfold bnV bnK; rw [fx]; exact ⟨rfl, rfl⟩)
    go_enter Tryd.func45, Tryd.ntmps45
    go_wp2
    go_ret2
    exact ⟨bl_ret HV.out.1 HV.out.2, (Below.refl _ _).alloc (Nat.le_refl _) _⟩
end Go.Proofs.YtogeicckbdfldaaDoor
