/-
  Texts put together: FoM, FdI.
-/
import Derived.Test.YtdepgkpfibmbgaaGreatDoorD21
import Derived.Test.YtdepgkpfibmbgaaGreatDoorD15
import Derived.Test.YtdepgkpfibmbgaaGreatDoorD22
import Derived.Test.YtdepgkpfibmbgaaGreatDoorD26
import Derived.Test.YtdepgkpfibmbgaaGreatDoorD20
/-
  What a field says of an element. No step of the program in this text.
-/
namespace Go.Proofs.YtdepgkpfibmbgaaGreatDoor
open Go.RowKit
set_option linter.unusedVariables false
set_option linter.unusedSimpArgs false
/-- The values of the attributes of that name, among the first k. -/
def mtA (D : Dc) (p : Nat) (A : ByteArray) : Nat → List ByteArray
  | 0 => []
  | k + 1 => mtA D p A k ++ (if ((D.AN p k).toList == A.toList) = true then [D.AV p k] else [])
theorem mt_len (D : Dc) (p : Nat) (A : ByteArray) : ∀ k, (mtA D p A k).length ≤ k
  | 0 => Nat.le_refl _
  | k + 1 => by
    have := mt_len D p A k
    rw [mtA, List.length_append]
    split <;> simp <;> omega
theorem mt_yes {D : Dc} {p k : Nat} {A : ByteArray} (h : ((D.AN p k).toList == A.toList) = true) : mtA D p A (k + 1) = mtA D p A k ++ [D.AV p k] := by rw [mtA, if_pos h]
theorem mt_no {D : Dc} {p k : Nat} {A : ByteArray} (h : ((D.AN p k).toList == A.toList) = false) : mtA D p A (k + 1) = mtA D p A k := by rw [mtA, if_neg (by rw [h]; decide)]; simp
/-- What an element says: its text, or an attribute. -/
def vlA (D : Dc) (A : ByteArray) (p : Nat) : List ByteArray := if A.toList.isEmpty = true then [txF D p D.n] else mtA D p A (D.AC p)
def vlL (D : Dc) (A : ByteArray) (L : List Int) : List ByteArray := L.flatMap fun p => vlA D A p.toNat
theorem vl_take {D : Dc} {A : ByteArray} {L : List Int} {j : Nat} (h : j < L.length) : vlL D A (L.take (j + 1)) = vlL D A (L.take j) ++ vlA D A (L[j]?.getD 0).toNat := by
  unfold vlL
  rw [List.take_succ_eq_append_getElem h, List.flatMap_append, List.getElem?_eq_getElem h]
  simp
theorem vl_len {D : Dc} {A : ByteArray} (hac : ∀ p, p < D.n → D.AC p ≤ 10) : ∀ (L : List Int), (∀ j ∈ L, 0 ≤ j ∧ j < (D.n : Int)) → (vlL D A L).length ≤ 10 * L.length
  | [], _ => Nat.le_refl _
  | x :: L, h => by
    have ih := vl_len (A := A) hac L (fun j hj => h j (List.mem_cons_of_mem _ hj))
    have hx := h x (List.mem_cons_self ..)
    have h1 : (vlA D A x.toNat).length ≤ 10 := by
      unfold vlA
      split
      · simp
      · have := mt_len D x.toNat A (D.AC x.toNat)
        have := hac x.toNat (by omega)
        omega
    unfold vlL at ih ⊢
    rw [List.flatMap_cons, List.length_append, List.length_cons]
    omega
/-- The last of them, its blanks brought together. -/
def lstW (l : List ByteArray) : ByteArray := match l.getLast? with | none => ⟨#[]⟩ | some v => whB v 2
theorem lst_app (l : List ByteArray) (v : ByteArray) : lstW (l ++ [v]) = whB v 2 := by unfold lstW; simp
theorem lst_one (v : ByteArray) : lstW [v] = whB v 2 := rfl
/-- The answer. -/
def foA (l : List ByteArray) : ByteArray × Int := if l.length = 1 then (lstW l, 1) else (⟨#[]⟩, l.length)
def foV (D : Dc) (x : Int) (s : ByteArray) : ByteArray × Int := match fld s.data.toList with
  | none => (⟨#[]⟩, -1)
  | some q => if txOk D x = true then foA (vlL D ⟨q.2.toArray⟩ (srtL (sel D (st D x.toNat D.n false) q.1))) else (⟨#[]⟩, -1)
theorem fo_none {D : Dc} {x : Int} {s : ByteArray} (h : fld s.data.toList = none) : foV D x s = (⟨#[]⟩, -1) := by unfold foV; rw [h]
theorem fo_out {D : Dc} {x : Int} {s : ByteArray} (h : txOk D x = false) : foV D x s = (⟨#[]⟩, -1) := by
  unfold foV
  split
  · rfl
  · rw [if_neg (by rw [h]; decide)]
theorem fo_some {D : Dc} {x : Int} {s : ByteArray} {q : List (List UInt8) × List UInt8} (h : fld s.data.toList = some q) (h2 : txOk D x = true) : foV D x s = foA (vlL D ⟨q.2.toArray⟩ (srtL (sel D (st D x.toNat D.n false) q.1))) := by
  unfold foV
  rw [h]
  dsimp only
  rw [if_pos h2]
/-- The attributes of a right document. -/
theorem att_facts {D : Dc} (h : docokB D = true) {p : Nat} (hp : p < D.n) : D.AC p ≤ 10 ∧ (∀ j, j < D.AC p → ∀ i, i < j → ((D.AN p i).toList == (D.AN p j).toList) = false) := by
  have hi := (docok_facts h).2.1 p hp
  unfold itB pB partB at hi
  rw [Bool.and_eq_true] at hi
  have h2 := hi.2
  split at h2
  · simp only [Bool.and_eq_true, beq_iff_eq] at h2
    have : D.AC p = 0 := by omega
    rw [this]
    exact ⟨by omega, fun j hj => by omega⟩
  · simp only [Bool.and_eq_true] at h2
    have h3 := h2.2.2
    unfold attrsB at h3
    rw [Bool.and_eq_true, decide_eq_true_iff, List.all_eq_true] at h3
    refine ⟨h3.1, fun j hj i hij => ?_⟩
    have h4 := h3.2 j (by simpa using hj)
    unfold atB at h4
    simp only [Bool.and_eq_true, Bool.not_eq_true'] at h4
    have h5 := h4.2.2
    unfold anyS at h5
    rw [List.any_eq_false] at h5
    have h6 := h5 i (by simpa using hij)
    unfold sameS at h6
    cases hx : ((D.AN p i).toList == (D.AN p j).toList)
    · rfl
    · exact absurd hx h6
theorem mt_none {D : Dc} {p : Nat} {A : ByteArray} : ∀ k, (∀ j, j < k → ((D.AN p j).toList == A.toList) = false) → mtA D p A k = []
  | 0, _ => rfl
  | k + 1, h => by rw [mt_no (h k (by omega)), mt_none k (fun j hj => h j (by omega))]
theorem mt_stay {D : Dc} {p i : Nat} {A : ByteArray} : ∀ k, i ≤ k → (∀ j, i ≤ j → j < k → ((D.AN p j).toList == A.toList) = false) → mtA D p A k = mtA D p A i
  | 0, h, _ => by rw [show i = 0 by omega]
  | k + 1, h, h2 => by
    by_cases e : i = k + 1
    · rw [e]
    · rw [mt_no (h2 k (by omega) (by omega)), mt_stay k (by omega) (fun j h3 h4 => h2 j h3 (by omega))]
theorem mt_one {D : Dc} {p i : Nat} {A : ByteArray} (h : docokB D = true) (hp : p < D.n) (hi : i < D.AC p) (he : ((D.AN p i).toList == A.toList) = true) (hn : ∀ j, j < i → ((D.AN p j).toList == A.toList) = false) : mtA D p A (D.AC p) = [D.AV p i] := by
  have hu := (att_facts h hp).2
  rw [mt_stay (i := i + 1) (D.AC p) (by omega) (fun j h1 h2 => by
    have h3 := hu j h2 i (by omega)
    cases hx : ((D.AN p j).toList == A.toList)
    · rfl
    · rw [beq_iff_eq] at hx he
      rw [he, ← hx] at h3
      simp at h3), mt_yes he, mt_none i hn]
  rfl
theorem srt_one (x : Int) : srtL [x] = [x] := rfl
theorem sel_nil (D : Dc) (L : List Int) : sel D L [] = L := rfl
theorem st_no (D : Dc) (x n : Nat) : st D x n false = [(x : Int)] := rfl
/-- The places: they are the document's, and few. -/
theorem pl_facts {D : Dc} {x n : Nat} (hD : D.n = n) (hn : n ≤ 200) (hx : x < n) (ns : List (List UInt8)) : (srtL (sel D (st D x n false) ns)).length ≤ 200 ∧ ∀ j ∈ srtL (sel D (st D x n false) ns), 0 ≤ j ∧ j < (D.n : Int) := by
  have hs := st_ok (D := D) (x := x) (n := n) false hD hx
  have hs2 := sel_ok ns _ hs.1 hs.2
  refine ⟨?_, fun j hj => ?_⟩
  · rw [srt_len hs2.1]
    have := nodup_len hs2.1 hs2.2
    omega
  · exact hs2.2 j ((srt_mem _ _).1 hj)
end Go.Proofs.YtdepgkpfibmbgaaGreatDoor

/-
  Contract: what a field tells, by the program.
-/
namespace Go.Proofs.YtdepgkpfibmbgaaGreatDoor
open Go.RowKit
set_option linter.unusedVariables false
set_option linter.unusedSimpArgs false
theorem ct_len (s : ByteArray) : s.data.toList.length = s.size := by simp
theorem dot_cmpI (s : ByteArray) : (s.toList == [46]) = decide (s.data.toList = [46]) := by
  rw [ByteArray.toList_eq]
  cases h : s.data.toList == [46]
  · rw [eq_comm, decide_eq_false_iff_not]; intro e; rw [e] at h; simp at h
  · rw [eq_comm, decide_eq_true_iff]; simpa using h
theorem c_cut (t H A : ByteArray) (fo : Bool) (w : World) (ht : t.size ≤ 1048576) (hM : MaxL w) (hx : ct1 64 t.data.toList = (H.data.toList, A.data.toList, fo)) :
    Calls Tryz.prog 60 #[.string t, .string ⟨#[64]⟩] w fun e w' => e = .returned (.tuple #[.string H, .string A, .bool fo]) ∧ Below w.heap.size w w' := by
  obtain ⟨m, hm⟩ := hM
  have h := Any.strings_Cut { Tryz.laysM145 with } t ⟨#[64]⟩ m w (by omega) hm
  have e : Lib.cut t.data.toList (⟨#[64]⟩ : ByteArray).data.toList = (H.data.toList, A.data.toList, fo) := (ct1_eq 64 t.data.toList).trans hx
  rw [e] at h
  refine h.mono ?_
  rintro e w' ⟨h1, n, rfl⟩
  exact ⟨h1, ⟨rfl, rfl, rfl, Nat.le_refl _, fun _ _ => rfl⟩⟩
/-- What a field down a path is told as. -/
def DownAns (s a : ByteArray) (w : World) (e : Ending) (w' : World) : Prop := Below w.heap.size w w' ∧
  ((pathF s.data.toList = true ∧ ∃ ad c, e = .returned (.tuple #[.agg #[.bool false, .slice ad (sg [] s.data.toList).length c, .string a], .bool true]) ∧ w'.ownsRow w.heap.size 9 1 (.slice ad (sg [] s.data.toList).length c) (sg [] s.data.toList).length (strV (sg [] s.data.toList))) ∨
   (pathF s.data.toList = false ∧ e = .returned (.tuple #[.agg #[.bool false, .slice none 0 0, .string ⟨#[]⟩], .bool false])))
set_option maxRecDepth 100000 in
set_option maxHeartbeats 4000000 in
theorem i_fieldDown (s a : ByteArray) (w : World) (hs : s.size ≤ 1048576) (hM : MaxL w) : Calls Tryz.prog 61 #[.string s, .string a] w (DownAns s a w) := by
  have hM1 : MaxL (w.alloc (.cells #[.bool false, .slice none 0 0, .string ⟨#[]⟩] 69)) := maxL_go hM ((Below.refl _ _).alloc (Nat.le_refl _) _) (Nat.le_refl _)
  have C := hide (i_route s _ hs hM1)
  have HPR := hide (pathF_route s)
  clear hM hM1
  go_enter Tryz.func61, Tryz.ntmps61
  go_wp2_with fail
  refine C.out.mono ?_
  rintro e w2 ⟨hb, h⟩
  have hK := cellsAt_go (cellsAt_new w #[.bool false, .slice none 0 0, .string ⟨#[]⟩] 69) hb (by simp)
  have HB := hide (gBox_below hb)
  have hsz2 : w.heap.size < w2.heap.size := cellsAt_lt hK
  have p0 : w2.cell? ⟨w.heap.size, 0, none⟩ = some (.bool false) := cellsAt_cell hK 0
  have p1 : w2.cell? ⟨w.heap.size, 1, none⟩ = some (.slice none 0 0) := cellsAt_cell hK 1
  have p2 : w2.cell? ⟨w.heap.size, 2, none⟩ = some (.string ⟨#[]⟩) := cellsAt_cell hK 2
  have g0 : ∀ i, w2.frozen? ⟨w.heap.size, i, none⟩ = false := fun i => cellsAt_frozen hK i
  have HF := hide hK
  clear hb hK
  rcases h with ⟨hr, ad, c, rfl, ho⟩ | ⟨hr, rfl⟩
  · rw [hr] at HPR
    obtain ⟨d, hd⟩ : ∃ d, deepL s.data.toList = d := ⟨_, rfl⟩
    rw [hd] at HPR ⊢
    have HDD := hide hd
    have HO := hide ho
    clear ho hd hr
    obtain ⟨m, hm⟩ : ∃ m, cntN (restL s.data.toList) = m := ⟨_, rfl⟩
    have HMM := hide hm
    rw [hm]
    clear hm
    cases d
    · go_wp2
      have hk := fun o : Obj => cellsAt_go (cellsAt_set (i := 2) (cellsAt_set (i := 1) (cellsAt_set (i := 0) HF.out (.bool false)) (.slice ad m c)) (.string a)) ((Below.refl _ _).alloc (Nat.le_refl _) o) (by simp; exact hsz2)
      have r0 := fun o : Obj => cellsAt_cell (hk o) 0
      have r1 := fun o : Obj => cellsAt_cell (hk o) 1
      have r2 := fun o : Obj => cellsAt_cell (hk o) 2
      have hp : pathF s.data.toList = true := HPR.out.symm
      obtain ⟨h1, h2⟩ := pathF_shallow hp
      have hl : (sg [] s.data.toList).length = m := by rw [← HMM.out, h2]; rfl
      refine bodyPost_ret (v := .tuple #[.agg #[.bool false, .slice ad m c, .string a], .bool true]) (by simp [results, Tryz.results61, go_sem, r0, r1, r2]) rfl ⟨((((HB.out.setCell (Nat.le_refl _) _).setCell (Nat.le_refl _) _).setCell (Nat.le_refl _) _).alloc (by simp; omega) _), .inl ⟨hp, ad, c, by rw [hl], ?_⟩⟩
      have ho := HO.out
      rw [HMM.out, h2] at ho
      rw [hl]
      have ho2 := gOwn_lower ho (B' := w.heap.size) (by simp)
      have hne : ∀ i, (Value.slice ad m c).ownBlock ≠ some (⟨w.heap.size, i, none⟩ : Addr).block := by
        intro i
        cases ad with
        | none => simp [Value.ownBlock]
        | some p =>
          rcases ho.2 with ⟨e, -⟩ | ⟨g, cap, cur, e, hg, -⟩
          · cases e
          · simp only [Value.slice.injEq, Option.some.injEq] at e
            obtain ⟨rfl, -⟩ := e
            simp at hg
            simp [Value.ownBlock]
            omega
      exact (gOwn_set (gOwn_set (gOwn_set ho2 _ _ (hne _)) _ _ (hne _)) _ _ (hne _)).alloc _
    · go_wp2
      have hk := fun o : Obj => cellsAt_go (cellsAt_set (i := 2) (cellsAt_set (i := 1) (cellsAt_set (i := 0) HF.out (.bool false)) (.slice none 0 0)) (.string ⟨#[]⟩)) ((Below.refl _ _).alloc (Nat.le_refl _) o) (by simp; exact hsz2)
      have r0 := fun o : Obj => cellsAt_cell (hk o) 0
      have r1 := fun o : Obj => cellsAt_cell (hk o) 1
      have r2 := fun o : Obj => cellsAt_cell (hk o) 2
      refine bodyPost_ret (v := .tuple #[.agg #[.bool false, .slice none 0 0, .string ⟨#[]⟩], .bool false]) (by simp [results, Tryz.results61, go_sem, r0, r1, r2]) rfl ⟨((((HB.out.setCell (Nat.le_refl _) _).setCell (Nat.le_refl _) _).setCell (Nat.le_refl _) _).alloc (by simp; omega) _), .inr ⟨HPR.out.symm, rfl⟩⟩
  · rw [hr] at HPR
    go_wp2
    have hk := fun o : Obj => cellsAt_go (cellsAt_set (i := 2) (cellsAt_set (i := 1) (cellsAt_set (i := 0) HF.out (.bool false)) (.slice none 0 0)) (.string ⟨#[]⟩)) ((Below.refl _ _).alloc (Nat.le_refl _) o) (by simp; exact hsz2)
    have r0 := fun o : Obj => cellsAt_cell (hk o) 0
    have r1 := fun o : Obj => cellsAt_cell (hk o) 1
    have r2 := fun o : Obj => cellsAt_cell (hk o) 2
    refine bodyPost_ret (v := .tuple #[.agg #[.bool false, .slice none 0 0, .string ⟨#[]⟩], .bool false]) (by simp [results, Tryz.results61, go_sem, r0, r1, r2]) rfl ⟨((((HB.out.setCell (Nat.le_refl _) _).setCell (Nat.le_refl _) _).setCell (Nat.le_refl _) _).alloc (by simp; omega) _), .inr ⟨HPR.out.symm, rfl⟩⟩
/-- What a field is told as by the program. -/
def FdAns (s : ByteArray) (w : World) (e : Ending) (w' : World) : Prop := Below w.heap.size w w' ∧
  ((∃ x ad c, fld s.data.toList = some x ∧ e = .returned (.tuple #[.agg #[.bool false, .slice ad x.1.length c, .string ⟨x.2.toArray⟩], .bool true]) ∧ w'.ownsRow w.heap.size 9 1 (.slice ad x.1.length c) x.1.length (strV x.1)) ∨
   (fld s.data.toList = none ∧ e = .returned (.tuple #[.agg #[.bool false, .slice none 0 0, .string ⟨#[]⟩], .bool false])))
theorem fd_own0 (w : World) (B : Nat) : w.ownsRow B 9 1 (.slice none ([] : List (List UInt8)).length 0) ([] : List (List UInt8)).length (strV []) := ⟨rfl, .inl ⟨rfl, rfl⟩⟩
set_option maxRecDepth 100000 in
set_option maxHeartbeats 4000000 in
theorem i_field (s : ByteArray) (w : World) (hs : s.size ≤ 1048576) (hM : MaxL w) : Calls Tryz.prog 31 #[.string s] w (FdAns s w) := by
  have hM1 : MaxL (w.alloc (.cells #[.bool false, .slice none 0 0, .string ⟨#[]⟩] 69)) := maxL_go hM ((Below.refl _ _).alloc (Nat.le_refl _) _) (Nat.le_refl _)
  have hdc := dot_cmpI s
  by_cases hd : s.data.toList = [46]
  · rw [decide_eq_true hd] at hdc
    have HD := hide hd
    clear hd hM hM1
    go_enter Tryz.func31, Tryz.ntmps31
    go_wp2
    refine bodyPost_ret (v := .tuple #[.agg #[.bool false, .slice none 0 0, .string ⟨#[]⟩], .bool true]) (by simp [results, Tryz.results31, go_sem]) rfl ⟨(Below.refl _ _).alloc (Nat.le_refl _) _, .inl ⟨([], []), none, 0, ?_, rfl, fd_own0 _ _⟩⟩
    rw [HD.out]; exact fld_dot
  · rw [decide_eq_false hd] at hdc
    have HD := hide hd
    clear hd
    obtain ⟨hh, at2, fo, hx⟩ : ∃ (hh at2 : ByteArray) (fo : Bool), ct1 64 s.data.toList = (hh.data.toList, at2.data.toList, fo) := ⟨⟨(ct1 64 s.data.toList).1.toArray⟩, ⟨(ct1 64 s.data.toList).2.1.toArray⟩, (ct1 64 s.data.toList).2.2, rfl⟩
    have HX := hide hx
    have hz := ct1_sz 64 s.data.toList
    rw [hx] at hz
    obtain ⟨hz1, hz2⟩ := hz
    simp only at hz1 hz2
    simp only [ct_len] at hz1 hz2
    have C1 := hide (c_cut s hh at2 fo _ hs hM1 hx)
    have HM1 := hide hM1
    clear hM hM1 hx
    go_enter Tryz.func31, Tryz.ntmps31
    go_wp2_with fail
    refine C1.out.mono ?_
    rintro e w2 ⟨rfl, hb2⟩
    have HM2 := hide (maxL_go HM1.out hb2 (Nat.le_refl _))
    have hK := cellsAt_go (cellsAt_new w #[.bool false, .slice none 0 0, .string ⟨#[]⟩] 69) hb2 (by simp)
    have HB2 := hide (gBox_below hb2)
    have hsz2 : w.heap.size < w2.heap.size := cellsAt_lt hK
    have p0 : w2.cell? ⟨w.heap.size, 0, none⟩ = some (.bool false) := cellsAt_cell hK 0
    have p1 : w2.cell? ⟨w.heap.size, 1, none⟩ = some (.slice none 0 0) := cellsAt_cell hK 1
    have p2 : w2.cell? ⟨w.heap.size, 2, none⟩ = some (.string ⟨#[]⟩) := cellsAt_cell hK 2
    have g0 : ∀ i, w2.frozen? ⟨w.heap.size, i, none⟩ = false := fun i => cellsAt_frozen hK i
    have HK := hide hK
    clear hb2 hK HM1
    have down : ∀ (p a : ByteArray) (e : Ending) (w3 : World) (hd : DownAns p a w2 e w3) (hf : fld s.data.toList = if pathF p.data.toList = true then some (sg [] p.data.toList, a.data.toList) else none),
        ∃ b0 ad m c st ok, e = .returned (.tuple #[.agg #[.bool b0, .slice ad m c, .string st], .bool ok]) ∧ CellsAt w3 w.heap.size #[.bool false, .slice none 0 0, .string ⟨#[]⟩] ∧
          FdAns s w (.returned (.tuple #[.agg #[.bool b0, .slice ad m c, .string st], .bool ok])) (((w3.setCell ⟨w.heap.size, 0, none⟩ (.bool b0)).setCell ⟨w.heap.size, 1, none⟩ (.slice ad m c)).setCell ⟨w.heap.size, 2, none⟩ (.string st)) := by
      intro p a e w3 hd hf
      have hb := hd.1
      have hk3 := cellsAt_go HK.out hb hsz2
      have hb3 : Below w.heap.size w w3 := HB2.out.trans (hb.mono HB2.out.size)
      have own : ∀ {ad : Option Addr} {c m : Nat} {xs : List Value} (x y z : Value), w3.ownsRow w2.heap.size 9 1 (.slice ad m c) m xs → (((w3.setCell ⟨w.heap.size, 0, none⟩ x).setCell ⟨w.heap.size, 1, none⟩ y).setCell ⟨w.heap.size, 2, none⟩ z).ownsRow w.heap.size 9 1 (.slice ad m c) m xs := by
        intro ad c m xs x y z ho
        have ho2 := gOwn_lower ho (B' := w.heap.size) (Nat.le_of_lt hsz2)
        have hne : ∀ i, (Value.slice ad m c).ownBlock ≠ some (⟨w.heap.size, i, none⟩ : Addr).block := by
          intro i
          cases ad with
          | none => simp [Value.ownBlock]
          | some p =>
            rcases ho.2 with ⟨e, -⟩ | ⟨g, cap, cur, e, hg, -⟩
            · cases e
            · simp only [Value.slice.injEq, Option.some.injEq] at e
              obtain ⟨rfl, -⟩ := e
              simp [Value.ownBlock]
              omega
        exact gOwn_set (gOwn_set (gOwn_set ho2 _ _ (hne _)) _ _ (hne _)) _ _ (hne _)
      have hb4 : ∀ x y z, Below w.heap.size w (((w3.setCell ⟨w.heap.size, 0, none⟩ x).setCell ⟨w.heap.size, 1, none⟩ y).setCell ⟨w.heap.size, 2, none⟩ z) := fun x y z => ((hb3.setCell (Nat.le_refl _) _).setCell (Nat.le_refl _) _).setCell (Nat.le_refl _) _
      rcases hd.2 with ⟨hp, ad, c, rfl, hown⟩ | ⟨hp, rfl⟩
      · rw [if_pos hp] at hf
        exact ⟨_, _, _, _, _, _, rfl, hk3, hb4 _ _ _, .inl ⟨_, ad, c, hf, rfl, own _ _ _ hown⟩⟩
      · rw [if_neg (by rw [hp]; decide)] at hf
        exact ⟨_, _, _, _, _, _, rfl, hk3, hb4 _ _ _, .inr ⟨hf, rfl⟩⟩
    have DN := hide down
    clear down
    cases fo
    · have HF := hide (fld_down HD.out (by rw [HX.out]))
      have C2 := hide (i_fieldDown s ⟨#[]⟩ w2 hs HM2.out)
      go_wp2_with fail
      refine C2.out.mono ?_
      rintro e w3 ha
      obtain ⟨b0, ad, m, c, st, ok, rfl, hk3, hfd⟩ := DN.out s ⟨#[]⟩ e w3 ha HF.out
      have HFD := hide hfd
      have s0 := cellsAt_cell hk3 0
      have s1 := cellsAt_cell hk3 1
      have s2 := cellsAt_cell hk3 2
      have sf := cellsAt_frozen hk3
      simp at s0 s1 s2
      have HK3 := hide hk3
      clear ha hfd hk3
      go_wp2
      have hk := cellsAt_set (i := 2) (cellsAt_set (i := 1) (cellsAt_set (i := 0) HK3.out (.bool b0)) (.slice ad m c)) (.string st)
      have r0 := cellsAt_cell hk 0
      have r1 := cellsAt_cell hk 1
      have r2 := cellsAt_cell hk 2
      exact bodyPost_ret (v := .tuple #[.agg #[.bool b0, .slice ad m c, .string st], .bool ok]) (by simp [results, Tryz.results31, go_sem, r0, r1, r2]) rfl HFD.out
    · have hat : at2.size ≤ maxLen := by unfold maxLen; omega
      have hfin : ∀ x y z, CellsAt (((w2.setCell ⟨w.heap.size, 0, none⟩ x).setCell ⟨w.heap.size, 1, none⟩ y).setCell ⟨w.heap.size, 2, none⟩ z) w.heap.size #[x, y, z] := fun x y z => cellsAt_set (i := 2) (cellsAt_set (i := 1) (cellsAt_set (i := 0) HK.out x) y) z
      have hbf : ∀ x y z, Below w.heap.size w (((w2.setCell ⟨w.heap.size, 0, none⟩ x).setCell ⟨w.heap.size, 1, none⟩ y).setCell ⟨w.heap.size, 2, none⟩ z) := fun x y z => ((HB2.out.setCell (Nat.le_refl _) _).setCell (Nat.le_refl _) _).setCell (Nat.le_refl _) _
      have HFIN := hide hfin
      have HBF := hide hbf
      have H3 : Hid ((ct1 64 s.data.toList).2.2 = true) := hide (by rw [HX.out])
      clear hfin hbf
      cases hn : nameB at2
      · have HN : Hid (fld s.data.toList = none) := hide (fld_name H3.out (by rw [HX.out]; exact hn))
        go_wp2_with (go_at_call 49; refine (i_name _ _ hat).mono ?_; rintro e w9 ⟨rfl, h9⟩; rw [h9, hn]; clear h9 w9)
        have r0 := cellsAt_cell (HFIN.out (.bool false) (.slice none 0 0) (.string ⟨#[]⟩)) 0
        have r1 := cellsAt_cell (HFIN.out (.bool false) (.slice none 0 0) (.string ⟨#[]⟩)) 1
        have r2 := cellsAt_cell (HFIN.out (.bool false) (.slice none 0 0) (.string ⟨#[]⟩)) 2
        exact bodyPost_ret (v := .tuple #[.agg #[.bool false, .slice none 0 0, .string ⟨#[]⟩], .bool false]) (by simp [results, Tryz.results31, go_sem, r0, r1, r2]) rfl ⟨HBF.out _ _ _, .inr ⟨HN.out, rfl⟩⟩
      · have HN2 : Hid (nameL (ct1 64 s.data.toList).2.1 = true) := hide (by rw [HX.out]; exact hn)
        by_cases h0 : hh.data.toList = []
        · have HN : Hid (fld s.data.toList = some ([], at2.data.toList)) := hide (by rw [fld_here H3.out HN2.out (by rw [HX.out]; exact h0), HX.out])
          have hem : hh.toList.isEmpty = true := by rw [ByteArray.toList_eq, h0]; rfl
          have hz9 : hh.toList = [] := by rw [ByteArray.toList_eq, h0]
          go_wp2_with (go_at_call 49; refine (i_name _ _ hat).mono ?_; rintro e w9 ⟨rfl, h9⟩; rw [h9, hn]; clear h9 w9)
          have t0 := cellsAt_cell (cellsAt_set (i := 0) HK.out (.bool false)) 0
          have t1 := cellsAt_cell (cellsAt_set (i := 1) (cellsAt_set (i := 0) HK.out (.bool false)) (.slice none 0 0)) 1
          have r0 := cellsAt_cell (HFIN.out (.bool false) (.slice none 0 0) (.string at2)) 0
          have r1 := cellsAt_cell (HFIN.out (.bool false) (.slice none 0 0) (.string at2)) 1
          have r2 := cellsAt_cell (HFIN.out (.bool false) (.slice none 0 0) (.string at2)) 2
          exact bodyPost_ret (v := .tuple #[.agg #[.bool false, .slice none 0 0, .string at2], .bool true]) (by simp [results, Tryz.results31, go_sem, r0, r1, r2, t0, t1]) rfl ⟨HBF.out _ _ _, .inl ⟨_, none, 0, HN.out, rfl, fd_own0 _ _⟩⟩
        · have HNE : Hid ((ct1 64 s.data.toList).1 ≠ []) := hide (by rw [HX.out]; exact h0)
          have hem : hh.toList.isEmpty = false := by
            rw [ByteArray.toList_eq]; simpa using h0
          have hz9 : hh.toList ≠ [] := by rw [ByteArray.toList_eq]; exact h0
          have hhz : hh.size ≤ 9223372036854775807 := by omega
          have C3 := hide (fun w => Tryz.strings_CutSuffix hh ⟨#[47]⟩ w hhz)
          cases hsf : Lib.hasSuffix hh.data.toList [47]
          · have HN : Hid (fld s.data.toList = none) := hide (fld_bare H3.out HN2.out HNE.out (by rw [HX.out]; exact hsf))
            clear h0
            go_wp2_with (first | (go_at_call 49; refine (i_name _ _ hat).mono ?_; rintro e w9 ⟨rfl, h9⟩; rw [h9, hn]; clear h9 w9) | (go_at_call 62; refine (C3.out _).mono ?_; rintro e w9 ⟨rfl, h9⟩; rw [h9, show Lib.hasSuffix hh.data.toList (⟨#[47]⟩ : ByteArray).data.toList = false from hsf]; clear h9 w9))
            have r0 := cellsAt_cell (HFIN.out (.bool false) (.slice none 0 0) (.string ⟨#[]⟩)) 0
            have r1 := cellsAt_cell (HFIN.out (.bool false) (.slice none 0 0) (.string ⟨#[]⟩)) 1
            have r2 := cellsAt_cell (HFIN.out (.bool false) (.slice none 0 0) (.string ⟨#[]⟩)) 2
            exact bodyPost_ret (v := .tuple #[.agg #[.bool false, .slice none 0 0, .string ⟨#[]⟩], .bool false]) (by simp [results, Tryz.results31, go_sem, r0, r1, r2]) rfl ⟨HBF.out _ _ _, .inr ⟨HN.out, rfl⟩⟩
          · obtain ⟨P, hP⟩ : ∃ P : ByteArray, (⟨(Lib.trimSuffix hh.data.toList [47]).toArray⟩ : ByteArray) = P := ⟨_, rfl⟩
            have hPd : P.data.toList = Lib.trimSuffix hh.data.toList [47] := by rw [← hP]
            have hPs : P.size ≤ 1048576 := by
              rw [← ct_len, hPd]
              unfold Lib.trimSuffix
              rw [if_pos hsf]
              simp
              omega
            have HF : Hid (fld s.data.toList = if pathF P.data.toList = true then some (sg [] P.data.toList, at2.data.toList) else none) := hide (by
              rw [fld_up H3.out HN2.out HNE.out (by rw [HX.out]; exact hsf), HX.out, hPd])
            have C2 := hide (i_fieldDown P at2 w2 hPs HM2.out)
            clear h0
            go_wp2_with (first | (go_at_call 49; refine (i_name _ _ hat).mono ?_; rintro e w9 ⟨rfl, h9⟩; rw [h9, hn]; clear h9 w9) | (go_at_call 62; refine (C3.out _).mono ?_; rintro e w9 ⟨rfl, h9⟩; rw [h9, show Lib.hasSuffix hh.data.toList (⟨#[47]⟩ : ByteArray).data.toList = true from hsf, show (⟨(Lib.trimSuffix hh.data.toList (⟨#[47]⟩ : ByteArray).data.toList).toArray⟩ : ByteArray) = P from hP]; clear h9 w9))
            refine C2.out.mono ?_
            rintro e w3 ha
            obtain ⟨b0, ad, m, c, st, ok, rfl, hk3, hfd⟩ := DN.out P at2 e w3 ha HF.out
            have HFD := hide hfd
            have s0 := cellsAt_cell hk3 0
            have s1 := cellsAt_cell hk3 1
            have s2 := cellsAt_cell hk3 2
            have sf := cellsAt_frozen hk3
            simp at s0 s1 s2
            have HK3 := hide hk3
            clear ha hfd hk3
            go_wp2
            have hk := cellsAt_set (i := 2) (cellsAt_set (i := 1) (cellsAt_set (i := 0) HK3.out (.bool b0)) (.slice ad m c)) (.string st)
            have r0 := cellsAt_cell hk 0
            have r1 := cellsAt_cell hk 1
            have r2 := cellsAt_cell hk 2
            exact bodyPost_ret (v := .tuple #[.agg #[.bool b0, .slice ad m c, .string st], .bool ok]) (by simp [results, Tryz.results31, go_sem, r0, r1, r2]) rfl HFD.out
end Go.Proofs.YtdepgkpfibmbgaaGreatDoor
