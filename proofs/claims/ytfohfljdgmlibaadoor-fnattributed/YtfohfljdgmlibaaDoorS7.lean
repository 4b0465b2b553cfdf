/-
  Texts put together: TkL, TkT.
-/
import Derived.Test.YtfohfljdgmlibaaDoorS3
import Derived.Test.YtfohfljdgmlibaaDoorS6
/-
  Plain facts: what follows what, told by bits, while a model is gone through.
-/
namespace Go.Proofs.YtfohfljdgmlibaaDoor
open Go.RowKit Go.Joins
set_option linter.unusedVariables false
set_option linter.unusedSimpArgs false
/-- To what followed already has come R. -/
def LkB (F F' : Nat → Nat) (R : Int → Int → Prop) : Prop := ∀ p : Nat, p < 41 → F' p < 1099511627776 ∧ ∀ q : Nat, (F' p).testBit q = true ↔ ((F p).testBit q = true ∨ R p q)
theorem lkB_lt {F F' : Nat → Nat} {R : Int → Int → Prop} (h : LkB F F' R) : ∀ p, p < 41 → F' p < 18446744073709551616 := fun p hp => Nat.lt_of_lt_of_le (h p hp).1 (by decide)
theorem lkB_refl {F : Nat → Nat} {R : Int → Int → Prop} (h : ∀ p, p < 41 → F p < 1099511627776) (hR : ∀ p q : Nat, ¬ R p q) : LkB F F R := fun p hp => ⟨h p hp, fun q => ⟨.inl, fun h9 => h9.elim id (fun h8 => absurd h8 (hR p q))⟩⟩
theorem lkB_trans {F F1 F2 : Nat → Nat} {R1 R2 R : Int → Int → Prop} (h1 : LkB F F1 R1) (h2 : LkB F1 F2 R2) (hR : ∀ p q : Nat, R p q ↔ R1 p q ∨ R2 p q) : LkB F F2 R := fun p hp => ⟨(h2 p hp).1, fun q => by rw [(h2 p hp).2 q, (h1 p hp).2 q, hR p q, or_assoc]⟩
theorem lkB_congr {F F1 : Nat → Nat} {R R' : Int → Int → Prop} (h1 : LkB F F1 R) (hR : ∀ p q : Nat, R p q ↔ R' p q) : LkB F F1 R' := fun p hp => ⟨(h1 p hp).1, fun q => by rw [(h1 p hp).2 q, hR p q]⟩
theorem bits_mem {x : Nat} {S : List Int} (h : BitS x S) (p : Nat) : (p : Int) ∈ bts x ↔ (p : Int) ∈ S := by
  rw [bts_mem (x + 1) x (by omega) (Nat.lt_of_lt_of_le h.1 (by decide)), ← h.2 p]
  constructor
  · rintro ⟨j, e, hj⟩
    have : p = j := by omega
    subst this
    exact hj
  · intro hj; exact ⟨p, rfl, hj⟩
theorem lkB_link {F : Nat → Nat} {a t : Nat} {S T : List Int} (h : ∀ p, p < 41 → F p < 1099511627776) (ha : BitS a S) (ht : BitS t T) : LkB F (lkU F (bts a) t) (fun p q => p ∈ S ∧ q ∈ T) := fun p hp => by
  unfold lkU
  by_cases hm : (p : Int) ∈ bts a
  · rw [if_pos hm]
    refine ⟨or_lt40 (h p hp) ht.1, fun q => ?_⟩
    rw [Nat.testBit_or, Bool.or_eq_true, ht.2 q]
    have := (bits_mem ha p).1 hm
    exact ⟨fun h9 => h9.elim .inl (fun h8 => .inr ⟨this, h8⟩), fun h9 => h9.elim .inl (fun h8 => .inr h8.2)⟩
  · rw [if_neg hm]
    refine ⟨h p hp, fun q => ⟨.inl, fun h9 => h9.elim id (fun h8 => absurd ((bits_mem ha p).2 h8.1) hm)⟩⟩
/-- What has come of the first m kids of a row. -/
def SqR (D : Pn) (L : List Int) (p q : Int) : Prop := (∃ k ∈ L, lk D k.toNat p q) ∨ ∃ M b R, L = M ++ b :: R ∧ p ∈ seqE (fun k => ed D true k.toNat) (fun k => nl D k.toNat) M.reverse ∧ q ∈ ed D false b.toNat
theorem sqR_nil (D : Pn) (p q : Int) : ¬ SqR D [] p q := by
  rintro (⟨k, hk, -⟩ | ⟨M, b, R, e, -⟩)
  · exact absurd hk (List.not_mem_nil)
  · simp at e
theorem sqR_snoc (D : Pn) (L : List Int) (k : Int) (p q : Int) : SqR D (L ++ [k]) p q ↔ SqR D L p q ∨ (lk D k.toNat p q ∨ (p ∈ seqE (fun k => ed D true k.toNat) (fun k => nl D k.toNat) L.reverse ∧ q ∈ ed D false k.toNat)) := by
  constructor
  · rintro (⟨j, hj, h⟩ | ⟨M, b, R, e, h1, h2⟩)
    · rcases List.mem_append.1 hj with hj | hj
      · exact .inl (.inl ⟨j, hj, h⟩)
      · simp at hj; subst hj; exact .inr (.inl h)
    · rcases List.eq_nil_or_concat R with rfl | ⟨R', z, rfl⟩
      · have := List.append_inj' e (by simp)
        obtain ⟨rfl, e2⟩ := this
        simp at e2
        subst e2
        exact .inr (.inr ⟨h1, h2⟩)
      · have e2 : L ++ [k] = (M ++ b :: R') ++ [z] := by rw [e]; simp
        have := List.append_inj' e2 (by simp)
        exact .inl (.inr ⟨M, b, R', this.1, h1, h2⟩)
  · rintro ((⟨j, hj, h⟩ | ⟨M, b, R, e, h1, h2⟩) | (h | ⟨h1, h2⟩))
    · exact .inl ⟨j, List.mem_append_left _ hj, h⟩
    · exact .inr ⟨M, b, R ++ [k], by rw [e]; simp, h1, h2⟩
    · exact .inl ⟨k, by simp, h⟩
    · exact .inr ⟨L, k, [], rfl, h1, h2⟩
/-- The sets of a row: what one kid more makes of them. -/
theorem seq_next {g h : Int → List Int} {nul : Int → Bool} {L : List Int} {k : Int} {f l fk lk9 : Nat} (hf : BitS f (seqE g nul L)) (hl : BitS l (seqE h nul L.reverse)) (hfk : BitS fk (g k)) (hlk : BitS lk9 (h k)) :
    BitS (thF (L.all nul) f fk) (seqE g nul (L ++ [k])) ∧ BitS (thL (nul k) lk9 l) (seqE h nul (L ++ [k]).reverse) := by
  constructor
  · rw [seqE_snoc]
    unfold thF
    by_cases e : L.all nul = true
    · rw [if_pos e, if_pos e]; exact bitS_app hf hfk
    · rw [if_neg e, if_neg e, List.append_nil]; exact hf
  · rw [List.reverse_append]
    show BitS _ (seqE h nul (k :: L.reverse))
    rw [seqE]
    unfold thL
    by_cases e : nul k = true
    · rw [if_pos e, if_pos e]; exact bitS_app hlk hl
    · rw [if_neg e, if_neg e, List.append_nil]; exact hlk
theorem orr_next {g h : Int → List Int} {L : List Int} {k : Int} {f l fk lk9 : Nat} (hf : BitS f (seqE g (fun _ => true) L)) (hl : BitS l (seqE h (fun _ => true) L.reverse)) (hfk : BitS fk (g k)) (hlk : BitS lk9 (h k)) :
    BitS (f ||| fk) (seqE g (fun _ => true) (L ++ [k])) ∧ BitS (l ||| lk9) (seqE h (fun _ => true) (L ++ [k]).reverse) := by
  obtain ⟨h1, h2⟩ := seq_next hf hl hfk hlk
  unfold thF at h1
  unfold thL at h2
  rw [if_pos (by simp)] at h1
  rw [if_pos rfl] at h2
  exact ⟨h1, by rw [Nat.or_comm]; exact h2⟩
/-- The answer of a node, once its kids are done. -/
theorem lk_seq {D : Pn} {i : Nat} (hl : Lo D i) (hk : D.K i = 2) (p q : Int) : lk D i p q ↔ SqR D (D.KL i) p q ∨ (2 ≤ D.OC i ∧ p ∈ ed D true i ∧ q ∈ ed D false i) := by
  rw [lk_iff hl]
  unfold OwP SqR
  rw [← ow_prog (L := D.KL i) (nul := fun k => nl D k.toNat) (g := fun k => ed D true k.toNat) (h := fun k => ed D false k.toNat) (p := p) (q := q)]
  constructor
  · rintro ((h | ⟨-, h⟩) | h)
    · exact .inr h
    · exact .inl (.inr h)
    · exact .inl (.inl h)
  · rintro ((h | h) | h)
    · exact .inr h
    · exact .inl (.inr ⟨hk, h⟩)
    · exact .inl (.inl h)
theorem lk_other {D : Pn} {i : Nat} (hl : Lo D i) (hk : D.K i ≠ 2) (p q : Int) : lk D i p q ↔ (∃ k ∈ D.KL i, lk D k.toNat p q) ∨ (2 ≤ D.OC i ∧ p ∈ ed D true i ∧ q ∈ ed D false i) := by
  rw [lk_iff hl]
  unfold OwP
  constructor
  · rintro ((h | ⟨h, -⟩) | h)
    · exact .inr h
    · exact absurd h hk
    · exact .inl h
  · rintro (h | h)
    · exact .inr h
    · exact .inl (.inl h)
theorem ed_seq {D : Pn} {i : Nat} {rev : Bool} (hl : Lo D i) (hk : D.K i = 2) : ed D rev i = seqE (fun k => ed D rev k.toNat) (fun k => nl D k.toNat) (ordL rev (D.KL i)) := by
  rw [ed_eq hl]
  unfold bdE
  rw [if_pos (.inl hk)]
  have : (fun j : Int => decide (D.K i ≠ 2) || nl D j.toNat) = fun k => nl D k.toNat := by
    funext j
    rw [decide_eq_false (by simp [hk])]
    rfl
  exact congrArg (fun z => seqE (fun k => ed D rev k.toNat) z (ordL rev (D.KL i))) this
theorem ed_or {D : Pn} {i : Nat} {rev : Bool} (hl : Lo D i) (hk : D.K i = 3) : ed D rev i = seqE (fun k => ed D rev k.toNat) (fun _ => true) (ordL rev (D.KL i)) := by
  rw [ed_eq hl]
  unfold bdE
  rw [if_pos (.inr hk)]
  have : (fun j : Int => decide (D.K i ≠ 2) || nl D j.toNat) = fun _ => true := by
    funext j
    rw [decide_eq_true (by rw [hk]; decide)]
    rfl
  exact congrArg (fun z => seqE (fun k => ed D rev k.toNat) z (ordL rev (D.KL i))) this
theorem ed_leaf {D : Pn} {i : Nat} {rev : Bool} (hl : Lo D i) (hk : D.K i = 1 ∨ D.K i = 4) : ed D rev i = [(i : Int)] := by
  rw [ed_eq hl]
  unfold bdE
  rw [if_neg (by omega)]
end Go.Proofs.YtfohfljdgmlibaaDoor

/-
  Contract: what a node tells of its rows, and what follows what in them (the program's closure that calls itself).
-/
namespace Go.Proofs.YtfohfljdgmlibaaDoor
open Go.RowKit Go.Joins
set_option linter.unusedVariables false
set_option linter.unusedSimpArgs false
/-- The closure that tells. -/
def tellV (PB T TB : Nat) : Value := .func (.func 66) #[] #[.pointer (some ⟨PB, 0, none⟩), .pointer (some ⟨T, 0, none⟩), .pointer (some ⟨TB, 0, none⟩)]
/-- What stands while a model is gone through: the library's table, the captured variables, the model. -/
structure TkW (w : World) (D : Pn) (n b0 off cap PB T TB B0 : Nat) : Prop where
  tz : TzT w
  pb : CellsAt w PB #[.slice (some ⟨b0, off, none⟩) n cap]
  tb : CellsAt w TB #[tellV PB T TB]
  row : PnRow w b0 off D B0
  hb0 : b0 < B0
  hB : B0 ≤ T
  hsz : B0 ≤ w.heap.size
  htz : 0 < B0
  hPB : PB ≠ T
  hTB : TB ≠ T
theorem tkW_go {w w' : World} {D : Pn} {n b0 off cap PB T TB B0 : Nat} (h : TkW w D n b0 off cap PB T TB B0) (hg : w.grownBy w' (some T)) : TkW w' D n b0 off cap PB T TB B0 :=
  have hb := grown_below hg h.hB h.hsz
  ⟨fun j hj => (hb.cell (p := ⟨0, j, none⟩) h.htz).trans (h.tz j hj), cellsAt_grown h.pb hg h.hPB, cellsAt_grown h.tb hg h.hTB, pnRow_go h.row h.hb0 hb, h.hb0, h.hB, Nat.le_trans h.hsz hg.size, h.htz, h.hPB, h.hTB⟩
/-- What a node answers. -/
def TellA (D : Pn) (i T : Nat) (mv : Value) (F : Nat → Nat) (e : Nat) (w : World) (r : Ending) (w' : World) : Prop := ∃ (f l : Nat) (F' : Nat → Nat), r = .returned (.agg #[.bool (nl D i), .int .u64 (f : Int), .int .u64 (l : Int)]) ∧ BitS f (ed D false i) ∧ BitS l (ed D true i) ∧ LkB F F' (lk D i) ∧ CellsAt w' T (tkC mv F' e) ∧ w.grownBy w' (some T)
theorem tkW_drew {w : World} {D : Pn} {n b0 off cap PB T TB B0 : Nat} (h : TkW w D n b0 off cap PB T TB B0) : TkW w.drew D n b0 off cap PB T TB B0 := tkW_go h ⟨rfl, rfl, rfl, Nat.le_refl _, fun _ _ _ => rfl⟩
/-- What a call has in memory of its own while it goes through a node: its answer, the node, what the node tells so far, and the ways. -/
def TkB (w wr : World) (T : Nat) (rs nd : Array Value) (e : Bool) (f l : Nat) (mv : Value) (F : Nat → Nat) (e0 : Nat) : Prop := CellsAt wr w.heap.size rs ∧ CellsAt wr (w.heap.size + 1) nd ∧ CellsAt wr (w.heap.size + 1 + 1) #[.bool e, .int .u64 (f : Int), .int .u64 (l : Int)] ∧ CellsAt wr T (tkC mv F e0) ∧ w.grownBy wr (some T)
theorem tkB_go {w wr w2 : World} {T : Nat} {rs nd : Array Value} {e : Bool} {f l : Nat} {mv : Value} {F F2 : Nat → Nat} {e0 : Nat} (h : TkB w wr T rs nd e f l mv F e0) (hg : wr.grownBy w2 (some T)) (hc : CellsAt w2 T (tkC mv F2 e0)) (hT : T < w.heap.size) : TkB w w2 T rs nd e f l mv F2 e0 :=
  ⟨cellsAt_grown h.1 hg (by omega), cellsAt_grown h.2.1 hg (by omega), cellsAt_grown h.2.2.1 hg (by omega), hc, grown_trans9 h.2.2.2.2 hg⟩
theorem tkB_drew {w wr : World} {T : Nat} {rs nd : Array Value} {e : Bool} {f l : Nat} {mv : Value} {F : Nat → Nat} {e0 : Nat} (h : TkB w wr T rs nd e f l mv F e0) : TkB w wr.drew T rs nd e f l mv F e0 := ⟨h.1, h.2.1, h.2.2.1, h.2.2.2.1, grown_drew9 h.2.2.2.2⟩
theorem tkB_set {w wr : World} {T : Nat} {rs nd : Array Value} {e e' : Bool} {f l f' l' : Nat} {mv : Value} {F : Nat → Nat} {e0 : Nat} (h : TkB w wr T rs nd e f l mv F e0) (hT : T < w.heap.size) : TkB w (((wr.setCell ⟨w.heap.size + 1 + 1, 0, none⟩ (.bool e')).setCell ⟨w.heap.size + 1 + 1, 1, none⟩ (.int .u64 (f' : Int))).setCell ⟨w.heap.size + 1 + 1, 2, none⟩ (.int .u64 (l' : Int))) T rs nd e' f' l' mv F e0 := by
  obtain ⟨h1, h2, h3, h4, h5⟩ := h
  refine ⟨?_, ?_, ?_, ?_, ?_⟩
  · refine cellsAt_far (cellsAt_far (cellsAt_far h1 _ ?_) _ ?_) _ ?_ <;> (simp only []; omega)
  · refine cellsAt_far (cellsAt_far (cellsAt_far h2 _ ?_) _ ?_) _ ?_ <;> (simp only []; omega)
  · exact cellsAt_set (cellsAt_set (cellsAt_set h3 _) _) _
  · refine cellsAt_far (cellsAt_far (cellsAt_far h4 _ ?_) _ ?_) _ ?_ <;> (simp only []; omega)
  · refine grown_far (grown_far (grown_far h5 _ ?_) _ ?_) _ ?_ <;> (simp only []; omega)
theorem tkB_set0 {w wr : World} {T : Nat} {rs nd : Array Value} {e e' : Bool} {f l : Nat} {mv : Value} {F : Nat → Nat} {e0 : Nat} (h : TkB w wr T rs nd e f l mv F e0) (hT : T < w.heap.size) : TkB w (wr.setCell ⟨w.heap.size + 1 + 1, 0, none⟩ (.bool e')) T rs nd e' f l mv F e0 := by
  obtain ⟨h1, h2, h3, h4, h5⟩ := h
  exact ⟨cellsAt_far h1 _ (by simp only []; omega), cellsAt_far h2 _ (by simp only []; omega), cellsAt_set h3 _, cellsAt_far h4 _ (by simp only []; omega), grown_far h5 _ (by simp only []; omega)⟩
theorem tkB_own {w wr : World} {T : Nat} {rs nd : Array Value} {e : Bool} {f l : Nat} {mv : Value} {F : Nat → Nat} {e0 : Nat} (h : TkB w wr T rs nd e f l mv F e0) : wr.cell? ⟨w.heap.size + 1 + 1, 0, none⟩ = some (.bool e) ∧ wr.cell? ⟨w.heap.size + 1 + 1, 1, none⟩ = some (.int .u64 (f : Int)) ∧ wr.cell? ⟨w.heap.size + 1 + 1, 2, none⟩ = some (.int .u64 (l : Int)) ∧ wr.frozen? ⟨w.heap.size + 1 + 1, 0, none⟩ = false ∧ wr.frozen? ⟨w.heap.size + 1 + 1, 1, none⟩ = false ∧ wr.frozen? ⟨w.heap.size + 1 + 1, 2, none⟩ = false :=
  ⟨cellsAt_cell h.2.2.1 0, cellsAt_cell h.2.2.1 1, cellsAt_cell h.2.2.1 2, cellsAt_frozen h.2.2.1 0, cellsAt_frozen h.2.2.1 1, cellsAt_frozen h.2.2.1 2⟩
/-- The answer is written. -/
theorem tkB_end {w wr : World} {T : Nat} {rs nd : Array Value} {e : Bool} {f l : Nat} {mv : Value} {F : Nat → Nat} {e0 : Nat} {a b c : Value} (h : TkB w wr T rs nd e f l mv F e0) (hT : T < w.heap.size) : CellsAt (((wr.setCell ⟨w.heap.size, 0, none⟩ a).setCell ⟨w.heap.size, 1, none⟩ b).setCell ⟨w.heap.size, 2, none⟩ c) T (tkC mv F e0) := by
  refine cellsAt_far (cellsAt_far (cellsAt_far h.2.2.2.1 _ ?_) _ ?_) _ ?_ <;> (simp only []; omega)
theorem tkB_end2 {w wr : World} {T : Nat} {rs nd : Array Value} {e : Bool} {f l : Nat} {mv : Value} {F : Nat → Nat} {e0 : Nat} {a b c : Value} (h : TkB w wr T rs nd e f l mv F e0) (hT : T < w.heap.size) : w.grownBy (((wr.setCell ⟨w.heap.size, 0, none⟩ a).setCell ⟨w.heap.size, 1, none⟩ b).setCell ⟨w.heap.size, 2, none⟩ c) (some T) := by
  refine grown_far (grown_far (grown_far h.2.2.2.2 _ ?_) _ ?_) _ ?_ <;> (simp only []; omega)
theorem i_often (oc : Int) (w : World) : Calls Tryd.prog 69 #[.int .i64 oc] w fun r w' => r = .returned (.bool (decide (oc = 2 ∨ oc = 3))) ∧ w' = w := by
  by_cases h1 : oc = 2
  · subst h1
    go_enter Tryd.func69, Tryd.ntmps69
    go_wp2
    go_ret
    exact ⟨rfl, rfl⟩
  · have f1 : (oc == 2) = false := by simpa using h1
    by_cases h2 : oc = 3
    · subst h2
      go_enter Tryd.func69, Tryd.ntmps69
      go_wp2
      go_ret
      exact ⟨rfl, rfl⟩
    · have f2 : (oc == 3) = false := by simpa using h2
      have HD : Hid (decide (oc = 2 ∨ oc = 3) = false) := hide (by simp [h1, h2])
      clear h1 h2
      go_enter Tryd.func69, Tryd.ntmps69
      go_wp2
      go_ret
      exact ⟨by rw [HD.out]; rfl, rfl⟩
theorem i_opt9 (oc : Int) (w : World) : Calls Tryd.prog 71 #[.int .i64 oc] w fun r w' => r = .returned (.bool (decide (oc = 1 ∨ oc = 2))) ∧ w' = w := by
  by_cases h1 : oc = 1
  · subst h1
    go_enter Tryd.func71, Tryd.ntmps71
    go_wp2
    go_ret
    exact ⟨rfl, rfl⟩
  · have f1 : (oc == 1) = false := by simpa using h1
    by_cases h2 : oc = 2
    · subst h2
      go_enter Tryd.func71, Tryd.ntmps71
      go_wp2
      go_ret
      exact ⟨rfl, rfl⟩
    · have f2 : (oc == 2) = false := by simpa using h2
      have HD : Hid (decide (oc = 1 ∨ oc = 2) = false) := hide (by simp [h1, h2])
      clear h1 h2
      go_enter Tryd.func71, Tryd.ntmps71
      go_wp2
      go_ret
      exact ⟨by rw [HD.out]; rfl, rfl⟩
end Go.Proofs.YtfohfljdgmlibaaDoor
