/-
  Contract: a drawn date and a drawn zone, whatever the code is.
-/
import Derived.Test.YtaigicdoepdhnacDoorDrawDate
import Derived.Laws.ResultCell
namespace Go.Proofs.YtaigicdoepdhnacDoor
open Go.RowKit Go.Joins
set_option linter.unusedVariables false
set_option linter.unusedSimpArgs false
theorem src_upD {w : World} {a : Option Addr} {zs : List Int} {B B' : Nat} (h : SrcAt w a zs B) (hB : B ≤ B') : SrcAt w a zs B' := by
  intro hne
  obtain ⟨b, off, e, hb, hc⟩ := h hne
  exact ⟨b, off, e, by omega, hc⟩
theorem far8 (w : World) (K D : Nat) (hne : K ≠ D) (x0 x1 x2 x3 x4 x5 : Int) (x6 : Bool) (x7 : Int) : ((((((((w.setCell ⟨D, 0, none⟩ (.int .i64 x0)).setCell ⟨D, 1, none⟩ (.int .i64 x1)).setCell ⟨D, 2, none⟩ (.int .i64 x2)).setCell ⟨D, 3, none⟩ (.int .i64 x3)).setCell ⟨D, 4, none⟩ (.int .i64 x4)).setCell ⟨D, 5, none⟩ (.int .i64 x5)).setCell ⟨D, 6, none⟩ (.bool x6)).setCell ⟨D, 7, none⟩ (.int .i64 x7)).heap[K]? = w.heap[K]? := by
  iterate 8 (rw [Below.heap_setCell _ _ _ K hne])
theorem dsh_far8 {w : World} {K D : Nat} (h : DSh w K) (hne : K ≠ D) (x0 x1 x2 x3 x4 x5 : Int) (x6 : Bool) (x7 : Int) : DSh ((((((((w.setCell ⟨D, 0, none⟩ (.int .i64 x0)).setCell ⟨D, 1, none⟩ (.int .i64 x1)).setCell ⟨D, 2, none⟩ (.int .i64 x2)).setCell ⟨D, 3, none⟩ (.int .i64 x3)).setCell ⟨D, 4, none⟩ (.int .i64 x4)).setCell ⟨D, 5, none⟩ (.int .i64 x5)).setCell ⟨D, 6, none⟩ (.bool x6)).setCell ⟨D, 7, none⟩ (.int .i64 x7)) K := by
  obtain ⟨z0, z1, z2, z3, z4, z5, z6, z7, h⟩ := h
  exact ⟨z0, z1, z2, z3, z4, z5, z6, z7, (far8 w K D hne x0 x1 x2 x3 x4 x5 x6 x7).trans h⟩
theorem below8 {b : Nat} {w w1 : World} {B : Nat} (h : Below b w w1) (hB : b ≤ B) (x0 x1 x2 x3 x4 x5 : Int) (x6 : Bool) (x7 : Int) : Below b w ((((((((w1.setCell ⟨B, 0, none⟩ (.int .i64 x0)).setCell ⟨B, 1, none⟩ (.int .i64 x1)).setCell ⟨B, 2, none⟩ (.int .i64 x2)).setCell ⟨B, 3, none⟩ (.int .i64 x3)).setCell ⟨B, 4, none⟩ (.int .i64 x4)).setCell ⟨B, 5, none⟩ (.int .i64 x5)).setCell ⟨B, 6, none⟩ (.bool x6)).setCell ⟨B, 7, none⟩ (.int .i64 x7)) := by
  iterate 8 (refine Below.setCell ?_ hB _)
  exact h
theorem ret_cell_tmp {P : Program} {fn : Func} {p u : Tmp} {ty : TypeId} (h : fn.results = #[.cell p ty, .tmp u]) (tmps : Array Value) (w : World) (g : Nat) (t : TypeId) (cs : Array Value) (fr : Nat × Nat) (d : TypeDesc)
    (hp : tmps.getD p undef = .pointer (some ⟨g, 0, none⟩)) (hg : w.heap[g]? = some (.cells cs t fr))
    (hu : P.underlying ty = some d) (hd : (match d with | .struct _ | .array _ _ => true | _ => false) = true) (hi : (P.info? ty).map (·.size) = some cs.size) :
    (results fn tmps).run P w = .ok (.tuple #[.agg cs, tmps.getD u undef]) w := by
  rw [results_cell_tmp h]
  simp only [hp, asAddr, Sem.run_pure, Result.andThen, run_loadVar_row w g t ty cs fr d hg hu hd hi]

theorem rd_far8 {w v : World} {a : Option Addr} {n cap : Nat} {zs : List Int} (h : RdAt v (w.heap.size + 1) a n cap zs) (hs : SrcAt w a zs w.heap.size) (x0 x1 x2 x3 x4 x5 : Int) (x6 : Bool) (x7 : Int) : RdAt ((((((((v.setCell ⟨w.heap.size, 0, none⟩ (.int .i64 x0)).setCell ⟨w.heap.size, 1, none⟩ (.int .i64 x1)).setCell ⟨w.heap.size, 2, none⟩ (.int .i64 x2)).setCell ⟨w.heap.size, 3, none⟩ (.int .i64 x3)).setCell ⟨w.heap.size, 4, none⟩ (.int .i64 x4)).setCell ⟨w.heap.size, 5, none⟩ (.int .i64 x5)).setCell ⟨w.heap.size, 6, none⟩ (.bool x6)).setCell ⟨w.heap.size, 7, none⟩ (.int .i64 x7)) (w.heap.size + 1) a n cap zs := by
  obtain ⟨⟨p, hp, hg⟩, hsrc, r1, r2, r3⟩ := h
  refine ⟨⟨p, hp, (far8 v (w.heap.size + 1) w.heap.size (by omega) x0 x1 x2 x3 x4 x5 x6 x7).trans hg⟩, fun hne => ?_, r1, r2, r3⟩
  obtain ⟨b, off, eb, hb, hc⟩ := hsrc hne
  obtain ⟨b2, off2, eb2, hb2, hc2⟩ := hs hne
  have e := eb.symm.trans eb2
  simp only [Option.some.injEq, Addr.mk.injEq] at e
  refine ⟨b, off, eb, hb, fun j hj => ?_⟩
  rw [World.cell?_of_block (a := ⟨b, off + j, none⟩) (far8 v b w.heap.size (by omega) x0 x1 x2 x3 x4 x5 x6 x7)]
  exact hc j hj
/-- While a date and a zone are drawn: the reader, the date's place, the answer's place. -/
def OJ (w : World) (a : Option Addr) (n cap : Nat) (zs : List Int) (A : Nat) (x0 x1 x2 x3 x4 x5 : Int) (x6 : Bool) (x7 : Int) (w' : World) : Prop :=
  RdAt w' (w.heap.size + 1) a n cap zs ∧ Below w.heap.size w w' ∧ w'.heap[A]? = some (.cells #[.int .i64 x0, .int .i64 x1, .int .i64 x2, .int .i64 x3, .int .i64 x4, .int .i64 x5, .bool x6, .int .i64 x7] 25 (0, 0)) ∧ DSh w' w.heap.size ∧ w.heap.size + 1 < A
def OV (w : World) (x0 x1 x2 x3 x4 x5 : Int) (x6 : Bool) (x7 : Int) (k : Nat) (x : Value) (w' : World) : Prop :=
  match k with
  | 0 => x = .agg #[.int .i64 x0, .int .i64 x1, .int .i64 x2, .int .i64 x3, .int .i64 x4, .int .i64 x5, .bool x6, .int .i64 x7]
  | 1 => x = .pointer (some ⟨w.heap.size + 1, 0, none⟩)
  | 2 => ∃ r : Int, x = .int .i64 r
  | 3 => w'.heap[w.heap.size]? = some (.cells #[.int .i64 x0, .int .i64 x1, .int .i64 x2, .int .i64 x3, .int .i64 x4, .int .i64 x5, .bool x6, .int .i64 x7] 25 (0, 0))
  | 4 => ∃ r : Int, x = .int .i64 r
  | _ => True
theorem ov_move {w v v' : World} {x0 x1 x2 x3 x4 x5 : Int} {x6 : Bool} {x7 : Int} (h3 : v.heap[w.heap.size]? = some (.cells #[.int .i64 x0, .int .i64 x1, .int .i64 x2, .int .i64 x3, .int .i64 x4, .int .i64 x5, .bool x6, .int .i64 x7] 25 (0, 0)) → v'.heap[w.heap.size]? = some (.cells #[.int .i64 x0, .int .i64 x1, .int .i64 x2, .int .i64 x3, .int .i64 x4, .int .i64 x5, .bool x6, .int .i64 x7] 25 (0, 0))) (k : Nat) (x : Value) (h : OV w x0 x1 x2 x3 x4 x5 x6 x7 k x v) : OV w x0 x1 x2 x3 x4 x5 x6 x7 k x v' := by
  unfold OV at h ⊢
  split at h <;> first | exact h3 h | exact h
set_option maxRecDepth 100000 in
set_option maxHeartbeats 4000000 in
theorem d_shifted (a : Option Addr) (n cap : Nat) (zs : List Int) (w : World) (hl : zs.length = n) (hz : ∀ x ∈ zs, 0 ≤ x ∧ x ≤ 255) (hn : n ≤ 1048576) (hs : SrcAt w a zs w.heap.size) :
    Calls Tryd.prog 5 #[.slice a n cap] w fun e w' => ∃ (x0 x1 x2 x3 x4 x5 : Int) (x6 : Bool) (x7 r : Int), e = .returned (.tuple #[.agg #[.int .i64 x0, .int .i64 x1, .int .i64 x2, .int .i64 x3, .int .i64 x4, .int .i64 x5, .bool x6, .int .i64 x7], .int .i64 r]) ∧ Below w.heap.size w w' := by
  have HS := hide hs
  have HL := hide hl
  have HZ := hide hz
  clear hs hl hz
  go_enter Tryd.func5, Tryd.ntmps5
  go_wp2_with fail
  have hW : (w.alloc (.cells #[.int .i64 0, .int .i64 0, .int .i64 0, .int .i64 0, .int .i64 0, .int .i64 0, .bool false, .int .i64 0] 25)).heap.size = w.heap.size + 1 := by simp
  refine (d_open a n cap zs _ HL.out HZ.out hn (src_upD (src_grown HS.out (Nat.le_refl _) (World.grownBy_alloc w _ none) (fun k hk => by cases hk)) (by simp))).mono ?_
  rintro e w1 ⟨rfl, hrd, hb1⟩
  rw [hW] at hrd
  have hA1 : DSh (w.alloc (.cells #[.int .i64 0, .int .i64 0, .int .i64 0, .int .i64 0, .int .i64 0, .int .i64 0, .bool false, .int .i64 0] 25)) w.heap.size := ⟨_, _, _, _, _, _, _, _, heap_alloc_new w _⟩
  have gb : (w.alloc (.cells #[.int .i64 0, .int .i64 0, .int .i64 0, .int .i64 0, .int .i64 0, .int .i64 0, .bool false, .int .i64 0] 25)).grownBy w1 none := ⟨hb1.os, hb1.tape, hb1.output, hb1.size, fun k hk _ => hb1.block k hk⟩
  have C0 : Hid (RdAt w1 (w.heap.size + 1) a n cap zs ∧ Below w.heap.size w w1 ∧ DSh w1 w.heap.size) := hide ⟨hrd, ((Below.refl w.heap.size w).alloc (Nat.le_refl _) _).trans (hb1.mono (by rw [hW]; omega)), dsh_grown hA1 gb (by simp)⟩
  clear hrd hb1 hW hA1 gb
  go_wp2_with fail
  refine (d_date (w.heap.size + 1) a n cap zs _ C0.out.1).mono ?_
  rintro e w2 ⟨x0, x1, x2, x3, x4, x5, x6, x7, rfl, hd⟩
  have HJ : Hid ((OJ w a n cap zs w2.heap.size x0 x1 x2 x3 x4 x5 x6 x7) (w2.alloc (.cells #[.int .i64 x0, .int .i64 x1, .int .i64 x2, .int .i64 x3, .int .i64 x4, .int .i64 x5, .bool x6, .int .i64 x7] 25)).drew) := by
    obtain ⟨c1, c2, c3⟩ := C0.out
    have hlt := rd_lt hd.1
    have y2 : Below w.heap.size w w2 := c2.grown hd.2 c2.size (fun x hx => by cases hx; omega)
    have z4 : DSh w2 w.heap.size := dsh_grown c3 hd.2 (by intro e; injection e with e; omega)
    have z5 : DSh (w2.alloc (.cells #[.int .i64 x0, .int .i64 x1, .int .i64 x2, .int .i64 x3, .int .i64 x4, .int .i64 x5, .bool x6, .int .i64 x7] 25)) w.heap.size := dsh_grown z4 (World.grownBy_alloc w2 _ none) (by simp)
    have z6 : RdAt (w2.alloc (.cells #[.int .i64 x0, .int .i64 x1, .int .i64 x2, .int .i64 x3, .int .i64 x4, .int .i64 x5, .bool x6, .int .i64 x7] 25)) (w.heap.size + 1) a n cap zs := rd_alloc hd.1 _
    have z7 : Below w.heap.size w (w2.alloc (.cells #[.int .i64 x0, .int .i64 x1, .int .i64 x2, .int .i64 x3, .int .i64 x4, .int .i64 x5, .bool x6, .int .i64 x7] 25)) := y2.alloc y2.size _
    exact ⟨z6, z7.drew, heap_alloc_new w2 _, z5, hlt⟩
  clear hd
  go_wp2_with fail
  refine wp_region_inv (by kernel_rfl) (by kernel_rfl) (fun u => { tmps := #[.slice a n cap, undef, .pointer (some ⟨w.heap.size, 0, none⟩), u 3, .pointer (some ⟨w.heap.size + 1, 0, none⟩), .pointer (some ⟨w2.heap.size, 0, none⟩), .slice a n cap, .pointer (some ⟨w.heap.size + 1, 0, none⟩), .pointer (some ⟨w.heap.size + 1, 0, none⟩), .agg #[.int .i64 x0, .int .i64 x1, .int .i64 x2, .int .i64 x3, .int .i64 x4, .int .i64 x5, .bool x6, .int .i64 x7], u 10, u 11, u 12], defers := [] }) (fun k => if k ≤ 2 then k + 10 else if k = 4 then 3 else 100)
    (OV w x0 x1 x2 x3 x4 x5 x6 x7) ((OJ w a n cap zs w2.heap.size x0 x1 x2 x3 x4 x5 x6 x7)) (fun k => if k = 3 then .int .i64 0 else undef) HJ.out ?hput ?hD ?step ?done
  case hput =>
    intro i o ho u v
    have hi := (Array.getElem?_eq_some_iff.1 ho).1
    have hi' : i < 5 := hi
    clear hi
    rcases (show i = 0 ∨ i = 1 ∨ i = 2 ∨ i = 3 ∨ i = 4 by omega) with e | e | e | e | e
    all_goals
      subst e
      obtain rfl := Option.some.inj ho
      rfl
  case hD =>
    intro i k hi hk hne
    have hi' : i < 5 := hi
    have hk' : k < 5 := hk
    try dsimp only
    split <;> split <;> (try split) <;> (try split) <;> omega
  case step =>
    intro i o ho u v hj hV K hK
    have hi := (Array.getElem?_eq_some_iff.1 ho).1
    have hi' : i < 5 := hi
    clear hi
    rcases (show i = 0 ∨ i = 1 ∨ i = 2 ∨ i = 3 ∨ i = 4 by omega) with e | e | e | e | e
    all_goals
      subst e
      obtain rfl := Option.some.inj ho
      clear ho hi'
      try dsimp only at hV hK ⊢
    · obtain ⟨⟨c0, c1, c2, c3, c4, c5, c6, c7⟩, -⟩ := dsh_cells hj.2.2.1
      have HJ2 := hide hj
      clear hj
      go_simp
      exact hK _ _ HJ2.out rfl (fun _ _ h => h)
    · have HJ2 := hide hj
      clear hj
      go_simp
      exact hK _ _ HJ2.out rfl (fun _ _ h => h)
    · have hp : u 11 = .pointer (some ⟨w.heap.size + 1, 0, none⟩) := hV ⟨1, .data⟩ (by simp) rfl
      have HJ2 := hide hj
      clear hj
      rw [hp] at hK ⊢
      go_simp
      refine (d_off_m840_840 (w.heap.size + 1) a n cap zs _ HJ2.out.1).mono ?_
      rintro e v1 ⟨r, rfl, hd⟩
      obtain ⟨j1, j2, j3, j4, j5⟩ := HJ2.out
      refine hK _ _ ⟨hd.1, j2.grown hd.2 j2.size (fun x hx => by cases hx; omega), (hd.2.block _ (Array.getElem?_eq_some_iff.1 j3).1 (by intro e; injection e with e; omega)).trans j3, dsh_grown j4 hd.2 (by intro e; injection e with e; omega), j5⟩ ⟨r, rfl⟩ (ov_move (fun hx => (hd.2.block _ (dsh_lt j4) (by intro e; injection e with e; omega)).trans hx))
    · have e1 : u 10 = .agg #[.int .i64 x0, .int .i64 x1, .int .i64 x2, .int .i64 x3, .int .i64 x4, .int .i64 x5, .bool x6, .int .i64 x7] := hV ⟨0, .data⟩ (by simp) rfl
      obtain ⟨j1, j2, j3, j4, j5⟩ := hj
      obtain ⟨z0, z1, z2, z3, z4, z5, z6, z7, hR⟩ := j4
      have HW := hide (set8_row hR x0 x1 x2 x3 x4 x5 x6 x7)
      have HJ2 : Hid ((OJ w a n cap zs w2.heap.size x0 x1 x2 x3 x4 x5 x6 x7) ((((((((v.setCell ⟨w.heap.size, 0, none⟩ (.int .i64 x0)).setCell ⟨w.heap.size, 1, none⟩ (.int .i64 x1)).setCell ⟨w.heap.size, 2, none⟩ (.int .i64 x2)).setCell ⟨w.heap.size, 3, none⟩ (.int .i64 x3)).setCell ⟨w.heap.size, 4, none⟩ (.int .i64 x4)).setCell ⟨w.heap.size, 5, none⟩ (.int .i64 x5)).setCell ⟨w.heap.size, 6, none⟩ (.bool x6)).setCell ⟨w.heap.size, 7, none⟩ (.int .i64 x7))) := hide ⟨rd_far8 j1 HS.out x0 x1 x2 x3 x4 x5 x6 x7, below8 j2 (Nat.le_refl _) x0 x1 x2 x3 x4 x5 x6 x7, (far8 v w2.heap.size w.heap.size (by omega) x0 x1 x2 x3 x4 x5 x6 x7).trans j3, ⟨_, _, _, _, _, _, _, _, set8_row hR x0 x1 x2 x3 x4 x5 x6 x7⟩, j5⟩
      obtain ⟨⟨c0, c1, c2, c3, c4, c5, c6, c7⟩, f0, f1, f2, f3, f4, f5, f6, f7⟩ := dsh_cells hR
      clear j1 j2 j3 j5 hR
      rw [e1] at hK ⊢
      go_simp
      exact hK undef _ HJ2.out HW.out (ov_move (fun _ => HW.out))
    · obtain ⟨r, e1⟩ : ∃ r : Int, u 12 = .int .i64 r := hV ⟨2, .data⟩ (by simp) rfl
      have HJ2 := hide hj
      clear hj
      rw [e1] at hK ⊢
      go_simp
      exact hK _ _ HJ2.out ⟨r, rfl⟩ (fun _ _ h => h)
  case done =>
    intro u v hj hV
    have hr : v.heap[w.heap.size]? = some (.cells #[.int .i64 x0, .int .i64 x1, .int .i64 x2, .int .i64 x3, .int .i64 x4, .int .i64 x5, .bool x6, .int .i64 x7] 25 (0, 0)) := hV 3 (by decide)
    obtain ⟨r, e1⟩ : ∃ r : Int, u 3 = .int .i64 r := hV 4 (by decide)
    have HR := hide hr
    have HB := hide hj.2.1
    clear hr hj hV
    rw [e1]
    go_wp2
    exact bodyPost_ret (v := .tuple #[.agg #[.int .i64 x0, .int .i64 x1, .int .i64 x2, .int .i64 x3, .int .i64 x4, .int .i64 x5, .bool x6, .int .i64 x7], .int .i64 r]) (ret_cell_tmp Tryd.results5 _ _ w.heap.size 25 _ _ _ rfl HR.out Tryd.underlying25 rfl (by kernel_rfl)) rfl ⟨_, _, _, _, _, _, _, _, _, rfl, HB.out⟩
end Go.Proofs.YtaigicdoepdhnacDoor
