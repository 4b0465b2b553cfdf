/-
  Texts put together: DrBn, ChgMath, QnL.
-/
import Derived.Test.YtogeicckbdfldaaDoorN20
import Derived.Test.YtogeicckbdfldaaDoorN1
import Derived.Test.YtogeicckbdfldaaDoorN4
import Derived.Test.YtogeicckbdfldaaDoorN13
/-
  Contract: the drawn document, item and prefix.
-/
namespace Go.Proofs.YtogeicckbdfldaaDoor
open Go.RowKit Go.Joins
set_option linter.unusedVariables false
set_option linter.unusedSimpArgs false
theorem wrap_okB {n : Int} (h1 : -9223372036854775808 ≤ n) (h2 : n ≤ 9223372036854775807) : IntKind.i64.wrap n = n := by
  first | (simp [IntKind.wrap, IntKind.signed, IntKind.bits]; omega) | (unfold IntKind.wrap; simp; omega)
def five (s0 s1 s2 s3 s4 : ByteArray) : Array Value := #[.string s0, .string s1, .string s2, .string s3, .string s4]
def Str5 (G : Nat) (w : World) (b : Nat) : Prop := G < b ∧ ∃ s0 s1 s2 s3 s4 : ByteArray, (s0.size ≤ 8 ∧ s1.size ≤ 8 ∧ s2.size ≤ 8 ∧ s3.size ≤ 8 ∧ s4.size ≤ 8) ∧ w.heap[b]? = some (.cells #[.string s0, .string s1, .string s2, .string s3, .string s4] 9 (0, 0))
theorem str5_go {G : Nat} {w w' : World} {b : Nat} (h : Str5 G w b) (k : ∀ b, G < b → b < w.heap.size → w'.heap[b]? = w.heap[b]?) : Str5 G w' b := by
  obtain ⟨h1, s0, s1, s2, s3, s4, h2, h3⟩ := h
  exact ⟨h1, s0, s1, s2, s3, s4, h2, (k b h1 (lt_some h3)).trans h3⟩
theorem str5_new {G : Nat} {w : World} (h : G < w.heap.size) (s0 s1 s2 s3 s4 : ByteArray) (hs : s0.size ≤ 8 ∧ s1.size ≤ 8 ∧ s2.size ≤ 8 ∧ s3.size ≤ 8 ∧ s4.size ≤ 8) : Str5 G (w.alloc (.cells #[.string s0, .string s1, .string s2, .string s3, .string s4] 9)) w.heap.size := ⟨h, s0, s1, s2, s3, s4, hs, heap_alloc_new w _⟩
theorem str5_cell {G : Nat} {w : World} {b x : Nat} (h : Str5 G w b) (hx : x < 5) : ∃ s : ByteArray, s.size ≤ 8 ∧ w.cell? ⟨b, x, none⟩ = some (.string s) := by
  obtain ⟨h1, s0, s1, s2, s3, s4, ⟨z0, z1, z2, z3, z4⟩, h3⟩ := h
  have hc := cellsAt_cell (w := w) (G := b) (cs := #[.string s0, .string s1, .string s2, .string s3, .string s4]) ⟨_, h3⟩
  rcases (show x = 0 ∨ x = 1 ∨ x = 2 ∨ x = 3 ∨ x = 4 by omega) with e | e | e | e | e
  · subst e; exact ⟨s0, z0, hc 0⟩
  · subst e; exact ⟨s1, z1, hc 1⟩
  · subst e; exact ⟨s2, z2, hc 2⟩
  · subst e; exact ⟨s3, z3, hc 3⟩
  · subst e; exact ⟨s4, z4, hc 4⟩
def bnX (G : Nat) (ad : Option Addr) (m c : Nat) : Nat → Value → World → Prop
  | 0, v, w => v = .slice ad m c
  | 1, v, w => v = .pointer (some ⟨G, 0, none⟩)
  | 2, v, w => v = .slice ad m c
  | 3, v, w => v = .int .i64 (m : Int)
  | 4, v, w => v = .int .i64 ((m : Int) - 1)
  | 5, v, w => ∃ x : Int, v = .int .i64 x
  | 6, v, w => ∃ b, v = .slice (some ⟨b, 0, none⟩) 5 5 ∧ Str5 G w b
  | 7, v, w => v = .pointer (some ⟨G, 0, none⟩)
  | 8, v, w => ∃ x : Nat, x < 5 ∧ v = .int .i64 x
  | 9, v, w => ∃ b x : Nat, x < 5 ∧ v = .pointer (some ⟨b, x, none⟩) ∧ Str5 G w b
  | 10, v, w => ∃ s : ByteArray, s.size ≤ 8 ∧ v = .string s
  | 11, v, w => v = .slice ad m c
  | 12, v, w => ∃ x : Int, v = .int .i64 x
  | 13, v, w => ∃ s : ByteArray, s.size ≤ 8 ∧ v = .string s
  | _, v, w => True
theorem bnX_go {G : Nat} {ad : Option Addr} {m c : Nat} {w w' : World} (k : ∀ b, G < b → b < w.heap.size → w'.heap[b]? = w.heap[b]?) : ∀ (i : Nat) (v : Value), bnX G ad m c i v w → bnX G ad m c i v w'
  | 0, v, h => h
  | 1, v, h => h
  | 2, v, h => h
  | 3, v, h => h
  | 4, v, h => h
  | 5, v, h => h
  | 6, v, h => by obtain ⟨b, e, h⟩ := h; exact ⟨b, e, str5_go h k⟩
  | 7, v, h => h
  | 8, v, h => h
  | 9, v, h => by obtain ⟨b, x, hx, e, h⟩ := h; exact ⟨b, x, hx, e, str5_go h k⟩
  | 10, v, h => h
  | 11, v, h => h
  | 12, v, h => h
  | 13, v, h => h
  | i + 14, v, h => trivial
set_option maxRecDepth 100000 in
set_option maxHeartbeats 2000000 in
theorem d_boundat (a : Option Addr) (n cap : Nat) (zs : List Int) (w : World) (hgrow : ∀ G, GrowAt G a n cap zs) (hl : zs.length = n) (hz : ∀ x ∈ zs, 0 ≤ x ∧ x ≤ 255) (hn : n ≤ 1048576) (hs : SrcAt w a zs w.heap.size) :
    Calls Tryd.prog 20 #[.slice a n cap] w fun e w' => ∃ ad m c D x p, e = .returned (.tuple #[.slice ad m c, .int .i64 x, .string p]) ∧ D.n = m ∧ (1 ≤ m ∧ m ≤ 40) ∧ p.size ≤ 8 ∧ dcTot D ≤ 1048576 ∧ DcAt w' ad D w'.heap.size ∧ Below w.heap.size w w' := by
  have HS := hide hs
  have HL := hide hl
  have HZ := hide hz
  have HGR := hide hgrow
  clear hs hl hz hgrow
  go_enter Tryd.func20, Tryd.ntmps20
  go_wp2_with fail
  refine (d_open a n cap zs _ HL.out HZ.out hn HS.out).mono ?_
  rintro e w1 ⟨rfl, hrd, hb1⟩
  have HRD := hide hrd
  have HB1 := hide hb1
  clear hrd hb1
  obtain ⟨G, hG⟩ : ∃ G, w.heap.size = G := ⟨_, rfl⟩
  rw [hG] at HRD HB1
  rw [hG]
  have HGW := hide hG
  clear hG
  go_wp2_with fail
  refine (d_spaces G a n cap zs _ (HGR.out _) HRD.out).mono ?_
  rintro e w2 ⟨ad, m, c, D, rfl, hg, hm1, hm2⟩
  have HGS := hide hg
  clear hg
  go_upto_region 3 with fail
  refine wp_region_inv (by kernel_rfl) (by kernel_rfl) (fun u => { tmps := #[.slice a n cap, undef, u 2, u 3, u 4, .pointer (some ⟨G, 0, none⟩), .slice ad m c, .slice a n cap, .pointer (some ⟨G, 0, none⟩), .pointer (some ⟨G, 0, none⟩), .slice ad m c, u 11, u 12, u 13, u 14, u 15, u 16, u 17, u 18, u 19, u 20, u 21], defers := [] }) (fun i => if i ≤ 10 then 11 + i else i - 9) (bnX G ad m c) (fun w' => GSB G a n cap zs w1 w' ad m c D) (fun k => #[undef, undef, .slice none 0 0, .int .i64 0, .string ⟨#[]⟩].getD k undef) (gs_belowB HGS.out ⟨rfl, rfl, rfl, Nat.le_refl _, fun _ _ => rfl⟩) ?hput ?hD ?step ?done
  case hput =>
    intro i o ho u v
    have hi := (Array.getElem?_eq_some_iff.1 ho).1
    have hi' : i < 14 := hi
    clear hi
    rcases (show i = 0 ∨ i = 1 ∨ i = 2 ∨ i = 3 ∨ i = 4 ∨ i = 5 ∨ i = 6 ∨ i = 7 ∨ i = 8 ∨ i = 9 ∨ i = 10 ∨ i = 11 ∨ i = 12 ∨ i = 13 by omega) with e | e | e | e | e | e | e | e | e | e | e | e | e | e
    all_goals
      subst e
      obtain rfl := Option.some.inj ho
      rfl
  case hD =>
    intro i k hi hk hne
    have hi' : i < 14 := hi
    have hk' : k < 14 := hk
    split <;> split <;> omega
  case step =>
    intro i o ho u v hj hV K9 hK
    have hi := (Array.getElem?_eq_some_iff.1 ho).1
    have hi' : i < 14 := hi
    clear hi
    rcases (show i = 0 ∨ i = 1 ∨ i = 2 ∨ i = 3 ∨ i = 4 ∨ i = 5 ∨ i = 6 ∨ i = 7 ∨ i = 8 ∨ i = 9 ∨ i = 10 ∨ i = 11 ∨ i = 12 ∨ i = 13 by omega) with e | e | e | e | e | e | e | e | e | e | e | e | e | e
    all_goals
      subst e
      obtain rfl := Option.some.inj ho
      clear ho hi'
      try dsimp only at hV hK ⊢
    · have HJ := hide hj
      have hGs := gs_sizeB hj
      clear hj hV
      go_simp
      exact hK _ _ HJ.out rfl (fun _ _ h => h)
    · have HJ := hide hj
      have hGs := gs_sizeB hj
      clear hj hV
      go_simp
      exact hK _ _ HJ.out rfl (fun _ _ h => h)
    · have HJ := hide hj
      have hGs := gs_sizeB hj
      clear hj hV
      go_simp
      exact hK _ _ HJ.out rfl (fun _ _ h => h)
    · have HJ := hide hj
      have hGs := gs_sizeB hj
      obtain h2 : bnX G ad m c 2 (u 13) v := hV ⟨2, .data⟩ (by simp) rfl
      clear hj hV
      rw [h2] at hK ⊢
      go_simp
      exact hK _ _ HJ.out rfl (fun _ _ h => h)
    · have HJ := hide hj
      have hGs := gs_sizeB hj
      obtain h3 : bnX G ad m c 3 (u 14) v := hV ⟨3, .data⟩ (by simp) rfl
      clear hj hV
      rw [h3] at hK ⊢
      go_simp
      exact hK _ _ HJ.out (congrArg (Value.int .i64) (wrap_okB (by omega) (by omega))) (fun _ _ h => h)
    · have HJ := hide hj
      have hGs := gs_sizeB hj
      obtain h1 : bnX G ad m c 1 (u 12) v := hV ⟨1, .data⟩ (by simp) rfl
      obtain h4 : bnX G ad m c 4 (u 15) v := hV ⟨4, .data⟩ (by simp) rfl
      clear hj hV
      rw [h1, h4] at hK ⊢
      go_simp
      refine (d_offG G a n cap zs 0 ((m : Int) - 1) _ (by omega) (by omega) (by omega) HJ.out.1).mono ?_
      rintro e v1 ⟨x, rfl, hd⟩
      exact hK _ _ (gs_drewB HJ.out hd) ⟨x, rfl⟩ (bnX_go (drew_keeps hd))
    · have HJ := hide hj
      have hGs := gs_sizeB hj
      clear hj hV
      go_simp
      exact hK _ _ (gs_allocB HJ.out _) ⟨_, rfl, str5_new hGs _ _ _ _ _ (by decide)⟩ (bnX_go (alloc_keeps G v _))
    · have HJ := hide hj
      have hGs := gs_sizeB hj
      clear hj hV
      go_simp
      exact hK _ _ HJ.out rfl (fun _ _ h => h)
    · have HJ := hide hj
      have hGs := gs_sizeB hj
      obtain h7 : bnX G ad m c 7 (u 18) v := hV ⟨7, .data⟩ (by simp) rfl
      clear hj hV
      rw [h7] at hK ⊢
      go_simp
      refine (d_below G a n cap zs 5 _ (by omega) (by omega) HJ.out.1).mono ?_
      rintro e v1 ⟨x, hx0, hx1, rfl, hd⟩
      exact hK _ _ (gs_drewB HJ.out hd) ⟨x.toNat, by omega, by congr 1; omega⟩ (bnX_go (drew_keeps hd))
    · have HJ := hide hj
      have hGs := gs_sizeB hj
      obtain ⟨b6, h6, s6⟩ : bnX G ad m c 6 (u 17) v := hV ⟨6, .data⟩ (by simp) rfl
      obtain ⟨x8, l8, h8⟩ : bnX G ad m c 8 (u 19) v := hV ⟨8, .data⟩ (by simp) rfl
      have hlt5 : (x8 : Int) < 5 := by omega
      clear hj hV
      rw [h6, h8] at hK ⊢
      go_simp
      exact hK _ _ HJ.out ⟨b6, x8, l8, rfl, s6⟩ (fun _ _ h => h)
    · have HJ := hide hj
      have hGs := gs_sizeB hj
      obtain ⟨b9, x9, l9, h9, s9⟩ : bnX G ad m c 9 (u 20) v := hV ⟨9, .data⟩ (by simp) rfl
      obtain ⟨q, hq, hcell⟩ := str5_cell s9 l9
      clear hj hV
      rw [h9] at hK ⊢
      go_simp
      exact hK _ _ HJ.out ⟨q, hq, rfl⟩ (fun _ _ h => h)
    · have HJ := hide hj
      have hGs := gs_sizeB hj
      obtain h0 : bnX G ad m c 0 (u 11) v := hV ⟨0, .data⟩ (by simp) rfl
      clear hj hV
      rw [h0] at hK ⊢
      go_simp
      exact hK _ _ HJ.out rfl (fun _ _ h => h)
    · have HJ := hide hj
      have hGs := gs_sizeB hj
      obtain ⟨x5, h5⟩ : bnX G ad m c 5 (u 16) v := hV ⟨5, .data⟩ (by simp) rfl
      clear hj hV
      rw [h5] at hK ⊢
      go_simp
      exact hK _ _ HJ.out ⟨x5, rfl⟩ (fun _ _ h => h)
    · have HJ := hide hj
      have hGs := gs_sizeB hj
      obtain ⟨t10, z10, h10⟩ : bnX G ad m c 10 (u 21) v := hV ⟨10, .data⟩ (by simp) rfl
      clear hj hV
      rw [h10] at hK ⊢
      go_simp
      exact hK _ _ HJ.out ⟨t10, z10, rfl⟩ (fun _ _ h => h)
  case done =>
    intro u v hj hV
    have h11 : u 2 = .slice ad m c := hV 11 (by decide)
    obtain ⟨x, h12⟩ : bnX G ad m c 12 (u 3) v := hV 12 (by decide)
    obtain ⟨p, hp, h13⟩ : bnX G ad m c 13 (u 4) v := hV 13 (by decide)
    have HJ := hide hj
    clear hj hV
    rw [h11, h12, h13]
    go_wp2
    go_ret3
    exact ⟨ad, m, c, D, x, p, rfl, (drIt_dcB HJ.out.2.1).1, ⟨hm1, hm2⟩, hp, drIt_totB HJ.out.2.1 (by omega), (drIt_dcB HJ.out.2.1).2, by rw [HGW.out]; exact HB1.out.trans HJ.out.2.2.1⟩
end Go.Proofs.YtogeicckbdfldaaDoor

/-
  Plain facts, of no program: what has become of memory where only some blocks were written; the shape of rows of items and attributes.
-/
namespace Go.Proofs.YtogeicckbdfldaaDoor
open Go.RowKit Go.Joins
set_option linter.unusedVariables false
set_option linter.unusedSimpArgs false
/-- Of the blocks that were there only those from lo up to hi (without it) may have been written; all keep their shape. -/
structure Chg (lo hi : Nat) (w w' : World) : Prop where
  os : w'.os = w.os
  tape : w'.tape = w.tape
  output : w'.output = w.output
  size : w.heap.size ≤ w'.heap.size
  block : ∀ j, j < w.heap.size → (j < lo ∨ hi ≤ j) → w'.heap[j]? = w.heap[j]?
  shape : ∀ (j : Nat) (cs : Array Value) (T : TypeId), w.heap[j]? = some (Obj.cells cs T (0, 0)) → ∃ cs' : Array Value, w'.heap[j]? = some (Obj.cells cs' T (0, 0)) ∧ cs'.size = cs.size
theorem Chg.refl (lo hi : Nat) (w : World) : Chg lo hi w w := ⟨rfl, rfl, rfl, Nat.le_refl _, fun _ _ _ => rfl, fun j cs T h => ⟨cs, h, rfl⟩⟩
theorem Chg.trans {lo hi : Nat} {w w1 w2 : World} (h1 : Chg lo hi w w1) (h2 : Chg lo hi w1 w2) : Chg lo hi w w2 :=
  ⟨h2.os.trans h1.os, h2.tape.trans h1.tape, h2.output.trans h1.output, Nat.le_trans h1.size h2.size, fun j hj hc => (h2.block j (Nat.lt_of_lt_of_le hj h1.size) hc).trans (h1.block j hj hc), fun j cs T h => by
    obtain ⟨c1, e1, s1⟩ := h1.shape j cs T h
    obtain ⟨c2, e2, s2⟩ := h2.shape j c1 T e1
    exact ⟨c2, e2, s2.trans s1⟩⟩
theorem Chg.wide {lo hi lo' hi' : Nat} {w w' : World} (h : Chg lo hi w w') (h1 : lo' ≤ lo) (h2 : hi ≤ hi') : Chg lo' hi' w w' :=
  ⟨h.os, h.tape, h.output, h.size, fun j hj hc => h.block j hj (by omega), h.shape⟩
theorem chg_below {lo hi : Nat} {w w' : World} (h : Below w.heap.size w w') : Chg lo hi w w' := ⟨h.os, h.tape, h.output, h.size, fun j hj _ => h.block j hj, fun j cs T e => ⟨cs, (h.block j (Array.getElem?_eq_some_iff.1 e).1).trans e, rfl⟩⟩
theorem chg_set {lo hi : Nat} {w : World} (G i : Nat) (v : Value) (h1 : lo ≤ G) (h2 : G < hi) : Chg lo hi w (w.setCell ⟨G, i, none⟩ v) :=
  ⟨rfl, rfl, rfl, by rw [heap_setCell_size]; exact Nat.le_refl _, fun j hj hc => heap_setCell_far _ _ _ _ (by show G ≠ j; omega), fun j cs T e => by
    by_cases h : G = j
    · subst h; exact ⟨_, block_setCell e v, by simp⟩
    · exact ⟨cs, (heap_setCell_far _ _ _ _ h).trans e, rfl⟩⟩
theorem below_chg {b lo hi : Nat} {w w1 w2 : World} (h : Below b w w1) (hbw : b ≤ w.heap.size) (hlo : b ≤ lo) (k : Chg lo hi w1 w2) : Below b w w2 :=
  ⟨k.os.trans h.os, k.tape.trans h.tape, k.output.trans h.output, Nat.le_trans h.size k.size, fun j hj => (k.block j (Nat.lt_of_lt_of_le (Nat.lt_of_lt_of_le hj hbw) h.size) (.inl (by omega))).trans (h.block j hj)⟩
/-- Block G has room for m attributes. -/
def ShA (w : World) (G m : Nat) : Prop := ∃ cs T, w.heap[G]? = some (.cells cs T (0, 0)) ∧ cs.size = m * 2
theorem shA_chg {lo hi : Nat} {w w' : World} {G m : Nat} (h : ShA w G m) (k : Chg lo hi w w') : ShA w' G m := by
  obtain ⟨cs, T, h1, h2⟩ := h
  obtain ⟨cs', h3, h4⟩ := k.shape G cs T h1
  exact ⟨cs', T, h3, by omega⟩
theorem shA_cell {w : World} {G m : Nat} (h : ShA w G m) (i : Nat) (hi : i < m * 2) : (∃ v, w.cell? ⟨G, i, none⟩ = some v) ∧ w.frozen? ⟨G, i, none⟩ = false := by
  obtain ⟨cs, T, h1, h2⟩ := h
  refine ⟨⟨cs[i]'(by omega), ?_⟩, by simp [World.frozen?, h1]⟩
  rw [cell_of_row w G i _ T (0, 0) h1, Array.getElem?_eq_getElem (by omega)]
/-- Block g has n items, each with its attributes in a block of its own. -/
def ShI (w : World) (g n : Nat) (AC : Nat → Nat) (lo hi : Nat) : Prop := ∃ cs T, w.heap[g]? = some (.cells cs T (0, 0)) ∧ cs.size = n * 4 ∧ (lo ≤ g ∧ g < hi) ∧ ∀ j, j < n → ∃ G, (lo ≤ G ∧ G < hi ∧ G ≠ g) ∧ cs[j * 4 + 3]? = some (.slice (some ⟨G, 0, none⟩) (AC j) (AC j)) ∧ ShA w G (AC j)
theorem shI_go {w w' : World} {g n lo hi lo' hi' : Nat} {AC : Nat → Nat} (h : ShI w g n AC lo hi) (k : Chg lo' hi' w w') (hg : g < lo' ∨ hi' ≤ g) : ShI w' g n AC lo hi := by
  obtain ⟨cs, T, h1, h2, h3, h4⟩ := h
  refine ⟨cs, T, (k.block g (Array.getElem?_eq_some_iff.1 h1).1 hg).trans h1, h2, h3, fun j hj => ?_⟩
  obtain ⟨G, q1, q2, q3⟩ := h4 j hj
  exact ⟨G, q1, q2, shA_chg q3 k⟩
theorem shI_set {w : World} {g n lo hi i : Nat} {AC : Nat → Nat} (h : ShI w g n AC lo hi) (v : Value) (hi' : ∀ j, j * 4 + 3 ≠ i) : ShI (w.setCell ⟨g, i, none⟩ v) g n AC lo hi := by
  obtain ⟨cs, T, h1, h2, h3, h4⟩ := h
  refine ⟨_, T, block_setCell h1 v, by simpa using h2, h3, fun j hj => ?_⟩
  obtain ⟨G, q1, q2, q3⟩ := h4 j hj
  refine ⟨G, q1, ?_, shA_chg q3 (chg_set (lo := g) (hi := g + 1) g i v (Nat.le_refl _) (by omega))⟩
  rw [Array.getElem?_setIfInBounds_ne (by have := hi' j; omega)]
  exact q2
theorem shI_cell {w : World} {g n lo hi : Nat} {AC : Nat → Nat} (h : ShI w g n AC lo hi) (i : Nat) (hi' : i < n * 4) : (∃ v, w.cell? ⟨g, i, none⟩ = some v) ∧ w.frozen? ⟨g, i, none⟩ = false := by
  obtain ⟨cs, T, h1, h2, -⟩ := h
  refine ⟨⟨cs[i]'(by omega), ?_⟩, by simp [World.frozen?, h1]⟩
  rw [cell_of_row w g i _ T (0, 0) h1, Array.getElem?_eq_getElem (by omega)]
theorem shI_at {w : World} {g n lo hi : Nat} {AC : Nat → Nat} (h : ShI w g n AC lo hi) (j : Nat) (hj : j < n) : ∃ G, (lo ≤ G ∧ G < hi ∧ G ≠ g) ∧ w.cell? ⟨g, j * 4 + 3, none⟩ = some (.slice (some ⟨G, 0, none⟩) (AC j) (AC j)) ∧ ShA w G (AC j) := by
  obtain ⟨cs, T, h1, h2, -, h4⟩ := h
  obtain ⟨G, q1, q2, q3⟩ := h4 j hj
  exact ⟨G, q1, by rw [cell_of_row w g _ _ T (0, 0) h1]; exact q2, q3⟩
theorem shI_in {w : World} {g n lo hi : Nat} {AC : Nat → Nat} (h : ShI w g n AC lo hi) : lo ≤ g ∧ g < hi := by
  obtain ⟨cs, T, -, -, h3, -⟩ := h
  exact h3
theorem own_shA {w : World} {B g n t : Nat} {xs : List Value} (h : w.ownsRow B t 2 (.slice (some ⟨g, 0, none⟩) n n) n xs) : ShA w g n := by
  rcases h.2 with ⟨hv, -⟩ | ⟨g', cap, cur, hv, -, hg, -, -, hs, -⟩
  · cases hv
  · simp only [Value.slice.injEq, Option.some.injEq, Addr.mk.injEq] at hv
    obtain ⟨⟨rfl, -⟩, -, rfl⟩ := hv
    exact ⟨cur, t, hg, hs⟩
end Go.Proofs.YtogeicckbdfldaaDoor

/-
  Contracts of the laws' helpers on rows of names: that two that are alike are told so, marks on all places, and whether they are still there; a name among others.
-/
namespace Go.Proofs.YtogeicckbdfldaaDoor
open Go.RowKit Go.Joins
set_option linter.unusedVariables false
set_option linter.unusedSimpArgs false
/-- A row of pairs of texts that the call owns. -/
def OwnQ (B : Nat) (w : World) (ad : Option Addr) (m c : Nat) (N V : Nat → ByteArray) : Prop := ∃ xs, w.ownsRow B 41 2 (.slice ad m c) m xs ∧ PairsS xs m N V
section
variable {B m c : Nat} {w w' : World} {ad : Option Addr} {N V : Nat → ByteArray}
theorem ownQ_at (h : OwnQ B w ad m c N V) : AtAt w ad m N V w.heap.size := fun h0 => by
  obtain ⟨xs, h, hp⟩ := h
  rcases h.2 with ⟨hv, h9⟩ | ⟨g, cap, cur, hv, hB, hg, rest⟩
  · omega
  · simp only [Value.slice.injEq] at hv
    obtain ⟨rfl, _, rfl⟩ := hv
    refine ⟨g, 0, rfl, (h.lt g rfl).2, fun j hj => ⟨?_, ?_⟩⟩
    · rw [Nat.zero_add, h.cellAt (j * 2) (by omega)]; exact (hp j hj).1
    · rw [Nat.zero_add, h.cellAt (j * 2 + 1) (by omega)]; exact (hp j hj).2
theorem ownQ_go (h : OwnQ B w ad m c N V) (hb : Below w.heap.size w w') : OwnQ B w' ad m c N V := by
  obtain ⟨xs, h, hp⟩ := h
  exact ⟨xs, gOwn_after h hb, hp⟩
theorem ownQ_lt (h : OwnQ B w ad m c N V) : ∀ k, (Value.slice ad m c).ownBlock = some k → B ≤ k ∧ k < w.heap.size := by
  obtain ⟨xs, h, hp⟩ := h
  exact h.lt
theorem ownQ_lower {B' : Nat} (h : OwnQ B w ad m c N V) (hB : B' ≤ B) : OwnQ B' w ad m c N V := by
  obtain ⟨xs, h, hp⟩ := h
  exact ⟨xs, gOwn_lower h hB, hp⟩
theorem ownQ_none (B : Nat) (w : World) (N V : Nat → ByteArray) : OwnQ B w none 0 0 N V := ⟨[], ⟨rfl, .inl ⟨rfl, rfl⟩⟩, fun j h => by omega⟩
theorem ownQ_stays {X : Nat} (h : OwnQ B w ad m c N V) (hb : Below X w w') (hX : ∀ k, (Value.slice ad m c).ownBlock = some k → k < X) : OwnQ B w' ad m c N V := by
  obtain ⟨xs, h, hp⟩ := h
  refine ⟨xs, ⟨h.1, ?_⟩, hp⟩
  rcases h.2 with hn | ⟨g, cap, cur, hv, hB, hg, rest⟩
  · exact .inl hn
  · refine .inr ⟨g, cap, cur, hv, hB, ?_, rest⟩
    rw [hb.block g (hX g (by rw [hv]; rfl))]; exact hg
theorem ownQ_chg {lo hi : Nat} (h : OwnQ B w ad m c N V) (k : Chg lo hi w w') (hX : ∀ j, (Value.slice ad m c).ownBlock = some j → j < lo ∨ hi ≤ j) : OwnQ B w' ad m c N V := by
  obtain ⟨xs, h, hp⟩ := h
  refine ⟨xs, ⟨h.1, ?_⟩, hp⟩
  rcases h.2 with hn | ⟨g, cap, cur, hv, hB, hg, rest⟩
  · exact .inl hn
  · refine .inr ⟨g, cap, cur, hv, hB, ?_, rest⟩
    rw [k.block g (Array.getElem?_eq_some_iff.1 hg).1 (hX g (by rw [hv]; rfl))]; exact hg
end
/-- The digits of a number. -/
def mtT (x : Nat) : ByteArray := if h : 0 < x then mtT (x / 10) ++ strOfNums [48 + (x : Int) % 10] else ⟨#[]⟩
termination_by x
theorem mtT_pos {x : Nat} (h : 0 < x) : mtT x = mtT (x / 10) ++ strOfNums [48 + (x : Int) % 10] := by rw [mtT, dif_pos h]
theorem mtT_zero : mtT 0 = ⟨#[]⟩ := by rw [mtT, dif_neg (by omega)]
def mkT (k : Nat) : ByteArray := ⟨#[109]⟩ ++ mtT k
def mkN (k : Nat) (j : Nat) : ByteArray := mkT (k + 2 * j)
def mkV (k : Nat) (j : Nat) : ByteArray := mkT (k + 2 * j + 1)
/-- While a place is held against its mark. -/
def HQ (w w' : World) (p : Addr) (x : ByteArray) : Prop := Below w.heap.size w w' ∧ p.block < w.heap.size ∧ w'.cell? p = some (.string x)
theorem hq_go {w w1 w2 : World} {p : Addr} {x : ByteArray} (h : HQ w w1 p x) (k : Below w1.heap.size w1 w2) : HQ w w2 p x :=
  ⟨h.1.trans (k.mono h.1.size), h.2.1, (k.cell (p := p) (Nat.lt_of_lt_of_le h.2.1 h.1.size)).trans h.2.2⟩
theorem hq_drew {w w1 : World} {p : Addr} {x : ByteArray} (h : HQ w w1 p x) : HQ w w1.drew p x := hq_go h ⟨rfl, rfl, rfl, Nat.le_refl _, fun _ _ => rfl⟩
theorem hq_all {w w1 : World} {p : Addr} {x : ByteArray} (h : HQ w w1 p x) : HQ w w1 p x ∧ w1.cell? p = some (.string x) := ⟨h, h.2.2⟩
theorem below_dq {b : Nat} {w w1 : World} (h : Below b w w1) : Below b w w1.drew := ⟨h.os, h.tape, h.output, h.size, h.block⟩
/-- A pair of texts among those of a row. -/
def anyQ (m : Nat) (N V : Nat → ByteArray) (x y : ByteArray) : Bool := (List.range m).any fun k => sameS x (N k) && sameS y (V k)
theorem anyQ_hit {m k : Nat} {N V : Nat → ByteArray} {x y : ByteArray} (hk : k < m) (h : (sameS x (N k) && sameS y (V k)) = true) : anyQ m N V x y = true := by
  unfold anyQ
  rw [List.any_eq_true]
  exact ⟨k, by simpa using hk, h⟩
theorem anyQ_no {m : Nat} {N V : Nat → ByteArray} {x y : ByteArray} (h : ∀ k, k < m → (sameS x (N k) && sameS y (V k)) = false) : anyQ m N V x y = false := by
  unfold anyQ
  rw [List.any_eq_false]
  intro k hk
  have := h k (by simpa using hk)
  rw [this]
  decide
set_option maxHeartbeats 2000000 in
theorem i_indexQ (a : Option Addr) (n c : Nat) (N V : Nat → ByteArray) (x y : ByteArray) (w : World) (hn : n ≤ 1048576) (hr : AtAt w a n N V w.heap.size) :
    Calls Tryd.prog 75 #[.slice a n c, .agg #[.string x, .string y]] w fun e w' => ∃ z : Int, e = .returned (.int .i64 z) ∧ decide (0 ≤ z) = anyQ n N V x y ∧ Below w.heap.size w w' := by
  have HR := hide hr
  clear hr
  go_enter Tryd.func75, Tryd.ntmps75
  go_wp2
  go_loopw [8] (fun i wr => ∃ k : Nat, k ≤ n ∧ i = .int .i64 k ∧ Hid (Below (w.heap.size + 1) (w.alloc (.cells #[.string x, .string y] 41)) wr) ∧ Hid (∀ j, j < k → (sameS x (N j) && sameS y (V j)) = false)) (fun i _ => n - (intOf i).toNat)
  case atStart => exact ⟨0, Nat.zero_le _, rfl, hide (Below.refl _ _), fun j h => by omega⟩
  case round =>
    obtain ⟨k, hk, rfl, HB, HM⟩ := hrel
    have HBw := hide (((Below.refl w.heap.size w).alloc (Nat.le_refl _) _).trans (HB.out.mono (Nat.le_succ _)))
    by_cases hlt : k < n
    · obtain ⟨b, off, rfl, hbs, hc⟩ := HR.out (by omega)
      have c0 : wr.cell? ⟨b, off + k * 2, none⟩ = some (.string (N k)) := (HBw.out.cell hbs).trans (hc k hlt).1
      have c1 : wr.cell? ⟨b, off + k * 2 + 1, none⟩ = some (.string (V k)) := (HBw.out.cell hbs).trans (hc k hlt).2
      have hx := cellsAt_go (cellsAt_new w #[.string x, .string y] 41) HB.out (by omega)
      have x0 : wr.cell? ⟨w.heap.size, 0, none⟩ = some (.string x) := cellsAt_cell hx 0
      have x1 : wr.cell? ⟨w.heap.size, 1, none⟩ = some (.string y) := cellsAt_cell hx 1
      have hi : (k : Int) < (n : Int) := by omega
      have hi0 : (0 : Int) ≤ (k : Int) := by omega
      clear hc hx
      by_cases e1 : x.toList = (N k).toList
      · by_cases e2 : y.toList = (V k).toList
        · have HA := hide (anyQ_hit (m := n) (k := k) (N := N) (V := V) (x := x) (y := y) hlt (by unfold sameS; rw [e1, e2]; simp))
          go_wp2
          go_region
          go_wp2
          go_ret
          exact ⟨k, rfl, by rw [HA.out]; simp, below_dq HBw.out⟩
        · have HE : Hid ((sameS x (N k) && sameS y (V k)) = false) := hide (by unfold sameS; rw [beq_eq_false_iff_ne.2 e2]; simp)
          go_wp2
          go_region
          go_wp2
          go_roundw
          case rel =>
            refine ⟨k + 1, by omega, by go_num, hide (below_dq HB.out), fun j hj => ?_⟩
            by_cases e : j = k
            · subst e; exact HE.out
            · exact HM.out j (by omega)
          case measure => simp [intOf]; omega
      · have HE : Hid ((sameS x (N k) && sameS y (V k)) = false) := hide (by unfold sameS; rw [beq_eq_false_iff_ne.2 e1]; simp)
        go_wp2
        go_region
        go_wp2
        go_roundw
        case rel =>
          refine ⟨k + 1, by omega, by go_num, hide (below_dq HB.out), fun j hj => ?_⟩
          by_cases e : j = k
          · subst e; exact HE.out
          · exact HM.out j (by omega)
        case measure => simp [intOf]; omega
    · have hkn : k = n := by omega
      subst hkn
      go_wp2
      go_ret
      exact ⟨-1, rfl, by rw [anyQ_no HM.out]; rfl, HBw.out⟩
set_option maxHeartbeats 1000000 in
theorem i_hasQ (a : Option Addr) (n c : Nat) (N V : Nat → ByteArray) (x y : ByteArray) (w : World) (hn : n ≤ 1048576) (hr : AtAt w a n N V w.heap.size) :
    Calls Tryd.prog 63 #[.slice a n c, .agg #[.string x, .string y]] w fun e w' => e = .returned (.bool (anyQ n N V x y)) ∧ Below w.heap.size w w' := by
  have C := hide (i_indexQ a n c N V x y _ hn (atAt_up (atAt_go hr ((Below.refl _ _).alloc (Nat.le_refl _) (.cells #[.string x, .string y] 41))) (by simp)))
  clear hr
  go_enter Tryd.func63, Tryd.ntmps63
  go_wp2_with fail
  refine C.out.mono ?_
  rintro e w2 ⟨z, rfl, hz, hb⟩
  have HZ := hide hz
  have HB := hide (gBox_below hb)
  clear hz hb
  go_wp2
  go_ret
  exact ⟨ret_bool HZ.out, HB.out⟩
end Go.Proofs.YtogeicckbdfldaaDoor
