/-
  Contract: the drawn document, item and prefix.
-/
import Derived.Test.YtogeicckbdfldaaDoorSpS
namespace Go.Proofs.YtogeicckbdfldaaDoor
open Go.RowKit Go.Joins
set_option linter.unusedVariables false
set_option linter.unusedSimpArgs false
theorem wrap_okB {n : Int} (h1 : -9223372036854775808 ≤ n) (h2 : n ≤ 9223372036854775807) : IntKind.i64.wrap n = n := by
  first | (simp [IntKind.wrap, IntKind.signed, IntKind.bits]; omega) | (unfold IntKind.wrap; simp; omega)
def five (s0 s1 s2 s3 s4 : ByteArray) : Array Value := #[.string s0, .string s1, .string s2, .string s3, .string s4]
def Str5 (G : Nat) (w : World) (b : Nat) : Prop := G < b ∧ ∃ s0 s1 s2 s3 s4 : ByteArray, (s0.size ≤ 8 ∧ s1.size ≤ 8 ∧ s2.size ≤ 8 ∧ s3.size ≤ 8 ∧ s4.size ≤ 8) ∧ w.heap[b]? = some (.cells #[.string s0, .string s1, .string s2, .string s3, .string s4] 9 (0, 0))
theorem str5_go {G : Nat} {w w' : World} {b : Nat} (h : Str5 G w b) (k : ∀ b, G < b → b < w.heap.size → w'.heap[b]? = w.heap[b]?) : Str5 G w' b := by
  obtain ⟨h1, s0, s1, s2, s3, s4, h2, h3⟩ := h
  exact ⟨h1, s0, s1, s2, s3, s4, h2, (k b h1 (lt_some h3)).trans h3⟩
theorem str5_new {G : Nat} {w : World} (h : G < w.heap.size) (s0 s1 s2 s3 s4 : ByteArray) (hs : s0.size ≤ 8 ∧ s1.size ≤ 8 ∧ s2.size ≤ 8 ∧ s3.size ≤ 8 ∧ s4.size ≤ 8) : Str5 G (w.alloc (.cells #[.string s0, .string s1, .string s2, .string s3, .string s4] 9)) w.heap.size := ⟨h, s0, s1, s2, s3, s4, hs, heap_alloc_new w _⟩
theorem str5_cell {G : Nat} {w : World} {b x : Nat} (h : Str5 G w b) (hx : x < 5) : ∃ s : ByteArray, s.size ≤ 8 ∧ w.cell? ⟨b, x, none⟩ = some (.string s) := by
  obtain ⟨h1, s0, s1, s2, s3, s4, ⟨z0, z1, z2, z3, z4⟩, h3⟩ := h
  have hc := cellsAt_cell (w := w) (G := b) (cs := #[.string s0, .string s1, .string s2, .string s3, .string s4]) ⟨_, h3⟩
  rcases (show x = 0 ∨ x = 1 ∨ x = 2 ∨ x = 3 ∨ x = 4 by omega) with e | e | e | e | e
  · subst e; exact ⟨s0, z0, hc 0⟩
  · subst e; exact ⟨s1, z1, hc 1⟩
  · subst e; exact ⟨s2, z2, hc 2⟩
  · subst e; exact ⟨s3, z3, hc 3⟩
  · subst e; exact ⟨s4, z4, hc 4⟩
def bnX (G : Nat) (ad : Option Addr) (m c : Nat) : Nat → Value → World → Prop
  | 0, v, w => v = .slice ad m c
  | 1, v, w => v = .pointer (some ⟨G, 0, none⟩)
  | 2, v, w => v = .slice ad m c
  | 3, v, w => v = .int .i64 (m : Int)
  | 4, v, w => v = .int .i64 ((m : Int) - 1)
  | 5, v, w => ∃ x : Int, v = .int .i64 x
  | 6, v, w => ∃ b, v = .slice (some ⟨b, 0, none⟩) 5 5 ∧ Str5 G w b
  | 7, v, w => v = .pointer (some ⟨G, 0, none⟩)
  | 8, v, w => ∃ x : Nat, x < 5 ∧ v = .int .i64 x
  | 9, v, w => ∃ b x : Nat, x < 5 ∧ v = .pointer (some ⟨b, x, none⟩) ∧ Str5 G w b
  | 10, v, w => ∃ s : ByteArray, s.size ≤ 8 ∧ v = .string s
  | 11, v, w => v = .slice ad m c
  | 12, v, w => ∃ x : Int, v = .int .i64 x
  | 13, v, w => ∃ s : ByteArray, s.size ≤ 8 ∧ v = .string s
  | _, v, w => True
theorem bnX_go {G : Nat} {ad : Option Addr} {m c : Nat} {w w' : World} (k : ∀ b, G < b → b < w.heap.size → w'.heap[b]? = w.heap[b]?) : ∀ (i : Nat) (v : Value), bnX G ad m c i v w → bnX G ad m c i v w'
  | 0, v, h => h
  | 1, v, h => h
  | 2, v, h => h
  | 3, v, h => h
  | 4, v, h => h
  | 5, v, h => h
  | 6, v, h => by obtain ⟨b, e, h⟩ := h; exact ⟨b, e, str5_go h k⟩
  | 7, v, h => h
  | 8, v, h => h
  | 9, v, h => by obtain ⟨b, x, hx, e, h⟩ := h; exact ⟨b, x, hx, e, str5_go h k⟩
  | 10, v, h => h
  | 11, v, h => h
  | 12, v, h => h
  | 13, v, h => h
  | i + 14, v, h => trivial
set_option maxRecDepth 100000 in
set_option maxHeartbeats 2000000 in
theorem d_boundat (a : Option Addr) (n cap : Nat) (zs : List Int) (w : World) (hgrow : ∀ G, GrowAt G a n cap zs) (hl : zs.length = n) (hz : ∀ x ∈ zs, 0 ≤ x ∧ x ≤ 255) (hn : n ≤ 1048576) (hs : SrcAt w a zs w.heap.size) :
    Calls Tryd.prog 20 #[.slice a n cap] w fun e w' => ∃ ad m c D x p, e = .returned (.tuple #[.slice ad m c, .int .i64 x, .string p]) ∧ D.n = m ∧ (1 ≤ m ∧ m ≤ 40) ∧ p.size ≤ 8 ∧ dcTot D ≤ 1048576 ∧ DcAt w' ad D w'.heap.size ∧ Below w.heap.size w w' := by
  have HS := hide hs
  have HL := hide hl
  have HZ := hide hz
  have HGR := hide hgrow
  clear hs hl hz hgrow
  go_enter Tryd.func20, Tryd.ntmps20
  go_wp2_with fail
  refine (d_open a n cap zs _ HL.out HZ.out hn HS.out).mono ?_
  rintro e w1 ⟨rfl, hrd, hb1⟩
  have HRD := hide hrd
  have HB1 := hide hb1
  clear hrd hb1
  obtain ⟨G, hG⟩ : ∃ G, w.heap.size = G := ⟨_, rfl⟩
  rw [hG] at HRD HB1
  rw [hG]
  have HGW := hide hG
  clear hG
  go_wp2_with fail
  refine (d_spaces G a n cap zs _ (HGR.out _) HRD.out).mono ?_
  rintro e w2 ⟨ad, m, c, D, rfl, hg, hm1, hm2⟩
  have HGS := hide hg
  clear hg
  go_upto_region 3 with fail
  refine wp_region_inv (by kernel_rfl) (by kernel_rfl) (fun u => { tmps := #[.slice a n cap, undef, u 2, u 3, u 4, .pointer (some ⟨G, 0, none⟩), .slice ad m c, .slice a n cap, .pointer (some ⟨G, 0, none⟩), .pointer (some ⟨G, 0, none⟩), .slice ad m c, u 11, u 12, u 13, u 14, u 15, u 16, u 17, u 18, u 19, u 20, u 21], defers := [] }) (fun i => if i ≤ 10 then 11 + i else i - 9) (bnX G ad m c) (fun w' => GSB G a n cap zs w1 w' ad m c D) (fun k => #[undef, undef, .slice none 0 0, .int .i64 0, .string ⟨#[]⟩].getD k undef) (gs_belowB HGS.out ⟨rfl, rfl, rfl, Nat.le_refl _, fun _ _ => rfl⟩) ?hput ?hD ?step ?done
  case hput =>
    intro i o ho u v
    have hi := (Array.getElem?_eq_some_iff.1 ho).1
    have hi' : i < 14 := hi
    clear hi
    rcases (show i = 0 ∨ i = 1 ∨ i = 2 ∨ i = 3 ∨ i = 4 ∨ i = 5 ∨ i = 6 ∨ i = 7 ∨ i = 8 ∨ i = 9 ∨ i = 10 ∨ i = 11 ∨ i = 12 ∨ i = 13 by omega) with e | e | e | e | e | e | e | e | e | e | e | e | e | e
    all_goals
      subst e
      obtain rfl := Option.some.inj ho
      rfl
  case hD =>
    intro i k hi hk hne
    have hi' : i < 14 := hi
    have hk' : k < 14 := hk
    split <;> split <;> omega
  case step =>
    intro i o ho u v hj hV K9 hK
    have hi := (Array.getElem?_eq_some_iff.1 ho).1
    have hi' : i < 14 := hi
    clear hi
    rcases (show i = 0 ∨ i = 1 ∨ i = 2 ∨ i = 3 ∨ i = 4 ∨ i = 5 ∨ i = 6 ∨ i = 7 ∨ i = 8 ∨ i = 9 ∨ i = 10 ∨ i = 11 ∨ i = 12 ∨ i = 13 by omega) with e | e | e | e | e | e | e | e | e | e | e | e | e | e
    all_goals
      subst e
      obtain rfl := Option.some.inj ho
      clear ho hi'
      try dsimp only at hV hK ⊢
    · have HJ := hide hj
      have hGs := gs_sizeB hj
      clear hj hV
      go_simp
      exact hK _ _ HJ.out rfl (fun _ _ h => h)
    · have HJ := hide hj
      have hGs := gs_sizeB hj
      clear hj hV
      go_simp
      exact hK _ _ HJ.out rfl (fun _ _ h => h)
    · have HJ := hide hj
      have hGs := gs_sizeB hj
      clear hj hV
      go_simp
      exact hK _ _ HJ.out rfl (fun _ _ h => h)
    · have HJ := hide hj
      have hGs := gs_sizeB hj
      obtain h2 : bnX G ad m c 2 (u 13) v := hV ⟨2, .data⟩ (by simp) rfl
      clear hj hV
      rw [h2] at hK ⊢
      go_simp
      exact hK _ _ HJ.out rfl (fun _ _ h => h)
    · have HJ := hide hj
      have hGs := gs_sizeB hj
      obtain h3 : bnX G ad m c 3 (u 14) v := hV ⟨3, .data⟩ (by simp) rfl
      clear hj hV
      rw [h3] at hK ⊢
      go_simp
      exact hK _ _ HJ.out (congrArg (Value.int .i64) (wrap_okB (by omega) (by omega))) (fun _ _ h => h)
    · have HJ := hide hj
      have hGs := gs_sizeB hj
      obtain h1 : bnX G ad m c 1 (u 12) v := hV ⟨1, .data⟩ (by simp) rfl
      obtain h4 : bnX G ad m c 4 (u 15) v := hV ⟨4, .data⟩ (by simp) rfl
      clear hj hV
      rw [h1, h4] at hK ⊢
      go_simp
      refine (d_offG G a n cap zs 0 ((m : Int) - 1) _ (by omega) (by omega) (by omega) HJ.out.1).mono ?_
      rintro e v1 ⟨x, rfl, hd⟩
      exact hK _ _ (gs_drewB HJ.out hd) ⟨x, rfl⟩ (bnX_go (drew_keeps hd))
    · have HJ := hide hj
      have hGs := gs_sizeB hj
      clear hj hV
      go_simp
      exact hK _ _ (gs_allocB HJ.out _) ⟨_, rfl, str5_new hGs _ _ _ _ _ (by decide)⟩ (bnX_go (alloc_keeps G v _))
    · have HJ := hide hj
      have hGs := gs_sizeB hj
      clear hj hV
      go_simp
      exact hK _ _ HJ.out rfl (fun _ _ h => h)
    · have HJ := hide hj
      have hGs := gs_sizeB hj
      obtain h7 : bnX G ad m c 7 (u 18) v := hV ⟨7, .data⟩ (by simp) rfl
      clear hj hV
      rw [h7] at hK ⊢
      go_simp
      refine (d_below G a n cap zs 5 _ (by omega) (by omega) HJ.out.1).mono ?_
      rintro e v1 ⟨x, hx0, hx1, rfl, hd⟩
      exact hK _ _ (gs_drewB HJ.out hd) ⟨x.toNat, by omega, by congr 1; omega⟩ (bnX_go (drew_keeps hd))
    · have HJ := hide hj
      have hGs := gs_sizeB hj
      obtain ⟨b6, h6, s6⟩ : bnX G ad m c 6 (u 17) v := hV ⟨6, .data⟩ (by simp) rfl
      obtain ⟨x8, l8, h8⟩ : bnX G ad m c 8 (u 19) v := hV ⟨8, .data⟩ (by simp) rfl
      have hlt5 : (x8 : Int) < 5 := by omega
      clear hj hV
      rw [h6, h8] at hK ⊢
      go_simp
      exact hK _ _ HJ.out ⟨b6, x8, l8, rfl, s6⟩ (fun _ _ h => h)
    · have HJ := hide hj
      have hGs := gs_sizeB hj
      obtain ⟨b9, x9, l9, h9, s9⟩ : bnX G ad m c 9 (u 20) v := hV ⟨9, .data⟩ (by simp) rfl
      obtain ⟨q, hq, hcell⟩ := str5_cell s9 l9
      clear hj hV
      rw [h9] at hK ⊢
      go_simp
      exact hK _ _ HJ.out ⟨q, hq, rfl⟩ (fun _ _ h => h)
    · have HJ := hide hj
      have hGs := gs_sizeB hj
      obtain h0 : bnX G ad m c 0 (u 11) v := hV ⟨0, .data⟩ (by simp) rfl
      clear hj hV
      rw [h0] at hK ⊢
      go_simp
      exact hK _ _ HJ.out rfl (fun _ _ h => h)
    · have HJ := hide hj
      have hGs := gs_sizeB hj
      obtain ⟨x5, h5⟩ : bnX G ad m c 5 (u 16) v := hV ⟨5, .data⟩ (by simp) rfl
      clear hj hV
      rw [h5] at hK ⊢
      go_simp
      exact hK _ _ HJ.out ⟨x5, rfl⟩ (fun _ _ h => h)
    · have HJ := hide hj
      have hGs := gs_sizeB hj
      obtain ⟨t10, z10, h10⟩ : bnX G ad m c 10 (u 21) v := hV ⟨10, .data⟩ (by simp) rfl
      clear hj hV
      rw [h10] at hK ⊢
      go_simp
      exact hK _ _ HJ.out ⟨t10, z10, rfl⟩ (fun _ _ h => h)
  case done =>
    intro u v hj hV
    have h11 : u 2 = .slice ad m c := hV 11 (by decide)
    obtain ⟨x, h12⟩ : bnX G ad m c 12 (u 3) v := hV 12 (by decide)
    obtain ⟨p, hp, h13⟩ : bnX G ad m c 13 (u 4) v := hV 13 (by decide)
    have HJ := hide hj
    clear hj hV
    rw [h11, h12, h13]
    go_wp2
    go_ret3
    exact ⟨ad, m, c, D, x, p, rfl, (drIt_dcB HJ.out.2.1).1, ⟨hm1, hm2⟩, hp, drIt_totB HJ.out.2.1 (by omega), (drIt_dcB HJ.out.2.1).2, by rw [HGW.out]; exact HB1.out.trans HJ.out.2.2.1⟩
end Go.Proofs.YtogeicckbdfldaaDoor
