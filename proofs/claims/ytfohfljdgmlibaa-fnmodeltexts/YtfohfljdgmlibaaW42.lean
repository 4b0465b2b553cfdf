/-
  Contract of the program's reader of models: a row of kids, where each node is read as it must be.
-/
import Derived.Test.YtfohfljdgmlibaaW41
namespace Go.Proofs.Ytfohfljdgmlibaa
open Go.RowKit Go.Joins
set_option linter.unusedVariables false
set_option linter.unusedSimpArgs false
/-- The kids that have been read behind a (, and the mark between them. -/
def KdQ (ch : UInt8) (k : Int) (ks : List Tr) (y w : List UInt8) : Prop := ks ≠ [] ∧ y.head? ≠ some 41 ∧ sqP ch ks y w ∧ ((ch = 44 ∧ k = 2) ∨ (ch = 124 ∧ k = 3)) ∧ (ks.length = 1 → (ch = 124 ↔ w.head? = some 124))
theorem kdq_ch {ch : UInt8} {k : Int} {ks : List Tr} {y w : List UInt8} (h : KdQ ch k ks y w) : ch ≠ 41 := by
  rcases h.2.2.2.1 with ⟨rfl, -⟩ | ⟨rfl, -⟩ <;> decide
theorem kdq_f1 {t : Tr} {y w : List UInt8} (hy : y.head? ≠ some 41) (h : rdP t y w) (hw : w.head? = some 124) : KdQ 124 3 [t] y w := ⟨by simp, hy, sq_oneP h, .inr ⟨rfl, rfl⟩, fun _ => ⟨fun _ => hw, fun _ => rfl⟩⟩
theorem kdq_f0 {t : Tr} {y w : List UInt8} (hy : y.head? ≠ some 41) (h : rdP t y w) (hw : w.head? ≠ some 124) : KdQ 44 2 [t] y w := ⟨by simp, hy, sq_oneP h, .inl ⟨rfl, rfl⟩, fun _ => ⟨fun h => absurd h (by decide), fun h => absurd h hw⟩⟩
theorem kdq_next {ch : UInt8} {k : Int} {ks : List Tr} {t : Tr} {y z w : List UInt8} (h : KdQ ch k ks y (ch :: z)) (ht : rdP t z w) : KdQ ch k (ks ++ [t]) y w := by
  obtain ⟨h1, h2, h3, h4, -⟩ := h
  refine ⟨by simp, h2, sq_snocP h3 ht, h4, fun h9 => ?_⟩
  cases ks with
  | nil => exact absurd rfl h1
  | cons a l => simp at h9
theorem kdq_kid {ch : UInt8} {k : Int} {ks : List Tr} {y z : List UInt8} {D : Pn} {dd : Nat} (h : KdQ ch k ks y (ch :: z)) (hn : NoT z (flF ks D []).1 (dd + 1)) : NoT (40 :: y) D dd := noT_kid (kdq_ch h) (kdq_ch h) h.2.2.1 hn h.2.1
theorem kdq_done {ch : UInt8} {k : Int} {ks : List Tr} {y x : List UInt8} (h : KdQ ch k ks y (41 :: x)) : KdP k ks y (41 :: x) := by
  obtain ⟨h1, h2, h3, h4, h5⟩ := h
  rcases h4 with ⟨rfl, rfl⟩ | ⟨rfl, rfl⟩
  · exact .inr ⟨h2, h1, .inl ⟨rfl, h3⟩⟩
  · refine .inr ⟨h2, h1, .inr ⟨rfl, ?_, h3⟩⟩
    match ks, h1, h5 with
    | [], h1, _ => exact absurd rfl h1
    | [a], _, h5 => exact absurd ((h5 rfl).1 rfl) (by simp)
    | a :: b :: l, _, _ => simp
theorem kdq_no {ch : UInt8} {k : Int} {ks : List Tr} {y w : List UInt8} {D : Pn} {dd : Nat} (h : KdQ ch k ks y w) (hw : w.head? ≠ some ch) (hw2 : w.head? ≠ some 41) : NoT (40 :: y) D dd := by
  have hc := kdq_ch h
  obtain ⟨h1, h2, h3, h4, h5⟩ := h
  refine noT_mark hc h3 hw2 (fun c hc e => ⟨?_, fun e2 => hw (by rw [e2]; exact e)⟩) h2
  match ks, h1, h5 with
  | [], h1, _ => exact absurd rfl h1
  | [a], _, h5 =>
    exfalso
    rcases hc with rfl | rfl
    · rcases h4 with ⟨rfl, -⟩ | ⟨rfl, -⟩
      · exact hw e
      · have := (h5 rfl).1 rfl
        rw [e] at this
        simp at this
    · have := (h5 rfl).2 e
      rw [this] at hw
      exact hw e
  | a :: b :: l, _, _ => simp
theorem i_prefix (u : ByteArray) (w : World) : Calls Try.prog 83 #[.string u, .string ⟨#[124]⟩] w fun e w' => ∃ b, e = .returned (.bool b) ∧ w' = w ∧ (b = true ↔ u.data.toList.head? = some 124) := by
  refine (Try.strings_HasPrefix u ⟨#[124]⟩ w).mono ?_
  rintro e w' ⟨rfl, rfl⟩
  refine ⟨_, rfl, rfl, ?_⟩
  rw [show (⟨#[124]⟩ : ByteArray).data.toList = [124] from rfl]
  rcases cut_one u.data.toList 124 with ⟨r, e1, e2, -⟩ | ⟨e1, e2, -⟩
  · rw [e2, e1]; simp
  · rw [e2]; simp [e1]
/-- The kids so far, told of the rows that were made. -/
def RkK (ch : UInt8) (k : Int) (u : ByteArray) (D : Pn) (dd : Nat) (u3 : ByteArray) (m3 : Nat) (D3 : Pn) (L3 : List Int) : Prop := ∃ ks, KdQ ch k ks u.data.toList u3.data.toList ∧ D3 = (flF ks D []).1 ∧ L3 = (flF ks D []).2 ∧ m3 = D3.n
theorem rkk_len {ch : UInt8} {k : Int} {u u3 : ByteArray} {D D3 : Pn} {dd m3 : Nat} {L3 : List Int} (h : RkK ch k u D dd u3 m3 D3 L3) : L3.length ≤ m3 := by
  obtain ⟨ks, -, h1, h2, h3⟩ := h
  have h9 := flF_cnt ks D []
  rw [h2, flF_lenP, h3, h1]
  simp
  omega
theorem rkk_first {k : Int} {ch : UInt8} {u u2 : ByteArray} {D : Pn} {dd m2 : Nat} {t : Tr} (h : KdQ ch k [t] u.data.toList u2.data.toList) (hm : m2 = (fl t D).n) : RkK ch k u D dd u2 m2 (fl t D) [(m2 : Int) - 1] := by
  refine ⟨[t], h, by rw [flF_one], by rw [flF_one, hm]; rfl, hm⟩
theorem rkk_next {k : Int} {ch : UInt8} {u u3 u4 u8 : ByteArray} {D D3 : Pn} {dd m3 m8 : Nat} {L3 : List Int} {t : Tr} (h : RkK ch k u D dd u3 m3 D3 L3) (hc : u3.data.toList = ch :: u4.data.toList) (ht : rdP t u4.data.toList u8.data.toList) (hm : m8 = (fl t D3).n) : RkK ch k u D dd u8 m8 (fl t D3) (L3 ++ [(m8 : Int) - 1]) := by
  obtain ⟨ks, h1, h2, h3, h4⟩ := h
  rw [hc] at h1
  refine ⟨ks ++ [t], kdq_next h1 ht, by rw [flF_app, flF_one, ← h2], by rw [flF_app, flF_one, ← h2, ← h3, hm], hm⟩
theorem rkk_kid {k : Int} {ch : UInt8} {u u3 u4 : ByteArray} {D D3 : Pn} {dd m3 : Nat} {L3 : List Int} (h : RkK ch k u D dd u3 m3 D3 L3) (hc : u3.data.toList = ch :: u4.data.toList) (hn : NoT u4.data.toList D3 (dd + 1)) : NoT (40 :: u.data.toList) D dd := by
  obtain ⟨ks, h1, h2, h3, h4⟩ := h
  rw [hc] at h1
  rw [h2] at hn
  exact kdq_kid h1 hn
theorem rkk_no {k : Int} {ch : UInt8} {u u3 : ByteArray} {D D3 : Pn} {dd m3 : Nat} {L3 : List Int} (h : RkK ch k u D dd u3 m3 D3 L3) (hw : u3.data.toList.head? ≠ some ch) (hw2 : u3.data.toList.head? ≠ some 41) : NoT (40 :: u.data.toList) D dd := by
  obtain ⟨ks, h1, -⟩ := h
  exact kdq_no h1 hw hw2
/-- It gives up. -/
theorem rk_no {R B dd : Nat} {u : ByteArray} {v : Value} {S : Nat → Prop} {D : Pn} {w w' : World} {e : Ending} {T : Nat → Prop} (h : GivU w e w' T) (hT : ∀ j, j < w.heap.size → T j → (j = R ∨ v.ownBlock = some j)) (hn : NoT (40 :: u.data.toList) D dd) : RkAns R B u v S D dd w e w' :=
  .inr ⟨⟨h.1, (Kp.refl (fun j => j = R ∨ v.ownBlock = some j) w).trans h.2 hT⟩, hn⟩
/-- The block of the answer stays. -/
theorem x4_stay {R B X : Nat} {wa w' : World} {S : Nat → Prop} {ro : Option Nat} {X4 : Nat} {u : ByteArray} {ad : Option Addr} {m c : Nat} {D : Pn} {k : Int} {nm : ByteArray} {kad : Option Addr} {L : List Int} {kc : Nat} {oc : Int} {k4 : Int} {nm4 : ByteArray} {a4 : Option Addr} {n4 c4 : Nat} {o4 : Int} (h : RJ R B wa S ro X w' u ad m c D k nm kad L kc oc) (h4 : XN wa X4 k4 nm4 a4 n4 c4 o4) (h1 : X4 ≠ R) (h2 : ro ≠ some X4) : XN w' X4 k4 nm4 a4 n4 c4 o4 :=
  (h.kp.block _ (xn_lt h4) (fun e => by rcases e with e | e; exact h1 e; exact h2 e)).trans h4
/-- How much of the text is left. -/
def mrM (R : Nat) (w : World) : Nat := match w.cell? ⟨R, 0, none⟩ with
  | some (.string u) => u.size
  | _ => 0
theorem mrM_of {w : World} {R : Nat} {u : ByteArray} {ad : Option Addr} {m c : Nat} (h : MR w R u ad m c) : mrM R w = u.size := by
  unfold mrM
  rw [(mr_cells h).1]
end Go.Proofs.Ytfohfljdgmlibaa
