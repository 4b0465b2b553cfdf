/-
  Contracts of the laws' helpers on rows of texts: that two rows that are alike are told so; marks on all places, and that they stand.
-/
import Derived.Test.YtlhdfaoehamehaaMkPn
import Derived.Test.YtlhdfaoehamehaaMtI
namespace Go.Proofs.Ytlhdfaoehamehaa
open Go.RowKit Go.Joins
set_option linter.unusedVariables false
set_option linter.unusedSimpArgs false
/-- A row of texts lies somewhere. -/
def TxAt (w : World) (a : Option Addr) (L : List ByteArray) (B : Nat) : Prop := L ≠ [] → ∃ b off, a = some ⟨b, off, none⟩ ∧ b < B ∧ ∀ j, j < L.length → w.cell? ⟨b, off + j, none⟩ = some (.string (L[j]?.getD ⟨#[]⟩))
theorem txAt_of {B : Nat} {w : World} {ad : Option Addr} {c : Nat} {L : List ByteArray} (h : StrR B w ad c L) : TxAt w ad L w.heap.size := by
  intro h0
  obtain ⟨g, rfl, hg, hc, hcell⟩ := strR_cells h h0
  exact ⟨g, 0, rfl, hg, fun j hj => by rw [hcell j L[j] (List.getElem?_eq_getElem hj), List.getElem?_eq_getElem hj]; rfl⟩
set_option maxHeartbeats 2000000 in
theorem eq_strs (a1 a2 : Option Addr) (n c1 c2 : Nat) (L : List ByteArray) (w : World) (hL : L.length = n) (hn : n ≤ 1048576) (h1 : TxAt w a1 L w.heap.size) (h2 : TxAt w a2 L w.heap.size) :
    Calls Try.prog 16 #[.slice a1 n c1, .slice a2 n c2] w fun e w' => e = .returned (.bool true) ∧ Below w.heap.size w w' := by
  have HL := hide hL
  have H1 := hide h1
  have H2 := hide h2
  clear hL h1 h2
  go_enter Try.func16, Try.ntmps16
  go_wp2
  go_loopw [5] (fun i wr => ∃ k : Nat, k ≤ n ∧ i = .int .i64 k ∧ Below w.heap.size w wr) (fun i _ => n - (intOf i).toNat)
  case atStart => exact ⟨0, Nat.zero_le _, rfl, Below.refl _ _⟩
  case round =>
    obtain ⟨k, hk, rfl, hb⟩ := hrel
    by_cases hlt : k < n
    · have hlt2 : k < L.length := by rw [HL.out]; exact hlt
      have hne : L ≠ [] := fun h => by rw [h] at hlt2; exact absurd hlt2 (Nat.not_lt_zero _)
      obtain ⟨b, off, rfl, hbs, hc⟩ := H1.out hne
      obtain ⟨b', off', rfl, hbs', hc'⟩ := H2.out hne
      have k1 := (hb.cell (p := ⟨b, off + k, none⟩) hbs).trans (hc k hlt2)
      have k2 := (hb.cell (p := ⟨b', off' + k, none⟩) hbs').trans (hc' k hlt2)
      have hi : (k : Int) < (n : Int) := by omega
      have hi0 : (0 : Int) ≤ (k : Int) := by omega
      have HB := hide hb
      obtain ⟨T, hT⟩ : ∃ T, L[k]?.getD ⟨#[]⟩ = T := ⟨_, rfl⟩
      rw [hT] at k1 k2
      clear hc hc' hb hT hne
      go_wp2
      go_quiet (fail)
      go_wp2
      go_roundw
      case rel => exact ⟨k + 1, by omega, by go_num, HB.out.trans ((drewN_below9 _ _).mono HB.out.size)⟩
      case measure => simp [intOf]; omega
    · go_wp2
      go_ret
      exact ⟨rfl, hb⟩
/-- The text of a mark. -/
def mkF : Nat → Int → ByteArray → ByteArray
  | 0, x, s => s
  | f + 1, x, s => if 0 < x then mkF f (x / 10) (strOfNums [48 + x % 10] ++ s) else s
theorem mkF_more : ∀ (f g : Nat) (x : Int) (s : ByteArray), x < f → x < g → mkF f x s = mkF g x s
  | 0, 0, x, s, h1, h2 => rfl
  | 0, g + 1, x, s, h1, h2 => by rw [mkF, mkF, if_neg (by omega)]
  | f + 1, 0, x, s, h1, h2 => by rw [mkF, mkF, if_neg (by omega)]
  | f + 1, g + 1, x, s, h1, h2 => by
    rw [mkF, mkF]
    split
    · exact mkF_more f g _ _ (by omega) (by omega)
    · rfl
def mkX (x : Int) (s : ByteArray) : ByteArray := mkF (x.toNat + 1) x s
theorem mkX_no {x : Int} {s : ByteArray} (h : ¬ 0 < x) : mkX x s = s := by unfold mkX; rw [mkF, if_neg h]
theorem mkX_yes {x : Int} {s : ByteArray} (h : 0 < x) : mkX x s = mkX (x / 10) (strOfNums [48 + x % 10] ++ s) := by
  unfold mkX
  rw [mkF, if_pos h]
  exact mkF_more _ _ _ _ (by omega) (by omega)
def mkT (k : Int) : ByteArray := ⟨#[109]⟩ ++ mkX k ⟨#[]⟩
set_option maxHeartbeats 1000000 in
theorem l_mtV (k : Int) (w : World) (h0 : 1 ≤ k) (h1 : k ≤ 1099511627776) : Calls Try.prog 36 #[.int .i64 k] w fun e w' => e = .returned (.string (mkT k)) ∧ Below w.heap.size w w' := by
  go_enter Try.func36, Try.ntmps36
  go_wp2
  go_loopw [0, 3] (fun kv sv wr => ∃ (x : Int) (s : ByteArray), kv = .int .i64 x ∧ sv = .string s ∧ 0 ≤ x ∧ (s.size : Int) + x ≤ k ∧ Below w.heap.size w wr ∧ Hid (mkX x s = mkX k ⟨#[]⟩)) (fun kv _ _ => (intOf kv).toNat)
  case atStart => exact ⟨k, ⟨#[]⟩, rfl, rfl, by omega, by show ((0 : Nat) : Int) + k ≤ k; omega, Below.refl _ _, hide rfl⟩
  case round =>
    obtain ⟨x, s, rfl, rfl, hx0, hx1, hb, HM⟩ := hrel
    by_cases hx : 0 < x
    · have hcv := conv_new wr [48 + x % 10]
      have hos := one_size (48 + x % 10)
      have HM2 := hide ((mkX_yes hx (s := s)).symm.trans HM.out)
      obtain ⟨o, ho⟩ : ∃ o, strOfNums [48 + x % 10] = o := ⟨_, rfl⟩
      rw [ho] at hcv hos HM2
      simp only [List.map_cons, List.map_nil, List.length_cons, List.length_nil, Nat.zero_add] at hcv
      have hS1 : ¬ 9223372036854775807 < o.size + s.size := by omega
      have HOS := hide hos
      have HB := hide hb
      clear ho hos hb
      go_wp2
      go_roundw
      case rel => exact ⟨x / 10, o ++ s, rfl, rfl, by omega, by rw [ByteArray.size_append, HOS.out]; omega, HB.out.alloc HB.out.size _, HM2⟩
      case measure => simp [intOf]; omega
    · have hS1 : ¬ 9223372036854775807 < 1 + s.size := by omega
      have HV : Hid (mkT k = ⟨#[109]⟩ ++ s) := hide (by unfold mkT; rw [← HM.out, mkX_no hx])
      go_wp2
      go_ret
      exact ⟨by rw [HV.out]; rfl, hb⟩
def mkUp (k : Nat) : Nat → List ByteArray
  | 0 => []
  | n + 1 => mkUp k n ++ [mkT ((k + n : Nat) : Int)]
theorem mkUp_len (k : Nat) : ∀ n, (mkUp k n).length = n
  | 0 => rfl
  | n + 1 => by rw [mkUp, List.length_append, mkUp_len k n]; rfl
theorem mkUp_get (k : Nat) : ∀ (n j : Nat), j < n → (mkUp k n)[j]?.getD ⟨#[]⟩ = mkT ((k + j : Nat) : Int)
  | 0, j, h => by omega
  | n + 1, j, h => by
    rw [mkUp]
    by_cases e : j = n
    · subst e
      rw [List.getElem?_append_right (by rw [mkUp_len]; exact Nat.le_refl _), mkUp_len, Nat.sub_self]
      rfl
    · rw [List.getElem?_append_left (by rw [mkUp_len]; omega)]
      exact mkUp_get k n j (by omega)
end Go.Proofs.Ytlhdfaoehamehaa
