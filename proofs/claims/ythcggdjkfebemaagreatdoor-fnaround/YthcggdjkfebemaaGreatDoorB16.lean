/-
  Plain facts on the text of a document, of no program's run: printed item by item, going down, it is what is printed in one go with the ends put in between.
-/
import Derived.Test.YthcggdjkfebemaaGreatDoorB15
import Derived.Test.YthcggdjkfebemaaGreatDoorB11
namespace Go.Proofs.YthcggdjkfebemaaGreatDoor
set_option linter.unusedVariables false
set_option linter.unusedSimpArgs false
def atP (N V : Nat → ByteArray) (j : Nat) : List UInt8 := [32] ++ (N j).data.toList ++ [61, 34] ++ escL true (V j).data.toList ++ [34]
def atsP (N V : Nat → ByteArray) : Nat → List UInt8
  | 0 => []
  | k + 1 => atsP N V k ++ atP N V k
def hdP (D : Dc) (i : Nat) : List UInt8 := [60] ++ (D.NM i).data.toList ++ atsP (D.AN i) (D.AV i) (D.AC i)
def clP (D : Dc) (i : Nat) : List UInt8 := [60, 47] ++ (D.NM i).data.toList ++ [62]
def txP (D : Dc) (i : Nat) : List UInt8 := escL false (D.TX i).data.toList
def itP (D : Dc) (i : Nat) (b : List UInt8) (e : Nat) : List UInt8 := if e = i + 1 then hdP D i ++ [47, 62] else hdP D i ++ [62] ++ b ++ clP D i
/-- What stands right below i from the item m on, as a text, and the place behind it. -/
inductive Kl (D : Dc) : Int → Nat → List UInt8 → Nat → Prop
  | stop {i : Int} {m : Nat} : ¬ (m < D.n ∧ D.U m = i) → Kl D i m [] m
  | text {i : Int} {m : Nat} {b : List UInt8} {e : Nat} : m < D.n → D.U m = i → isE (D.NM m) = true → Kl D i (m + 1) b e → Kl D i m (txP D m ++ b) e
  | elem {i : Int} {m : Nat} {b1 : List UInt8} {e1 : Nat} {b2 : List UInt8} {e : Nat} : m < D.n → D.U m = i → isE (D.NM m) = false → Kl D m (m + 1) b1 e1 → Kl D i e1 b2 e → Kl D i m (itP D m b1 e1 ++ b2) e
theorem kl_le {D : Dc} {i : Int} {m : Nat} {b : List UInt8} {e : Nat} (h : Kl D i m b e) : m ≤ e ∧ (m ≤ D.n → e ≤ D.n) := by
  induction h with
  | stop h => exact ⟨Nat.le_refl _, id⟩
  | text h1 h2 h3 h ih => exact ⟨by omega, fun _ => ih.2 (by omega)⟩
  | elem h1 h2 h3 ha hb iha ihb => exact ⟨by omega, fun _ => ihb.2 (iha.2 (by omega))⟩
theorem kl_kid {D : Dc} {i : Int} {m : Nat} {b : List UInt8} {e : Nat} (h : Kl D i m b e) (h1 : m < D.n) (h2 : D.U m = i) : m < e := by
  cases h with
  | stop h => exact absurd ⟨h1, h2⟩ h
  | text _ _ _ h => have := (kl_le h).1; omega
  | elem _ _ _ ha hb => have := (kl_le ha).1; have := (kl_le hb).1; omega
theorem kl_stop {D : Dc} {i : Int} {m : Nat} {b : List UInt8} {e : Nat} (h : Kl D i m b e) (h1 : ¬ (m < D.n ∧ D.U m = i)) : b = [] ∧ e = m := by
  cases h with
  | stop h => exact ⟨rfl, rfl⟩
  | text a b _ _ => exact absurd ⟨a, b⟩ h1
  | elem a b _ _ _ => exact absurd ⟨a, b⟩ h1
theorem kl_text {D : Dc} {i : Int} {m : Nat} {b : List UInt8} {e : Nat} (h : Kl D i m b e) (h1 : m < D.n) (h2 : D.U m = i) (h3 : isE (D.NM m) = true) : ∃ b', b = txP D m ++ b' ∧ Kl D i (m + 1) b' e := by
  cases h with
  | stop h => exact absurd ⟨h1, h2⟩ h
  | text _ _ _ h => exact ⟨_, rfl, h⟩
  | elem _ _ h _ _ => rw [h] at h3; cases h3
theorem kl_elem {D : Dc} {i : Int} {m : Nat} {b : List UInt8} {e : Nat} (h : Kl D i m b e) (h1 : m < D.n) (h2 : D.U m = i) (h3 : isE (D.NM m) = false) : ∃ b1 e1 b2, b = itP D m b1 e1 ++ b2 ∧ Kl D m (m + 1) b1 e1 ∧ Kl D i e1 b2 e := by
  cases h with
  | stop h => exact absurd ⟨h1, h2⟩ h
  | text _ _ h _ => rw [h] at h3; cases h3
  | elem _ _ _ ha hb => exact ⟨_, _, _, rfl, ha, hb⟩
theorem kl_some {D : Dc} : ∀ (k : Nat) (i : Int) (m : Nat), D.n - m ≤ k → ∃ b e, Kl D i m b e
  | 0, i, m, h => ⟨_, _, .stop (by omega)⟩
  | k + 1, i, m, h => by
    by_cases hc : m < D.n ∧ D.U m = i
    · cases hE : isE (D.NM m)
      · obtain ⟨b1, e1, h1⟩ := kl_some (D := D) k (m : Int) (m + 1) (by omega)
        have := (kl_le h1).1
        obtain ⟨b2, e2, h2⟩ := kl_some (D := D) k i e1 (by omega)
        exact ⟨_, _, .elem hc.1 hc.2 hE h1 h2⟩
      · obtain ⟨b1, e1, h1⟩ := kl_some (D := D) k i (m + 1) (by omega)
        exact ⟨_, _, .text hc.1 hc.2 hE h1⟩
    · exact ⟨_, _, .stop hc⟩
/-- From a on upwards x is met (-1 too). -/
inductive On (D : Dc) : Int → Int → Prop
  | here {a : Int} : On D a a
  | up {a x : Int} : 0 ≤ a → On D (D.U a.toNat) x → On D a x
theorem on_trans {D : Dc} {a x y : Int} (h : On D a x) (k : On D x y) : On D a y := by
  induction h with
  | here => exact k
  | up h0 _ ih => exact .up h0 (ih k)
section
variable {D : Dc} {n : Nat} (hd : ∀ j, j < n → -1 ≤ D.U j ∧ D.U j < j)
include hd
theorem on_le {a x : Int} (h : On D a x) (ha : a < n) : x ≤ a := by
  induction h with
  | here => exact Int.le_refl _
  | up h0 _ ih => rename_i a x _; have := hd a.toNat (by omega); have := ih (by omega); omega
theorem on_ge {a x : Int} (h : On D a x) (ha : a < n) (h1 : -1 ≤ a) : -1 ≤ x := by
  induction h with
  | here => exact h1
  | up h0 _ ih => rename_i a x _; have := hd a.toNat (by omega); exact ih (by omega) (by omega)
theorem on_total {a x y : Int} (h : On D a x) (k : On D a y) (ha : a < n) : On D x y ∨ On D y x := by
  induction h with
  | here => exact .inl k
  | up h0 h ih =>
    rename_i a x
    have := hd a.toNat (by omega)
    cases k with
    | here => exact .inr (.up h0 h)
    | up _ k => exact ih k (by omega)
theorem on_anti {x y : Int} (h : On D x y) (k : On D y x) (hx : x < n) (hy : y < n) : x = y := by
  have := on_le hd h hx
  have := on_le hd k hy
  omega
end
def tgF (D : Dc) : Nat → Int → Int → List UInt8
  | 0, _, _ => []
  | f + 1, a, x => if a = x then [] else clP D a.toNat ++ tgF D f (D.U a.toNat) x
/-- The ends of the elements from a up to x, without that. -/
def tg (D : Dc) (a x : Int) : List UInt8 := tgF D (a + 1).toNat a x
theorem tg_hit (D : Dc) (x : Int) : tg D x x = [] := by
  unfold tg
  cases (x + 1).toNat with
  | zero => rfl
  | succ f => rw [tgF, if_pos rfl]
section
variable {D : Dc} {n : Nat} (hd : ∀ j, j < n → -1 ≤ D.U j ∧ D.U j < j)
include hd
theorem tgF_more {a x : Int} (h : On D a x) (ha : a < n) : ∀ f g : Nat, a - x ≤ f → a - x ≤ g → tgF D f a x = tgF D g a x := by
  induction h with
  | here =>
    intro f g _ _
    cases f <;> cases g <;> simp [tgF]
  | up h0 h ih =>
    rename_i a x
    intro f g hf hg
    have h1 := hd a.toNat (by omega)
    by_cases e : a = x
    · subst e
      cases f <;> cases g <;> simp [tgF]
    · have h2 := on_le hd h (by omega)
      match f, g, hf, hg with
      | 0, g, hf, hg => omega
      | f + 1, 0, hf, hg => omega
      | f + 1, g + 1, hf, hg => rw [tgF, tgF, if_neg e, if_neg e, ih (by omega) f g (by omega) (by omega)]
theorem tg_up {a x : Int} (h0 : 0 ≤ a) (ha : a < n) (e : a ≠ x) (h : On D (D.U a.toNat) x) : tg D a x = clP D a.toNat ++ tg D (D.U a.toNat) x := by
  have h1 := hd a.toNat (by omega)
  have h2 := on_ge hd h (by omega) (by omega)
  unfold tg
  rw [show (a + 1).toNat = a.toNat + 1 by omega, tgF, if_neg e, tgF_more hd h (by omega) a.toNat ((D.U a.toNat + 1).toNat) (by omega) (by omega)]
theorem tg_ext {a x : Int} (h : On D a x) (ha : a < n) (h0 : 0 ≤ x) : tg D a (D.U x.toNat) = tg D a x ++ clP D x.toNat := by
  have hx : ∀ y : Int, 0 ≤ y → y < n → tg D y (D.U y.toNat) = tg D y y ++ clP D y.toNat := fun y hy hn => by
    have h1 := hd y.toNat (by omega)
    rw [tg_up hd hy hn (by omega) .here, tg_hit, tg_hit, List.append_nil, List.nil_append]
  induction h with
  | here => exact hx _ h0 ha
  | up ha0 h ih =>
    rename_i a x
    have h1 := hd a.toNat (by omega)
    by_cases e : a = x
    · subst e; exact hx _ h0 ha
    · have h2 := on_le hd h (by omega)
      have h3 := hd x.toNat (by omega)
      have h4 : On D (D.U a.toNat) (D.U x.toNat) := on_trans h (.up h0 .here)
      rw [tg_up hd ha0 ha (by omega) h4, tg_up hd ha0 ha e h, ih (by omega) h0, List.append_assoc]
end
/-- Which element is open when the item i comes. -/
def opE (D : Dc) : Nat → Int
  | 0 => -1
  | i + 1 => if isE (D.NM i) = false ∧ i + 1 < D.n ∧ D.U (i + 1) = i then (i : Int) else D.U i
theorem opE_succ (D : Dc) (i : Nat) : opE D (i + 1) = if isE (D.NM i) = false ∧ i + 1 < D.n ∧ D.U (i + 1) = i then (i : Int) else D.U i := rfl
theorem opE_zero (D : Dc) : opE D 0 = -1 := rfl
def pcP (D : Dc) (i : Nat) : List UInt8 := if isE (D.NM i) = true then txP D i else if i + 1 < D.n ∧ D.U (i + 1) = i then hdP D i ++ [62] else hdP D i ++ [47, 62]
def outP (D : Dc) : Nat → List UInt8
  | 0 => []
  | i + 1 => outP D i ++ tg D (opE D i) (D.U i) ++ pcP D i
theorem rcF_on {D : Dc} {t : Int} : ∀ (f : Nat) (a : Int), rcF D.U t f a = true → On D a t
  | 0, a, h => by cases h
  | f + 1, a, h => by
    rw [rcF] at h
    split at h
    · cases h
    · rename_i h0
      split at h
      · rename_i h1; subst h1; exact .here
      · exact .up (by omega) (rcF_on f _ h)
theorem on_open {D : Dc} {n : Nat} (hn : D.n = n) (hg : Good D n) : ∀ i, i < n → On D (opE D i) (D.U i)
  | 0, hi => by
    rw [(place_zero (hg 0 hi)).1]
    exact .here
  | j + 1, hi => by
    have hd := good_dec n hg
    have hr := place_rc (by omega) (hg (j + 1) hi)
    rw [opE_succ]
    split
    · rename_i hc; rw [hc.2.2]; exact .here
    · rename_i hc
      unfold stI at hr
      split at hr
      · rw [show j + 1 - 1 = j by omega] at hr
        exact rcF_on _ _ hr
      · rename_i hE
        rw [show j + 1 - 1 = j by omega] at hE
        rw [show ((j + 1 : Nat) : Int) - 1 = (j : Int) by omega] at hr
        have hE2 : isE (D.NM j) = false := by simpa using hE
        have hne : (j : Int) ≠ D.U (j + 1) := fun e => hc ⟨hE2, by omega, e.symm⟩
        rw [rc_step D.U _ (by omega) hne (fun k hk => (hd k (by omega)).2)] at hr
        exact rcF_on _ _ hr
theorem opE_lt {D : Dc} {n : Nat} (hg : Good D n) : ∀ i, i ≤ n → -1 ≤ opE D i ∧ opE D i < i
  | 0, h => by rw [opE_zero]; omega
  | j + 1, h => by
    have := good_dec n hg j (by omega)
    rw [opE_succ]
    split
    · omega
    · omega
/-- The two ways to print a document come to the same text. -/
theorem kl_main {D : Dc} {n : Nat} (hn : D.n = n) (hg : Good D n) {i : Int} {m : Nat} {b : List UInt8} {e : Nat} (h : Kl D i m b e) : m ≤ n → i < m → On D (opE D m) i → (m < n → On D (D.U m) i → D.U m = i) →
    outP D e ++ tg D (opE D e) i = outP D m ++ tg D (opE D m) i ++ b ∧ On D (opE D e) i ∧ (e < n → ¬ On D (D.U e) i) := by
  have hd := good_dec n hg
  induction h with
  | stop h =>
    rename_i i m
    intro hm hi ho hp
    refine ⟨by rw [List.append_nil], ho, fun he hon => h ⟨by omega, hp he hon⟩⟩
  | text h1 h2 h3 h ih =>
    rename_i i m b e
    intro hm hi ho hp
    have hop : opE D (m + 1) = i := by
      rw [opE_succ, if_neg (by rw [h3]; simp), h2]
    obtain ⟨r1, r2, r3⟩ := ih (by omega) (by omega) (by rw [hop]; exact .here) (fun hlt hon => by
      have h5 := on_open hn hg (m + 1) hlt
      rw [hop] at h5
      have h6 := hd (m + 1) hlt
      exact on_anti hd hon h5 (by omega) (by omega))
    refine ⟨?_, r2, r3⟩
    rw [r1, hop, tg_hit, List.append_nil]
    show outP D m ++ tg D (opE D m) (D.U m) ++ pcP D m ++ b = _
    rw [h2]
    unfold pcP
    rw [if_pos h3]
    simp only [List.append_assoc]
  | elem h1 h2 h3 ha hb iha ihb =>
    rename_i i m b1 e1 b2 e
    intro hm hi ho hp
    have hmd := hd m (by omega)
    have he1 := kl_le ha
    have he1n : e1 ≤ n := by rw [← hn]; exact he1.2 (by omega)
    have hex : ∀ x : Int, On D (m : Int) x → x ≠ m → On D i x := fun x hx hne => by
      cases hx with
      | here => exact absurd rfl hne
      | up _ hx => rw [show ((m : Int)).toNat = m by omega, h2] at hx; exact hx
    have hmi : On D (m : Int) i := .up (by omega) (by rw [show ((m : Int)).toNat = m by omega, h2]; exact .here)
    by_cases hk : m + 1 < D.n ∧ D.U (m + 1) = m
    · have hop : opE D (m + 1) = m := by
        rw [opE_succ, if_pos ⟨h3, hk⟩]
      obtain ⟨r1, r2, r3⟩ := iha (by omega) (by omega) (by rw [hop]; exact .here) (fun hlt hon => by
        have h6 := hd (m + 1) hlt
        have h7 := on_le hd hon (by omega)
        omega)
      have ho1 := opE_lt hg e1 he1n
      obtain ⟨q1, q2, q3⟩ := ihb he1n (by omega) (on_trans r2 hmi) (fun hlt hon => by
        have h5 := on_open hn hg e1 hlt
        have h6 := hd e1 hlt
        rcases on_total hd h5 r2 (by omega) with h7 | h7
        · exact absurd h7 (r3 hlt)
        · have h8 : D.U e1 ≠ m := fun e9 => r3 hlt (by rw [e9]; exact .here)
          exact on_anti hd hon (hex _ h7 h8) (by omega) (by omega))
      refine ⟨?_, q2, q3⟩
      have hte := tg_ext hd r2 (by omega) (by omega)
      rw [show ((m : Int)).toNat = m by omega, h2] at hte
      have hne : e1 ≠ m + 1 := by have := kl_kid ha hk.1 hk.2; omega
      rw [hop, tg_hit, List.append_nil] at r1
      rw [q1, hte, ← List.append_assoc, r1]
      show outP D m ++ tg D (opE D m) (D.U m) ++ pcP D m ++ b1 ++ clP D m ++ b2 = _
      rw [h2]
      unfold pcP itP
      rw [if_neg (by rw [h3]; simp), if_pos hk, if_neg hne]
      simp only [List.append_assoc]
    · obtain ⟨rfl, rfl⟩ := kl_stop ha hk
      have hop : opE D (m + 1) = i := by
        rw [opE_succ, if_neg (fun hc => hk hc.2), h2]
      obtain ⟨q1, q2, q3⟩ := ihb he1n (by omega) (by rw [hop]; exact .here) (fun hlt hon => by
        have h5 := on_open hn hg (m + 1) hlt
        rw [hop] at h5
        have h6 := hd (m + 1) hlt
        exact on_anti hd hon h5 (by omega) (by omega))
      refine ⟨?_, q2, q3⟩
      rw [q1, hop, tg_hit, List.append_nil]
      show outP D m ++ tg D (opE D m) (D.U m) ++ pcP D m ++ b2 = _
      rw [h2]
      unfold pcP itP
      rw [if_neg (by rw [h3]; simp), if_neg hk, if_pos rfl]
      simp only [List.append_assoc]
theorem on_root {D : Dc} {n : Nat} (hg : Good D n) : ∀ (f : Nat) (a : Int), a < f → 0 ≤ a → a < n → On D a 0
  | 0, a, hf, h0, ha => by omega
  | f + 1, a, hf, h0, ha => by
    have hd := good_dec n hg a.toNat (by omega)
    by_cases e : a = 0
    · subst e; exact .here
    · have hr := place_rc (by omega) (hg a.toNat (by omega))
      have h1 := (rc_mem D.U _ (fun k hk => (good_dec n hg k (by have := st_le (D := D) (i := a.toNat) (by omega) (good_less hg (by omega)); omega)).2) hr).1
      exact .up h0 (on_root hg f _ (by omega) h1 (by omega))
/-- The whole document. -/
theorem kl_doc {D : Dc} {n : Nat} (hn : D.n = n) (h1 : 1 ≤ n) (hg : Good D n) {b : List UInt8} {e : Nat} (h : Kl D 0 1 b e) : e = n ∧ itP D 0 b e = outP D n ++ tg D (opE D n) (-1) ∧ On D (opE D n) (-1) := by
  have hd := good_dec n hg
  obtain ⟨hz, hE⟩ := place_zero (hg 0 (by omega))
  have he := kl_le h
  have hen : e ≤ n := by rw [← hn]; exact he.2 (by omega)
  have hup : ∀ j, 0 < j → j < n → 0 ≤ D.U j := fun j hj hjn => by
    have hr := place_rc (by omega) (hg j hjn)
    exact (rc_mem D.U _ (fun k hk => (good_dec n hg k (by have := st_le (D := D) (i := j) (by omega) (good_less hg (by omega)); omega)).2) hr).1
  have hop1 : On D (opE D 1) 0 ∨ e = 1 := by
    by_cases hk : 1 < D.n ∧ D.U 1 = 0
    · left
      show On D (opE D (0 + 1)) 0
      rw [opE_succ, if_pos ⟨hE, by simpa using hk⟩]
      exact .here
    · right; exact (kl_stop h hk).2
  have hall : e = n := by
    by_cases h9 : e < n
    · exfalso
      have hu := hup e (by omega) h9
      have hue := hd e h9
      have hon := on_root hg n (D.U e) (by omega) hu (by omega)
      by_cases hk : 1 < D.n ∧ D.U 1 = 0
      · have hop : opE D 1 = 0 := by
          show opE D (0 + 1) = 0
          rw [opE_succ, if_pos ⟨hE, by simpa using hk⟩]; rfl
        have := (kl_main hn hg h (by omega) (by omega) (by rw [hop]; exact .here) (fun _ _ => hk.2)).2.2 h9
        exact this hon
      · obtain ⟨-, rfl⟩ := kl_stop h hk
        have : D.U 1 = 0 := by omega
        exact hk ⟨by omega, this⟩
    · omega
  have hk0 : Kl D (-1) 0 (itP D 0 b e ++ []) e := .elem (by omega) hz hE h (.stop (by omega))
  obtain ⟨r1, r2, -⟩ := kl_main hn hg hk0 (by omega) (by omega) .here (fun _ _ => hz)
  rw [hall] at r1 r2 ⊢
  refine ⟨rfl, ?_, r2⟩
  rw [show opE D 0 = -1 from rfl, tg_hit, List.append_nil] at r1
  rw [r1, List.append_nil]
  rfl
/- How long the texts are. -/
theorem bl (s : ByteArray) : s.data.toList.length = s.size := by simp
theorem at_len (N V : Nat → ByteArray) (j : Nat) : (atP N V j).length ≤ 4 + 6 * atSz N V j := by
  have h1 := escL_len true (V j).data.toList
  have h2 := bl (N j)
  have h3 := bl (V j)
  unfold atP atSz
  simp only [List.length_append, List.length_cons, List.length_nil]
  omega
theorem ats_len (N V : Nat → ByteArray) : ∀ k, (atsP N V k).length ≤ 4 * k + 6 * sumN (atSz N V) k
  | 0 => Nat.zero_le _
  | k + 1 => by
    have h1 := ats_len N V k
    have h2 := at_len N V k
    have h3 : sumN (atSz N V) (k + 1) = sumN (atSz N V) k + atSz N V k := rfl
    rw [atsP, List.length_append]
    omega
theorem hd_len (D : Dc) (i : Nat) : (hdP D i).length ≤ 1 + (D.NM i).size + 4 * D.AC i + 6 * atsT (D.AC i) (D.AN i) (D.AV i) := by
  have h1 := ats_len (D.AN i) (D.AV i) (D.AC i)
  have h2 := bl (D.NM i)
  unfold hdP atsT
  simp only [List.length_append, List.length_cons, List.length_nil]
  omega
theorem cl_len (D : Dc) (i : Nat) : (clP D i).length = 3 + (D.NM i).size := by
  have h2 := bl (D.NM i)
  unfold clP
  simp only [List.length_append, List.length_cons, List.length_nil]
  omega
theorem tx_len (D : Dc) (i : Nat) : (txP D i).length ≤ 6 * (D.TX i).size := by
  have h1 := escL_len false (D.TX i).data.toList
  have h2 := bl (D.TX i)
  unfold txP
  omega
def wgP (D : Dc) (j : Nat) : Nat := 12 * szD D j + 50
theorem wg_sum (D : Dc) : ∀ n, sumN (wgP D) n = 12 * sumN (szD D) n + 50 * n
  | 0 => rfl
  | n + 1 => by
    have h1 := wg_sum D n
    have h2 : sumN (wgP D) (n + 1) = sumN (wgP D) n + (12 * szD D n + 50) := rfl
    have h3 : sumN (szD D) (n + 1) = sumN (szD D) n + szD D n := rfl
    omega
theorem it_len {D : Dc} {m : Nat} {b : List UInt8} {e : Nat} (h : D.AC m ≤ 10) : (itP D m b e).length ≤ wgP D m + b.length := by
  have h1 := hd_len D m
  have h2 := cl_len D m
  have h3 : wgP D m = 12 * ((D.NM m).size + (D.TX m).size + atsT (D.AC m) (D.AN m) (D.AV m)) + 50 := rfl
  unfold itP
  split
  · simp only [List.length_append, List.length_cons, List.length_nil]; omega
  · simp only [List.length_append, List.length_cons, List.length_nil]; omega
theorem kl_len {D : Dc} (hac : ∀ j, j < D.n → D.AC j ≤ 10) {i : Int} {m : Nat} {b : List UInt8} {e : Nat} (h : Kl D i m b e) : b.length + sumN (wgP D) m ≤ sumN (wgP D) e := by
  induction h with
  | stop h => simp
  | text h1 h2 h3 h ih =>
    rename_i i m b e
    have h4 := tx_len D m
    have h5 : sumN (wgP D) (m + 1) = sumN (wgP D) m + (12 * ((D.NM m).size + (D.TX m).size + atsT (D.AC m) (D.AN m) (D.AV m)) + 50) := rfl
    rw [List.length_append]
    omega
  | elem h1 h2 h3 ha hb iha ihb =>
    rename_i i m b1 e1 b2 e
    have h4 := it_len (b := b1) (e := e1) (hac m h1)
    have h5 : sumN (wgP D) (m + 1) = sumN (wgP D) m + wgP D m := rfl
    rw [List.length_append]
    omega
theorem doc_part {D : Dc} (h : docokB D = true) {j : Nat} (hj : j < D.n) : partB (D.NM j) (D.TX j) (D.AC j) (D.AN j) (D.AV j) = true := by
  have := (docok_facts h).2.1 j hj
  unfold itB pB at this
  simp only [Bool.and_eq_true] at this
  exact this.2
theorem doc_ac {D : Dc} (h : docokB D = true) {j : Nat} (hj : j < D.n) : D.AC j ≤ 10 := by
  have := doc_part h hj
  unfold partB at this
  split at this
  · simp only [Bool.and_eq_true, beq_iff_eq] at this
    omega
  · unfold attrsB at this
    simp only [Bool.and_eq_true, decide_eq_true_eq] at this
    omega
theorem doc_sz {D : Dc} (h : docokB D = true) {j : Nat} (hj : j < D.n) : (D.NM j).size + (D.TX j).size + atsT (D.AC j) (D.AN j) (D.AV j) ≤ 2500 := by
  have h1 := sumN_at (szD D) hj
  have h2 : szD D j = (D.NM j).size + (D.TX j).size + atsT (D.AC j) (D.AN j) (D.AV j) := rfl
  have := (docok_facts h).2.2
  omega
theorem at_sz {n : Nat} {N V : Nat → ByteArray} {k : Nat} (hk : k < n) : (N k).size + (V k).size ≤ atsT n N V := by
  have h1 := sumN_at (atSz N V) hk
  have h2 : atSz N V k = (N k).size + (V k).size := rfl
  unfold atsT
  omega
theorem doc_escT {D : Dc} (h : docokB D = true) {j : Nat} (hj : j < D.n) (hE : isE (D.NM j) = true) : escOk (D.TX j) = true := by
  have h1 := doc_part h hj
  have h2 := doc_sz h hj
  unfold partB at h1
  unfold isE at hE
  rw [if_pos hE] at h1
  simp only [Bool.and_eq_true] at h1
  unfold escOk
  rw [h1.2.2, decide_eq_true (by omega)]
  rfl
theorem doc_escA {D : Dc} (h : docokB D = true) {j : Nat} (hj : j < D.n) (hE : isE (D.NM j) = false) {k : Nat} (hk : k < D.AC j) : escOk (D.AV j k) = true := by
  have h1 := doc_part h hj
  have h2 := doc_sz h hj
  have h3 := at_sz (N := D.AN j) (V := D.AV j) hk
  unfold partB at h1
  rw [if_neg (by unfold isE at hE; rw [hE]; decide)] at h1
  simp only [Bool.and_eq_true] at h1
  have h4 := h1.2.2
  unfold attrsB at h4
  simp only [Bool.and_eq_true, List.all_eq_true, List.mem_range] at h4
  have h5 := h4.2 k hk
  unfold atB at h5
  simp only [Bool.and_eq_true] at h5
  unfold escOk
  rw [h5.2.1, decide_eq_true (by omega)]
  rfl
end Go.Proofs.YthcggdjkfebemaaGreatDoor
