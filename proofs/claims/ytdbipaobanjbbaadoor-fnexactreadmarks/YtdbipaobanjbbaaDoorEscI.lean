/-
  Contracts: the program's escaping: at every text the bytes with their marks, or a refusal; nothing that was there is written.
-/
import Derived.Test.YtdbipaobanjbbaaDoorEsc
import Derived.Test.YtdbipaobanjbbaaDoorBld
namespace Go.Proofs.YtdbipaobanjbbaaDoor
open Go.RowKit
set_option linter.unusedVariables false
set_option linter.unusedSimpArgs false
theorem escI_ret {a b : ByteArray} (h : a = b) : Ending.returned (.string a) = .returned (.string b) := by rw [h]
/-- The mark of a byte; none: it stands for itself. -/
def markL (attr : Bool) (c : UInt8) : List UInt8 :=
  if c = 38 then [38, 97, 109, 112, 59] else if c = 60 then [38, 108, 116, 59] else if c = 62 then [38, 103, 116, 59] else if c = 13 then [38, 35, 49, 51, 59]
  else if attr = true ∧ c = 34 then [38, 113, 117, 111, 116, 59] else if attr = true ∧ c = 9 then [38, 35, 57, 59] else if attr = true ∧ c = 10 then [38, 35, 49, 48, 59] else []
theorem esc_mark (attr : Bool) (c : UInt8) : escB attr c = if markL attr c = [] then [c] else markL attr c := by
  unfold escB markL
  repeat' split
  all_goals simp_all
theorem markL_len (attr : Bool) (c : UInt8) : (markL attr c).length ≤ 6 := by
  unfold markL
  repeat' split
  all_goals simp
theorem u8_of {c d : UInt8} {z : Int} (hz : (c.toNat : Int) = z) (h : z = (d.toNat : Int)) : c = d := u8i.1 (hz.trans h)
theorem u8_ne {c d : UInt8} {z : Int} (hz : (c.toNat : Int) = z) (h : ¬ z = (d.toNat : Int)) : ¬ c = d := fun e => h (by rw [← hz, e])
set_option maxHeartbeats 2000000 in
theorem i_escOf (attr : Bool) (c : UInt8) (z : Int) (hz : (c.toNat : Int) = z) (w : World) :
    Calls Tryd.prog 69 #[.int .u8 z, .bool attr] w fun e w' => e = .returned (.string ⟨(markL attr c).toArray⟩) ∧ w' = w := by
  by_cases h38 : z = 38
  · have HM : Hid ((⟨(markL attr c).toArray⟩ : ByteArray) = ⟨#[38, 97, 109, 112, 59]⟩) := hide (by rw [u8_of (d := 38) hz h38]; rfl)
    subst h38
    clear hz
    go_enter Tryd.func69, Tryd.ntmps69
    go_wp2
    go_ret
    exact ⟨escI_ret HM.out.symm, rfl⟩
  by_cases h60 : z = 60
  · have HM : Hid ((⟨(markL attr c).toArray⟩ : ByteArray) = ⟨#[38, 108, 116, 59]⟩) := hide (by rw [u8_of (d := 60) hz h60]; rfl)
    subst h60
    clear hz h38
    go_enter Tryd.func69, Tryd.ntmps69
    go_wp2
    go_ret
    exact ⟨escI_ret HM.out.symm, rfl⟩
  by_cases h62 : z = 62
  · have HM : Hid ((⟨(markL attr c).toArray⟩ : ByteArray) = ⟨#[38, 103, 116, 59]⟩) := hide (by rw [u8_of (d := 62) hz h62]; rfl)
    subst h62
    clear hz h38 h60
    go_enter Tryd.func69, Tryd.ntmps69
    go_wp2
    go_ret
    exact ⟨escI_ret HM.out.symm, rfl⟩
  by_cases h13 : z = 13
  · have HM : Hid ((⟨(markL attr c).toArray⟩ : ByteArray) = ⟨#[38, 35, 49, 51, 59]⟩) := hide (by rw [u8_of (d := 13) hz h13]; rfl)
    subst h13
    clear hz h38 h60 h62
    go_enter Tryd.func69, Tryd.ntmps69
    go_wp2
    go_ret
    exact ⟨escI_ret HM.out.symm, rfl⟩
  have n38 := u8_ne (d := 38) hz h38
  have n60 := u8_ne (d := 60) hz h60
  have n62 := u8_ne (d := 62) hz h62
  have n13 := u8_ne (d := 13) hz h13
  have f38 : (z == 38) = false := by simpa using h38
  have f60 : (z == 60) = false := by simpa using h60
  have f62 : (z == 62) = false := by simpa using h62
  have f13 : (z == 13) = false := by simpa using h13
  cases attr
  · have HM : Hid ((⟨(markL false c).toArray⟩ : ByteArray) = ⟨#[]⟩) := hide (by unfold markL; rw [if_neg n38, if_neg n60, if_neg n62, if_neg n13]; simp)
    clear hz h38 h60 h62 h13 n38 n60 n62 n13
    go_enter Tryd.func69, Tryd.ntmps69
    go_wp2
    go_ret
    exact ⟨escI_ret HM.out.symm, rfl⟩
  · by_cases h34 : z = 34
    · have HM : Hid ((⟨(markL true c).toArray⟩ : ByteArray) = ⟨#[38, 113, 117, 111, 116, 59]⟩) := hide (by rw [u8_of (d := 34) hz h34]; rfl)
      subst h34
      clear hz h38 h60 h62 h13 n38 n60 n62 n13 f38 f60 f62 f13
      go_enter Tryd.func69, Tryd.ntmps69
      go_wp2
      go_ret
      exact ⟨escI_ret HM.out.symm, rfl⟩
    by_cases h9 : z = 9
    · have HM : Hid ((⟨(markL true c).toArray⟩ : ByteArray) = ⟨#[38, 35, 57, 59]⟩) := hide (by rw [u8_of (d := 9) hz h9]; rfl)
      subst h9
      clear hz h38 h60 h62 h13 n38 n60 n62 n13 f38 f60 f62 f13 h34
      go_enter Tryd.func69, Tryd.ntmps69
      go_wp2
      go_ret
      exact ⟨escI_ret HM.out.symm, rfl⟩
    by_cases h10 : z = 10
    · have HM : Hid ((⟨(markL true c).toArray⟩ : ByteArray) = ⟨#[38, 35, 49, 48, 59]⟩) := hide (by rw [u8_of (d := 10) hz h10]; rfl)
      subst h10
      clear hz h38 h60 h62 h13 n38 n60 n62 n13 f38 f60 f62 f13 h34 h9
      go_enter Tryd.func69, Tryd.ntmps69
      go_wp2
      go_ret
      exact ⟨escI_ret HM.out.symm, rfl⟩
    have n34 := u8_ne (d := 34) hz h34
    have n9 := u8_ne (d := 9) hz h9
    have n10 := u8_ne (d := 10) hz h10
    have f34 : (z == 34) = false := by simpa using h34
    have f9 : (z == 9) = false := by simpa using h9
    have f10 : (z == 10) = false := by simpa using h10
    have HM : Hid ((⟨(markL true c).toArray⟩ : ByteArray) = ⟨#[]⟩) := hide (by unfold markL; rw [if_neg n38, if_neg n60, if_neg n62, if_neg n13, if_neg (fun h => n34 h.2), if_neg (fun h => n9 h.2), if_neg (fun h => n10 h.2)])
    clear hz h38 h60 h62 h13 n38 n60 n62 n13 h34 h9 h10 n34 n9 n10
    go_enter Tryd.func69, Tryd.ntmps69
    go_wp2
    go_ret
    exact ⟨escI_ret HM.out.symm, rfl⟩
end Go.Proofs.YtdbipaobanjbbaaDoor
