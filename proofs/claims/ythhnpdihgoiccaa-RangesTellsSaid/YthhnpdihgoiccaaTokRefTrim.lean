/-
  gatepostref01.blank and gatepostref01.Trim: what each returns. Conditions: none beyond the lengths that a string can have.
-/
import Derived.Test.YthhnpdihgoiccaaRows
import Derived.Test.YthhnpdihgoiccaaTokMath
import Derived.WalkKit
import Derived.WalkLawsBesides
import Derived.Outline
import Derived.Lib.Hide
namespace Go.Proofs.Ythhnpdihgoiccaa.Tk
open Go.RowKit

theorem refBlank_any (c : UInt8) (w : World) :
    Calls Try.prog 35 #[.int .u8 (c.toNat : Int)] w fun e w' => e = .returned (.bool (blank c)) ∧ w = w' := by
  cases hb : blank c with
  | true =>
    have HB := Lib.hid hb
    rcases blank_yes hb with h | h
    · have h1 : ((c.toNat : Int) == 32) = true := beq_iff_eq.2 h
      clear hb h
      go_enter Try.func35, Try.ntmps35
      go_wp2
      go_ret
      exact ⟨rfl, rfl⟩
    · have h1 : ((c.toNat : Int) == 32) = false := beq_eq_false_iff_ne.2 (by omega)
      have h2 : ((c.toNat : Int) == 9) = true := beq_iff_eq.2 h
      clear hb h
      go_enter Try.func35, Try.ntmps35
      go_wp2
      go_ret
      exact ⟨rfl, rfl⟩
  | false =>
    have h := blank_no hb
    have h1 : ((c.toNat : Int) == 32) = false := beq_eq_false_iff_ne.2 h.1
    have h2 : ((c.toNat : Int) == 9) = false := beq_eq_false_iff_ne.2 h.2
    clear hb h
    go_enter Try.func35, Try.ntmps35
    go_wp2
    go_ret
    exact ⟨rfl, rfl⟩

/-- A text that is cut: its bytes. -/
theorem cut_front (t : ByteArray) : (t.extract 1 t.size).data.toList = t.data.toList.drop 1 := by
  simp
  apply List.take_of_length_le
  have h : t.data.toList.length = t.size := by simp
  rw [List.length_tail, h]
  exact Nat.le_refl _
theorem cut_back (t : ByteArray) : (t.extract 0 (t.size - 1)).data.toList = t.data.toList.take (t.size - 1) := by
  simp
  have h : t.data.toList.length = t.size := by simp
  rw [List.dropLast_eq_take, h]
theorem byte_at (t : ByteArray) (k : Nat) (hk : k < t.size) : t.data.toList[k]'(by simpa using hk) = t[k] := rfl
theorem front_step (t : ByteArray) (h0 : 0 < t.size) (hb : blank t[0] = true) : ltrim t.data.toList = ltrim (t.extract 1 t.size).data.toList := by
  have := ltrim_drop_step t.data.toList 0 (by simpa using h0) hb
  rw [cut_front]; simpa using this
theorem front_stop (t : ByteArray) (h0 : 0 < t.size) (hb : blank t[0] = false) : ltrim t.data.toList = t.data.toList := by
  have := ltrim_drop_stop t.data.toList 0 (by simpa using h0) hb
  simpa using this
theorem list_nil (t : ByteArray) (h : ¬ 0 < t.size) : t.data.toList = [] := by
  rw [← List.length_eq_zero_iff]; have : t.data.toList.length = t.size := by simp
  omega
theorem back_step (t : ByteArray) (h0 : 0 < t.size) (hb : blank (t[t.size - 1]) = true) : rtrim t.data.toList = rtrim (t.extract 0 (t.size - 1)).data.toList := by
  have hl : t.data.toList.length = t.size := by simp
  have := rtrim_part_step t.data.toList 0 t.size h0 (by omega) hb
  rw [cut_back]
  rw [List.take_of_length_le (by omega)] at this
  simpa using this
theorem back_stop (t : ByteArray) (h0 : 0 < t.size) (hb : blank (t[t.size - 1]) = false) : rtrim t.data.toList = t.data.toList := by
  have hl : t.data.toList.length = t.size := by simp
  have := rtrim_part_stop t.data.toList 0 t.size h0 (by omega) hb
  rw [List.take_of_length_le (by omega)] at this
  simpa using this
theorem bytes_ext {t : ByteArray} {l : Bs} (h : t.data.toList = l) : t = ⟨l.toArray⟩ := by
  subst h; cases t; rfl
theorem front_size (t : ByteArray) : (t.extract 1 t.size).size = t.size - 1 := by simp
theorem back_size (t : ByteArray) : (t.extract 0 (t.size - 1)).size = t.size - 1 := by simp

/-- The size of a text in a slot. -/
def sizeOf' : Value → Nat
  | .string t => t.size
  | _ => 0

set_option maxHeartbeats 1000000 in
theorem refTrim_any (s : ByteArray) (w : World) (hs : s.size ≤ maxLen) :
    Calls Try.prog 29 #[.string s] w fun e w' => e = .returned (.string ⟨(trim s.data.toList).toArray⟩) ∧ w = w' := by
  unfold maxLen at hs
  go_enter Try.func29, Try.ntmps29
  go_wp2_with fail
  go_loop [0] (fun v => ∃ t : ByteArray, v = .string t ∧ t.size ≤ s.size ∧ ltrim s.data.toList = ltrim t.data.toList) (fun v => sizeOf' v)
  case atStart => exact ⟨s, rfl, Nat.le_refl _, rfl⟩
  case round =>
    obtain ⟨t, rfl, hts, hrel⟩ := hrel
    have HR := Lib.hid hrel
    clear hrel
    by_cases hgo : ∃ h : 0 < t.size, blank t[0] = true
    · obtain ⟨h0, hb⟩ := hgo
      have HR2 := Lib.hid (HR.out.trans (front_step t h0 hb))
      have HB := Lib.hid hb
      clear hb
      go_wp2_with (go_at_call 35; refine (refBlank_any _ _).mono ?_; rintro e w' ⟨rfl, rfl⟩; rw [HB.out])
      go_round
      case rel => exact ⟨_, rfl, by rw [front_size]; omega, HR2.out⟩
      case measure => simp only [sizeOf']; rw [front_size]; omega
    · have HL := Lib.hid (show trim s.data.toList = rtrim t.data.toList from by
        unfold trim; rw [HR.out]
        by_cases h0 : 0 < t.size
        · rw [front_stop t h0 (by cases hb : blank t[0] with | true => exact absurd ⟨h0, hb⟩ hgo | false => rfl)]
        · rw [list_nil t h0]; rfl)
      by_cases h0 : 0 < t.size
      all_goals
        first | (have HB := Lib.hid (show blank t[0] = false from by cases hb : blank t[0] with | true => exact absurd ⟨h0, hb⟩ hgo | false => rfl)) | skip
        clear hgo HR
        go_wp2_with (go_at_call 35; refine (refBlank_any _ _).mono ?_; rintro e w' ⟨rfl, rfl⟩; rw [HB.out])
        go_loop [0] (fun v => ∃ u : ByteArray, v = .string u ∧ u.size ≤ s.size ∧ rtrim t.data.toList = rtrim u.data.toList) (fun v => sizeOf' v)
        case atStart => exact ⟨t, rfl, hts, rfl⟩
        case round =>
          obtain ⟨u, rfl, hus, hrel⟩ := hrel
          have HR := Lib.hid hrel
          clear hrel
          by_cases hgo : ∃ h : 0 < u.size, blank (u[u.size - 1]) = true
          · obtain ⟨h0, hb⟩ := hgo
            have HR2 := Lib.hid (HR.out.trans (back_step u h0 hb))
            have HB := Lib.hid hb
            clear hb
            go_wp2_with (go_at_call 35; refine (refBlank_any _ _).mono ?_; rintro e w' ⟨rfl, rfl⟩; rw [HB.out])
            go_round
            case rel => exact ⟨_, rfl, by rw [back_size]; omega, HR2.out⟩
            case measure => simp only [sizeOf']; rw [back_size]; omega
          · have HE := Lib.hid (show u = ⟨(trim s.data.toList).toArray⟩ from by
              apply bytes_ext
              rw [HL.out, HR.out]
              by_cases h0 : 0 < u.size
              · rw [back_stop u h0 (by cases hb : blank (u[u.size - 1]) with | true => exact absurd ⟨h0, hb⟩ hgo | false => rfl)]
              · rw [list_nil u h0]; rfl)
            by_cases h0 : 0 < u.size
            all_goals
              first | (have HB := Lib.hid (show blank (u[u.size - 1]) = false from by cases hb : blank (u[u.size - 1]) with | true => exact absurd ⟨h0, hb⟩ hgo | false => rfl)) | skip
              clear hgo HR
              go_wp2_with (go_at_call 35; refine (refBlank_any _ _).mono ?_; rintro e w' ⟨rfl, rfl⟩; rw [HB.out])
              go_ret
              exact ⟨by rw [← HE.out]; rfl, rfl⟩
end Go.Proofs.Ythhnpdihgoiccaa.Tk
