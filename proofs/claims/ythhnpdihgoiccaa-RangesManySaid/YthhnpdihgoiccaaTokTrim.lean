/-
  token.blank, token.trim and token.Trim: what each returns. Conditions: none beyond the lengths that a string or a slice can have.
-/
import Derived.Test.YthhnpdihgoiccaaRows
import Derived.Test.YthhnpdihgoiccaaTokHolds
import Derived.WalkKit
import Derived.WalkLawsBesides
import Derived.Outline
import Derived.Lib.Hide
namespace Go.Proofs.Ythhnpdihgoiccaa.Tk
open Go.RowKit

theorem blank_any (c : UInt8) (w : World) :
    Calls Try.prog 32 #[.int .u8 (c.toNat : Int)] w fun e w' => e = .returned (.bool (blank c)) ∧ w = w' := by
  cases hb : blank c with
  | true =>
    have HB := Lib.hid hb
    rcases blank_yes hb with h | h
    · have h1 : ((c.toNat : Int) == 32) = true := beq_iff_eq.2 h
      clear hb h
      go_enter Try.func32, Try.ntmps32
      go_wp2
      go_ret
      exact ⟨rfl, rfl⟩
    · have h1 : ((c.toNat : Int) == 32) = false := beq_eq_false_iff_ne.2 (by omega)
      have h2 : ((c.toNat : Int) == 9) = true := beq_iff_eq.2 h
      clear hb h
      go_enter Try.func32, Try.ntmps32
      go_wp2
      go_ret
      exact ⟨rfl, rfl⟩
  | false =>
    have h := blank_no hb
    have h1 : ((c.toNat : Int) == 32) = false := beq_eq_false_iff_ne.2 h.1
    have h2 : ((c.toNat : Int) == 9) = false := beq_eq_false_iff_ne.2 h.2
    clear hb h
    go_enter Try.func32, Try.ntmps32
    go_wp2
    go_ret
    exact ⟨rfl, rfl⟩

theorem holds_none (w : World) (b off : Nat) {l : Bs} (h : l.length = 0) : Holds w b off l := fun _ hj => by omega
theorem slice_end {w : World} {b off' n : Nat} {l l' : Bs} (h : l = l') (hn : l'.length = n) (hh : Holds w b off' l') : ∃ o, Ending.returned (.slice (some ⟨b, off', none⟩) n n) = .returned (.slice (some ⟨b, o, none⟩) l.length l.length) ∧ Holds w b o l :=
  ⟨off', by rw [h, hn], by rw [h]; exact hh⟩

set_option maxHeartbeats 1000000 in
theorem trimSlice_any (b off cap : Nat) (l : Bs) (w : World) (hl : l.length ≤ maxLen) (hcap : l.length ≤ cap) (hc : Holds w b off l) :
    Calls Try.prog 23 #[.slice (some ⟨b, off, none⟩) l.length cap] w fun e w' => (∃ off', e = .returned (.slice (some ⟨b, off', none⟩) (trim l).length (trim l).length) ∧ Holds w b off' (trim l)) ∧ w = w' := by
  unfold maxLen at hl
  have HC := Lib.hid hc
  clear hc
  go_enter Try.func23, Try.ntmps23
  go_wp2
  go_loop [3] (fun i => ∃ k : Nat, k ≤ l.length ∧ i = .int .i64 k ∧ ltrim l = ltrim (l.drop k)) (fun i => l.length - (intOf i).toNat)
  case atStart => exact ⟨0, Nat.zero_le _, rfl, rfl⟩
  case round =>
    obtain ⟨k, hk, rfl, hrel⟩ := hrel
    have HR := Lib.hid hrel
    clear hrel
    by_cases hgo : ∃ h : k < l.length, blank l[k] = true
    · obtain ⟨hlt, hb⟩ := hgo
      have hcell := HC.out k hlt
      have HR2 := Lib.hid (HR.out.trans (ltrim_drop_step l k hlt hb))
      have HB := Lib.hid hb
      clear hb
      go_wp2_with (go_at_call 32; refine (blank_any _ _).mono ?_; rintro e w' ⟨rfl, rfl⟩; rw [HB.out])
      go_round
      case rel => exact ⟨k + 1, by omega, by go_num, HR2.out⟩
      case measure => simp [intOf]; omega
    · have HL : Hid (ltrim l = l.drop k) := by
        rw [HR.out]
        by_cases hlt : k < l.length
        · exact ltrim_drop_stop l k hlt (by cases hb : blank l[k] with | true => exact absurd ⟨hlt, hb⟩ hgo | false => rfl)
        · rw [List.drop_eq_nil_of_le (by omega)]; rfl
      have HT := Lib.hid (show trim l = rtrim (l.drop k) from by unfold trim; rw [HL.out])
      clear HR HL
      by_cases hlt : k < l.length
      all_goals
        first | (have hcell := HC.out k hlt; have HB := Lib.hid (show blank l[k] = false from by cases hb : blank l[k] with | true => exact absurd ⟨hlt, hb⟩ hgo | false => rfl)) | skip
        clear hgo
        go_wp2_with (go_at_call 32; refine (blank_any _ _).mono ?_; rintro e w' ⟨rfl, rfl⟩; rw [HB.out])
        go_loop [4] (fun i => ∃ m : Nat, k ≤ m ∧ m ≤ l.length ∧ i = .int .i64 m ∧ trim l = rtrim ((l.take m).drop k)) (fun i => (intOf i).toNat)
        case atStart => exact ⟨l.length, hk, Nat.le_refl _, rfl, by rw [part_all]; exact HT.out⟩
        case round =>
          obtain ⟨m, hkm, hm, rfl, hrel⟩ := hrel
          have HR := Lib.hid hrel
          clear hrel
          by_cases hgo : ∃ h : k < m, blank (l[m - 1]'(by omega)) = true
          · obtain ⟨hlt, hb⟩ := hgo
            have hcell := HC.out (m - 1) (by omega)
            have HR2 := Lib.hid (HR.out.trans (rtrim_part_step l k m hlt hm hb))
            have HB := Lib.hid hb
            have e1 : ((m : Int) - 1).toNat = m - 1 := by omega
            clear hb
            go_wp2_with (go_at_call 32; refine (blank_any _ _).mono ?_; rintro e w' ⟨rfl, rfl⟩; rw [HB.out])
            go_round
            case rel => exact ⟨m - 1, by omega, by omega, by go_num, HR2.out⟩
            case measure => simp [intOf]; omega
          · have HL : Hid (trim l = (l.take m).drop k) := by
              rw [HR.out]
              by_cases hlt : k < m
              · exact rtrim_part_stop l k m hlt hm (by cases hb : blank (l[m - 1]'(by omega)) with | true => exact absurd ⟨hlt, hb⟩ hgo | false => rfl)
              · obtain rfl : k = m := by omega
                exact part_none l k
            by_cases hlt : k < m
            · have hcell := HC.out (m - 1) (by omega)
              have HB := Lib.hid (show blank (l[m - 1]'(by omega)) = false from by cases hb : blank (l[m - 1]'(by omega)) with | true => exact absurd ⟨hlt, hb⟩ hgo | false => rfl)
              clear hgo
              go_wp2_with (go_at_call 32; refine (blank_any _ _).mono ?_; rintro e w' ⟨rfl, rfl⟩; rw [HB.out])
              go_ret
              first | exact ⟨slice_end HL.out (part_length l k m hm) (HC.out.part k m hm), rfl⟩ | (exfalso; omega)
            · go_wp2_with fail
              go_ret
              exact ⟨slice_end HL.out (by rw [part_length l k m hm]; first | done | omega) (holds_none w b off (by rw [part_length l k m hm]; omega)), rfl⟩

theorem trimSlice_at (b off n cap : Nat) (l : Bs) (w : World) (hn : l.length = n) (hl : n ≤ maxLen) (hcap : n ≤ cap) (hc : Holds w b off l) :
    Calls Try.prog 23 #[.slice (some ⟨b, off, none⟩) n cap] w fun e w' => (∃ off', e = .returned (.slice (some ⟨b, off', none⟩) (trim l).length (trim l).length) ∧ Holds w b off' (trim l)) ∧ w = w' := by
  subst hn; exact trimSlice_any b off cap l w hl hcap hc

end Go.Proofs.Ythhnpdihgoiccaa.Tk
