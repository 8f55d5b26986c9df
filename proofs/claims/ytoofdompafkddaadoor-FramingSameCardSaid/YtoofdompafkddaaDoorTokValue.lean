/-
  token.Value and gatepostref01.Value: what each returns. Conditions: none beyond the lengths that a string can have.
-/
import Derived.Test.YtoofdompafkddaaDoorTokIs
namespace Go.Proofs.YtoofdompafkddaaDoor.Tk
open Go.RowKit

set_option maxHeartbeats 2000000 in
theorem value_any (s : ByteArray) (w : World) (hs : s.size ≤ maxLen) :
    Calls Tryd.prog 148 #[.string s] w fun e w' => e = .returned (.bool (isVal s.data.toList)) ∧ w = w' := by
  unfold maxLen at hs
  by_cases h0 : s.size = 0
  · have he := text_empty h0
    have HN := Lib.hid (isVal_nil h0)
    clear h0
    go_enter Tryd.func148, Tryd.ntmps148
    go_wp2_with fail
    go_ret
    exact ⟨by rw [HN.out]; rfl, rfl⟩
  · have hp : 0 < s.size := by omega
    have he := text_full hp
    clear h0
    go_enter Tryd.func148, Tryd.ntmps148
    go_wp2_with fail
    go_loop [8] (fun i => ∃ k : Nat, k ≤ s.size ∧ i = .int .i64 (k : Int) ∧ (s.data.toList.take k).all textByte = true) (fun i => s.size - (intOf i).toNat)
    case atStart => exact ⟨0, Nat.zero_le _, rfl, rfl⟩
    case round =>
      obtain ⟨k, hk, rfl, hal⟩ := hrel
      have HAL := Lib.hid hal
      clear hal
      by_cases hlt : k < s.size
      · cases ht : textByte s[k] with
        | true =>
          have HA := Lib.hid (show (s.data.toList.take (k + 1)).all textByte = true from by rw [all_snoc textByte s k hlt, HAL.out, ht]; rfl)
          have HT := Lib.hid ht
          clear ht
          go_wp2_with (go_at_call 159; refine (textByte_any _ _).mono ?_; rintro e w' ⟨rfl, rfl⟩; rw [HT.out])
          go_round
          case rel => exact ⟨k + 1, by omega, by go_num, HA.out⟩
          case measure => simp [intOf]; omega
        | false =>
          have HN := Lib.hid (isVal_no s k hlt ht)
          have HT := Lib.hid ht
          clear ht
          go_wp2_with (go_at_call 159; refine (textByte_any _ _).mono ?_; rintro e w' ⟨rfl, rfl⟩; rw [HT.out])
          go_ret
          exact ⟨by rw [HN.out]; rfl, rfl⟩
      · obtain rfl : k = s.size := by omega
        have HV := Lib.hid (isVal_all hp HAL.out)
        cases hb0 : blank s[0] with
        | true =>
          have HB := Lib.hid hb0
          have HV2 := Lib.hid (HV.out.trans (show (!blank s[0] && !blank s[s.size - 1]) = false from by rw [hb0]; rfl))
          clear hb0
          go_wp2_with fail
          refine (blank_any _ _).mono ?_
          rintro e w' ⟨rfl, rfl⟩
          rw [HB.out]
          go_wp2_with fail
          go_ret
          exact ⟨by rw [HV2.out]; rfl, rfl⟩
        | false =>
          have HB := Lib.hid hb0
          have HV2 := Lib.hid (HV.out.trans (show (!blank s[0] && !blank s[s.size - 1]) = !blank s[s.size - 1] from by rw [hb0]; rfl))
          clear hb0
          go_wp2_with fail
          refine (blank_any _ _).mono ?_
          rintro e w' ⟨rfl, rfl⟩
          rw [HB.out]
          go_wp2_with fail
          refine (blank_any _ _).mono ?_
          rintro e w' ⟨rfl, rfl⟩
          go_wp2_with fail
          go_ret
          exact ⟨by rw [HV2.out]; rfl, rfl⟩

theorem ref_yes {c : UInt8} (h : textByte c = true) (hb : blank c = false) : (33 : Int) ≤ (c.toNat : Int) ∧ ((c.toNat : Int) == 127) = false := by
  rw [text_ref, hb] at h; simp at h; exact ⟨by omega, beq_eq_false_iff_ne.2 (by omega)⟩
theorem ref_no {c : UInt8} (h : textByte c = false) : blank c = false ∧ ((c.toNat : Int) < 33 ∨ (33 ≤ (c.toNat : Int) ∧ ((c.toNat : Int) == 127) = true)) := by
  rw [text_ref] at h
  cases hb : blank c with
  | true => rw [hb] at h; simp at h
  | false =>
    rw [hb] at h; simp at h
    refine ⟨rfl, ?_⟩
    by_cases h1 : (c.toNat : Int) < 33
    · exact .inl h1
    · exact .inr ⟨by omega, beq_iff_eq.2 (by omega)⟩

set_option maxHeartbeats 2000000 in
theorem refValue_any (s : ByteArray) (w : World) (hs : s.size ≤ maxLen) :
    Calls Tryd.prog 25 #[.string s] w fun e w' => e = .returned (.bool (isVal s.data.toList)) ∧ w = w' := by
  unfold maxLen at hs
  go_enter Tryd.func25, Tryd.ntmps25
  go_wp2_with fail
  go_loop [3] (fun i => ∃ k : Nat, k ≤ s.size ∧ i = .int .i64 (k : Int) ∧ (s.data.toList.take k).all textByte = true) (fun i => s.size - (intOf i).toNat)
  case atStart => exact ⟨0, Nat.zero_le _, rfl, rfl⟩
  case round =>
    obtain ⟨k, hk, rfl, hal⟩ := hrel
    have HAL := Lib.hid hal
    clear hal
    by_cases hlt : k < s.size
    · cases ht : textByte s[k] with
      | true =>
        have HA := Lib.hid (show (s.data.toList.take (k + 1)).all textByte = true from by rw [all_snoc textByte s k hlt, HAL.out, ht]; rfl)
        cases hb : blank s[k] with
        | true =>
          have HB := Lib.hid hb
          clear ht hb
          go_wp2_with (go_at_call 52; refine (refBlank_any _ _).mono ?_; rintro e w' ⟨rfl, rfl⟩; rw [HB.out])
          go_round
          case rel => exact ⟨k + 1, by omega, by go_num, HA.out⟩
          case measure => simp [intOf]; omega
        | false =>
          obtain ⟨t1, t2⟩ := ref_yes ht hb
          have HB := Lib.hid hb
          clear ht hb
          go_wp2_with (go_at_call 52; refine (refBlank_any _ _).mono ?_; rintro e w' ⟨rfl, rfl⟩; rw [HB.out])
          go_round
          case rel => exact ⟨k + 1, by omega, by go_num, HA.out⟩
          case measure => simp [intOf]; omega
      | false =>
        have HN := Lib.hid (isVal_no s k hlt ht)
        obtain ⟨hb, h2⟩ := ref_no ht
        have HB := Lib.hid hb
        clear ht hb
        rcases h2 with h2 | ⟨h2, h3⟩
        all_goals
          go_wp2_with (go_at_call 52; refine (refBlank_any _ _).mono ?_; rintro e w' ⟨rfl, rfl⟩; rw [HB.out])
          go_ret
          exact ⟨by rw [HN.out]; rfl, rfl⟩
    · by_cases h0 : s.size = 0
      · have he := text_empty h0
        have HN := Lib.hid (isVal_nil h0)
        clear h0
        go_wp2_with fail
        go_ret
        exact ⟨by rw [HN.out]; rfl, rfl⟩
      · obtain rfl : k = s.size := by omega
        have hp : 0 < s.size := by omega
        have he := text_full hp
        have HV := Lib.hid (isVal_all hp HAL.out)
        clear h0
        cases hb0 : blank s[0] with
        | true =>
          have HB := Lib.hid hb0
          have HV2 := Lib.hid (HV.out.trans (show (!blank s[0] && !blank s[s.size - 1]) = false from by rw [hb0]; rfl))
          clear hb0
          go_wp2_with fail
          refine (refBlank_any _ _).mono ?_
          rintro e w' ⟨rfl, rfl⟩
          rw [HB.out]
          go_wp2_with fail
          go_ret
          exact ⟨by rw [HV2.out]; rfl, rfl⟩
        | false =>
          have HB := Lib.hid hb0
          have HV2 := Lib.hid (HV.out.trans (show (!blank s[0] && !blank s[s.size - 1]) = !blank s[s.size - 1] from by rw [hb0]; rfl))
          clear hb0
          go_wp2_with fail
          refine (refBlank_any _ _).mono ?_
          rintro e w' ⟨rfl, rfl⟩
          rw [HB.out]
          go_wp2_with fail
          refine (refBlank_any _ _).mono ?_
          rintro e w' ⟨rfl, rfl⟩
          go_wp2_with fail
          go_ret
          exact ⟨by rw [HV2.out]; rfl, rfl⟩
end Go.Proofs.YtoofdompafkddaaDoor.Tk
