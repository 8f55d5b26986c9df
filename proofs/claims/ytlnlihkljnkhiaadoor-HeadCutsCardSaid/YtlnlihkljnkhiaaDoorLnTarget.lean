/-
  line.isTarget and the reference's target: what each returns. Condition: a text of at most 2^47 bytes.
-/
import Derived.Test.YtlnlihkljnkhiaaDoorRows
import Derived.Test.YtlnlihkljnkhiaaDoorLnMath
import Derived.WalkKit
import Derived.WalkLawsBesides
import Derived.Outline
import Derived.Lib.Hide
namespace Go.Proofs.YtlnlihkljnkhiaaDoor.Ln
open Go.RowKit Go.Proofs.YtlnlihkljnkhiaaDoor.Tk

set_option maxHeartbeats 1000000 in
theorem isTarget_any (s : ByteArray) (w : World) (hs : s.size ≤ maxLen) :
    Calls Tryd.prog 44 #[.string s] w fun e w' => e = .returned (.bool (isTgt s.data.toList)) ∧ w = w' := by
  unfold maxLen at hs
  go_enter Tryd.func44, Tryd.ntmps44
  go_wp2_with fail
  go_loop [6] (fun i => ∃ k : Nat, k ≤ s.size ∧ i = .int .i64 (k : Int) ∧ (s.data.toList.take k).all tg = true) (fun i => s.size - (intOf i).toNat)
  case atStart => exact ⟨0, Nat.zero_le _, rfl, rfl⟩
  case round =>
    obtain ⟨k, hk, rfl, hal⟩ := hrel
    have HAL := Lib.hid hal
    clear hal
    by_cases hlt : k < s.size
    · cases ht : tg s[k] with
      | true =>
        have HA := Lib.hid (show (s.data.toList.take (k + 1)).all tg = true from by rw [all_snoc tg s k hlt, HAL.out, ht]; rfl)
        obtain ⟨t1, t2⟩ := tg_yes ht
        clear ht
        go_wp2_with fail
        go_round
        case rel => exact ⟨k + 1, by omega, by go_num, HA.out⟩
        case measure => simp [intOf]; omega
      | false =>
        have HN := Lib.hid (isTgt_no s k hlt ht)
        rcases tg_no ht with t | ⟨t1, t2⟩
        all_goals
          clear ht
          go_wp2_with fail
          go_ret
          exact ⟨by rw [HN.out]; rfl, rfl⟩
    · by_cases h0 : s.size = 0
      · have he := text_empty h0
        have HN := Lib.hid (isTgt_nil h0)
        clear h0
        go_wp2_with fail
        go_ret
        exact ⟨by rw [HN.out]; rfl, rfl⟩
      · obtain rfl : k = s.size := by omega
        have he := text_full (s := s) (by omega)
        have HY := Lib.hid (isTgt_yes (by omega) HAL.out)
        clear h0
        go_wp2_with fail
        go_ret
        exact ⟨by rw [HY.out]; rfl, rfl⟩

set_option maxHeartbeats 1000000 in
theorem refTarget_any (s : ByteArray) (w : World) (hs : s.size ≤ maxLen) :
    Calls Tryd.prog 59 #[.string s] w fun e w' => e = .returned (.bool (isTgt s.data.toList)) ∧ w = w' := by
  unfold maxLen at hs
  go_enter Tryd.func59, Tryd.ntmps59
  go_wp2_with fail
  go_loop [3] (fun i => ∃ k : Nat, k ≤ s.size ∧ i = .int .i64 (k : Int) ∧ (s.data.toList.take k).all tg = true) (fun i => s.size - (intOf i).toNat)
  case atStart => exact ⟨0, Nat.zero_le _, rfl, rfl⟩
  case round =>
    obtain ⟨k, hk, rfl, hal⟩ := hrel
    have HAL := Lib.hid hal
    clear hal
    by_cases hlt : k < s.size
    · cases ht : tg s[k] with
      | true =>
        have HA := Lib.hid (show (s.data.toList.take (k + 1)).all tg = true from by rw [all_snoc tg s k hlt, HAL.out, ht]; rfl)
        obtain ⟨t1, t2⟩ := tg_yes ht
        clear ht
        go_wp2_with fail
        go_round
        case rel => exact ⟨k + 1, by omega, by go_num, HA.out⟩
        case measure => simp [intOf]; omega
      | false =>
        have HN := Lib.hid (isTgt_no s k hlt ht)
        rcases tg_no ht with t | ⟨t1, t2⟩
        all_goals
          clear ht
          go_wp2_with fail
          go_ret
          exact ⟨by rw [HN.out]; rfl, rfl⟩
    · by_cases h0 : s.size = 0
      · have HN := Lib.hid (isTgt_nil h0)
        have hd : decide (0 < s.size) = false := by rw [decide_eq_false_iff_not]; omega
        clear h0
        go_wp2_with fail
        go_ret
        exact ⟨by rw [HN.out]; rfl, rfl⟩
      · obtain rfl : k = s.size := by omega
        have HY := Lib.hid (isTgt_yes (by omega) HAL.out)
        have hd : decide (0 < s.size) = true := by rw [decide_eq_true_iff]; omega
        clear h0
        go_wp2_with fail
        go_ret
        exact ⟨by rw [HY.out]; rfl, rfl⟩
end Go.Proofs.YtlnlihkljnkhiaaDoor.Ln
