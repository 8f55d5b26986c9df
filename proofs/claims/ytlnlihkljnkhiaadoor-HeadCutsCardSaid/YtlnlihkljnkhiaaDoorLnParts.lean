/-
  line.isMinor, isCode, isReason and the reference's reason and version: what each returns. Condition: a text of at most 2^47 bytes.
-/
import Derived.Test.YtlnlihkljnkhiaaDoorLnTarget
namespace Go.Proofs.YtlnlihkljnkhiaaDoor.Ln
open Go.RowKit Go.Proofs.YtlnlihkljnkhiaaDoor.Tk

theorem isMinor_any (n : Int) (w : World) :
    Calls Tryd.prog 45 #[.int .i64 n] w fun e w' => e = .returned (.bool (isMin n)) ∧ w = w' := by
  by_cases h0 : n = 0
  · subst h0
    go_enter Tryd.func45, Tryd.ntmps45
    go_wp2_with fail
    go_ret
    exact ⟨rfl, rfl⟩
  · by_cases h1 : n = 1
    · subst h1
      go_enter Tryd.func45, Tryd.ntmps45
      go_wp2_with fail
      go_ret
      exact ⟨rfl, rfl⟩
    · have t0 : (n == 0) = false := beq_eq_false_iff_ne.2 h0
      have t1 : (n == 1) = false := beq_eq_false_iff_ne.2 h1
      have HV := Lib.hid (show isMin n = false from by unfold isMin; rw [t0, t1]; rfl)
      clear h0 h1
      go_enter Tryd.func45, Tryd.ntmps45
      go_wp2_with fail
      go_ret
      exact ⟨by rw [HV.out]; rfl, rfl⟩

theorem isCode_any (n : Int) (w : World) :
    Calls Tryd.prog 49 #[.int .i64 n] w fun e w' => e = .returned (.bool (isCod n)) ∧ w = w' := by
  by_cases h0 : 100 ≤ n
  · by_cases h1 : n ≤ 599
    · have HV := Lib.hid (show isCod n = true from by simp [isCod, h0, h1])
      go_enter Tryd.func49, Tryd.ntmps49
      go_wp2_with fail
      go_ret
      exact ⟨by rw [HV.out]; rfl, rfl⟩
    · have HV := Lib.hid (show isCod n = false from by simp [isCod, h0, h1])
      have t1 : decide (n ≤ 599) = false := by simpa using h1
      go_enter Tryd.func49, Tryd.ntmps49
      go_wp2_with fail
      go_ret
      exact ⟨by rw [HV.out]; rfl, rfl⟩
  · have HV := Lib.hid (show isCod n = false from by simp [isCod, h0])
    go_enter Tryd.func49, Tryd.ntmps49
    go_wp2_with fail
    go_ret
    exact ⟨by rw [HV.out]; rfl, rfl⟩

theorem ne9 {c : UInt8} (h : (c.toNat : Int) ≠ 9) : ((c.toNat : Int) != 9) = true := by rw [bne_iff_ne]; exact h
theorem ne127 {c : UInt8} (h : (c.toNat : Int) ≠ 127) : ((c.toNat : Int) == 127) = false := beq_eq_false_iff_ne.2 h

set_option maxHeartbeats 1000000 in
theorem isReason_any (s : ByteArray) (w : World) (hs : s.size ≤ maxLen) :
    Calls Tryd.prog 50 #[.string s] w fun e w' => e = .returned (.bool (isRsn s.data.toList)) ∧ w = w' := by
  unfold maxLen at hs
  go_enter Tryd.func50, Tryd.ntmps50
  go_wp2_with fail
  go_loop [6] (fun i => ∃ k : Nat, k ≤ s.size ∧ i = .int .i64 (k : Int) ∧ (s.data.toList.take k).all rs = true) (fun i => s.size - (intOf i).toNat)
  case atStart => exact ⟨0, Nat.zero_le _, rfl, rfl⟩
  case round =>
    obtain ⟨k, hk, rfl, hal⟩ := hrel
    have HAL := Lib.hid hal
    clear hal
    by_cases hlt : k < s.size
    · cases ht : rs s[k] with
      | true =>
        have HA := Lib.hid (show (s.data.toList.take (k + 1)).all rs = true from by rw [all_snoc rs s k hlt, HAL.out, ht]; rfl)
        rcases rs_yes ht with h | ⟨h1, h2⟩
        · have t1 : (s[k].toNat : Int) < 32 := by omega
          have t2 : ((s[k].toNat : Int) != 9) = false := by rw [h]; rfl
          have t3 := ne127 (c := s[k]) (by omega)
          clear ht h
          go_wp2_with fail
          go_round
          case rel => exact ⟨k + 1, by omega, by go_num, HA.out⟩
          case measure => simp [intOf]; omega
        · have t3 := ne127 (c := s[k]) h2
          clear ht h2
          go_wp2_with fail
          go_round
          case rel => exact ⟨k + 1, by omega, by go_num, HA.out⟩
          case measure => simp [intOf]; omega
      | false =>
        have HN := Lib.hid (isRsn_no s k hlt ht)
        rcases rs_no ht with ⟨h1, h2⟩ | h
        · have t2 := ne9 (c := s[k]) h2
          clear ht h2
          go_wp2_with fail
          go_ret
          exact ⟨by rw [HN.out]; rfl, rfl⟩
        · have t1 : (32 : Int) ≤ (s[k].toNat : Int) := by omega
          have t2 : ((s[k].toNat : Int) == 127) = true := by rw [h]; rfl
          clear ht h
          go_wp2_with fail
          go_ret
          exact ⟨by rw [HN.out]; rfl, rfl⟩
    · obtain rfl : k = s.size := by omega
      have HY := Lib.hid (isRsn_yes HAL.out)
      go_wp2_with fail
      go_ret
      exact ⟨by rw [HY.out]; rfl, rfl⟩

set_option maxHeartbeats 1000000 in
theorem refReason_any (s : ByteArray) (w : World) (hs : s.size ≤ maxLen) :
    Calls Tryd.prog 57 #[.string s] w fun e w' => e = .returned (.bool (isRsn s.data.toList)) ∧ w = w' := by
  unfold maxLen at hs
  go_enter Tryd.func57, Tryd.ntmps57
  go_wp2_with fail
  go_loop [3] (fun i => ∃ k : Nat, k ≤ s.size ∧ i = .int .i64 (k : Int) ∧ (s.data.toList.take k).all rs = true) (fun i => s.size - (intOf i).toNat)
  case atStart => exact ⟨0, Nat.zero_le _, rfl, rfl⟩
  case round =>
    obtain ⟨k, hk, rfl, hal⟩ := hrel
    have HAL := Lib.hid hal
    clear hal
    by_cases hlt : k < s.size
    · cases ht : rs s[k] with
      | true =>
        have HA := Lib.hid (show (s.data.toList.take (k + 1)).all rs = true from by rw [all_snoc rs s k hlt, HAL.out, ht]; rfl)
        rcases rs_yes ht with h | ⟨h1, h2⟩
        · have t2 : ((s[k].toNat : Int) != 9) = false := by rw [h]; rfl
          have t3 := ne127 (c := s[k]) (by omega)
          clear ht h
          go_wp2_with fail
          go_round
          case rel => exact ⟨k + 1, by omega, by go_num, HA.out⟩
          case measure => simp [intOf]; omega
        · have t2 := ne9 (c := s[k]) (by omega)
          have t3 := ne127 (c := s[k]) h2
          clear ht h2
          go_wp2_with fail
          go_round
          case rel => exact ⟨k + 1, by omega, by go_num, HA.out⟩
          case measure => simp [intOf]; omega
      | false =>
        have HN := Lib.hid (isRsn_no s k hlt ht)
        rcases rs_no ht with ⟨h1, h2⟩ | h
        · have t2 := ne9 (c := s[k]) h2
          clear ht h2
          go_wp2_with fail
          go_ret
          exact ⟨by rw [HN.out]; rfl, rfl⟩
        · have t1 : (32 : Int) ≤ (s[k].toNat : Int) := by omega
          have t0 := ne9 (c := s[k]) (by omega)
          have t2 : ((s[k].toNat : Int) == 127) = true := by rw [h]; rfl
          clear ht h
          go_wp2_with fail
          go_ret
          exact ⟨by rw [HN.out]; rfl, rfl⟩
    · obtain rfl : k = s.size := by omega
      have HY := Lib.hid (isRsn_yes HAL.out)
      go_wp2_with fail
      go_ret
      exact ⟨by rw [HY.out]; rfl, rfl⟩

theorem text_is {s : ByteArray} {l : Bs} (h : s.data.toList = l) : (s.toList == l) = true := by rw [ByteArray.toList_eq, h]; simp
theorem text_not {s : ByteArray} {l : Bs} (h : s.data.toList ≠ l) : (s.toList == l) = false := by rw [ByteArray.toList_eq, beq_eq_false_iff_ne]; exact h

theorem refVersion_any (s : ByteArray) (w : World) :
    Calls Tryd.prog 55 #[.string s] w fun e w' => e = .returned (.int .i64 (minorOf s.data.toList)) ∧ w = w' := by
  by_cases h0 : s.data.toList = [72, 84, 84, 80, 47, 49, 46, 48]
  · have t0 := text_is h0
    have HV := Lib.hid (show minorOf s.data.toList = 0 from by unfold minorOf ver0 ver1; rw [if_pos h0])
    clear h0
    go_enter Tryd.func55, Tryd.ntmps55
    go_wp2_with fail
    go_ret
    exact ⟨by rw [HV.out]; rfl, rfl⟩
  · have t0 := text_not h0
    by_cases h1 : s.data.toList = [72, 84, 84, 80, 47, 49, 46, 49]
    · have t1 := text_is h1
      have HV := Lib.hid (show minorOf s.data.toList = 1 from by unfold minorOf ver0 ver1; rw [if_neg h0, if_pos h1])
      clear h0 h1
      go_enter Tryd.func55, Tryd.ntmps55
      go_wp2_with fail
      go_ret
      exact ⟨by rw [HV.out]; rfl, rfl⟩
    · have t1 := text_not h1
      have HV := Lib.hid (show minorOf s.data.toList = -1 from by unfold minorOf ver0 ver1; rw [if_neg h0, if_neg h1])
      clear h0 h1
      go_enter Tryd.func55, Tryd.ntmps55
      go_wp2_with fail
      go_ret
      exact ⟨by rw [HV.out]; rfl, rfl⟩
end Go.Proofs.YtlnlihkljnkhiaaDoor.Ln
