/-
  Texts that the law's proof stands on, 4 of them in one file; each one's head says what it proves and under which condition.
-/
import Derived.Test.YtoofdompafkddaaDoorHeadFieldsP8
import Derived.Test.YtoofdompafkddaaDoorRows
import Derived.WalkKit
import Derived.WalkLawsBesides
import Derived.Outline
import Derived.Lib.Hide
import Derived.Laws.BytesArg
import Derived.Deep.QuietTactic
import Derived.BigQuiet
/-
  line.isMinor, isCode, isReason and the reference's reason and version: what each returns. Condition: a text of at most 2^47 bytes.
-/
namespace Go.Proofs.YtoofdompafkddaaDoor.Ln
open Go.RowKit Go.Proofs.YtoofdompafkddaaDoor.Tk

theorem isMinor_any (n : Int) (w : World) :
    Calls Tryd.prog 92 #[.int .i64 n] w fun e w' => e = .returned (.bool (isMin n)) ∧ w = w' := by
  by_cases h0 : n = 0
  · subst h0
    go_enter Tryd.func92, Tryd.ntmps92
    go_wp2_with fail
    go_ret
    exact ⟨rfl, rfl⟩
  · by_cases h1 : n = 1
    · subst h1
      go_enter Tryd.func92, Tryd.ntmps92
      go_wp2_with fail
      go_ret
      exact ⟨rfl, rfl⟩
    · have t0 : (n == 0) = false := beq_eq_false_iff_ne.2 h0
      have t1 : (n == 1) = false := beq_eq_false_iff_ne.2 h1
      have HV := Lib.hid (show isMin n = false from by unfold isMin; rw [t0, t1]; rfl)
      clear h0 h1
      go_enter Tryd.func92, Tryd.ntmps92
      go_wp2_with fail
      go_ret
      exact ⟨by rw [HV.out]; rfl, rfl⟩

theorem isCode_any (n : Int) (w : World) :
    Calls Tryd.prog 96 #[.int .i64 n] w fun e w' => e = .returned (.bool (isCod n)) ∧ w = w' := by
  by_cases h0 : 100 ≤ n
  · by_cases h1 : n ≤ 599
    · have HV := Lib.hid (show isCod n = true from by simp [isCod, h0, h1])
      go_enter Tryd.func96, Tryd.ntmps96
      go_wp2_with fail
      go_ret
      exact ⟨by rw [HV.out]; rfl, rfl⟩
    · have HV := Lib.hid (show isCod n = false from by simp [isCod, h0, h1])
      have t1 : decide (n ≤ 599) = false := by simpa using h1
      go_enter Tryd.func96, Tryd.ntmps96
      go_wp2_with fail
      go_ret
      exact ⟨by rw [HV.out]; rfl, rfl⟩
  · have HV := Lib.hid (show isCod n = false from by simp [isCod, h0])
    go_enter Tryd.func96, Tryd.ntmps96
    go_wp2_with fail
    go_ret
    exact ⟨by rw [HV.out]; rfl, rfl⟩

theorem ne9 {c : UInt8} (h : (c.toNat : Int) ≠ 9) : ((c.toNat : Int) != 9) = true := by rw [bne_iff_ne]; exact h
theorem ne127 {c : UInt8} (h : (c.toNat : Int) ≠ 127) : ((c.toNat : Int) == 127) = false := beq_eq_false_iff_ne.2 h

set_option maxHeartbeats 1000000 in
theorem isReason_any (s : ByteArray) (w : World) (hs : s.size ≤ maxLen) :
    Calls Tryd.prog 97 #[.string s] w fun e w' => e = .returned (.bool (isRsn s.data.toList)) ∧ w = w' := by
  unfold maxLen at hs
  go_enter Tryd.func97, Tryd.ntmps97
  go_wp2_with fail
  go_loop [6] (fun i => ∃ k : Nat, k ≤ s.size ∧ i = .int .i64 (k : Int) ∧ (s.data.toList.take k).all rs = true) (fun i => s.size - (intOf i).toNat)
  case atStart => exact ⟨0, Nat.zero_le _, rfl, rfl⟩
  case round =>
    obtain ⟨k, hk, rfl, hal⟩ := hrel
    have HAL := Lib.hid hal
    clear hal
    by_cases hlt : k < s.size
    · cases ht : rs s[k] with
      | true =>
        have HA := Lib.hid (show (s.data.toList.take (k + 1)).all rs = true from by rw [all_snoc rs s k hlt, HAL.out, ht]; rfl)
        rcases rs_yes ht with h | ⟨h1, h2⟩
        · have t1 : (s[k].toNat : Int) < 32 := by omega
          have t2 : ((s[k].toNat : Int) != 9) = false := by rw [h]; rfl
          have t3 := ne127 (c := s[k]) (by omega)
          clear ht h
          go_wp2_with fail
          go_round
          case rel => exact ⟨k + 1, by omega, by go_num, HA.out⟩
          case measure => simp [intOf]; omega
        · have t3 := ne127 (c := s[k]) h2
          clear ht h2
          go_wp2_with fail
          go_round
          case rel => exact ⟨k + 1, by omega, by go_num, HA.out⟩
          case measure => simp [intOf]; omega
      | false =>
        have HN := Lib.hid (isRsn_no s k hlt ht)
        rcases rs_no ht with ⟨h1, h2⟩ | h
        · have t2 := ne9 (c := s[k]) h2
          clear ht h2
          go_wp2_with fail
          go_ret
          exact ⟨by rw [HN.out]; rfl, rfl⟩
        · have t1 : (32 : Int) ≤ (s[k].toNat : Int) := by omega
          have t2 : ((s[k].toNat : Int) == 127) = true := by rw [h]; rfl
          clear ht h
          go_wp2_with fail
          go_ret
          exact ⟨by rw [HN.out]; rfl, rfl⟩
    · obtain rfl : k = s.size := by omega
      have HY := Lib.hid (isRsn_yes HAL.out)
      go_wp2_with fail
      go_ret
      exact ⟨by rw [HY.out]; rfl, rfl⟩

set_option maxHeartbeats 1000000 in
theorem refReason_any (s : ByteArray) (w : World) (hs : s.size ≤ maxLen) :
    Calls Tryd.prog 103 #[.string s] w fun e w' => e = .returned (.bool (isRsn s.data.toList)) ∧ w = w' := by
  unfold maxLen at hs
  go_enter Tryd.func103, Tryd.ntmps103
  go_wp2_with fail
  go_loop [3] (fun i => ∃ k : Nat, k ≤ s.size ∧ i = .int .i64 (k : Int) ∧ (s.data.toList.take k).all rs = true) (fun i => s.size - (intOf i).toNat)
  case atStart => exact ⟨0, Nat.zero_le _, rfl, rfl⟩
  case round =>
    obtain ⟨k, hk, rfl, hal⟩ := hrel
    have HAL := Lib.hid hal
    clear hal
    by_cases hlt : k < s.size
    · cases ht : rs s[k] with
      | true =>
        have HA := Lib.hid (show (s.data.toList.take (k + 1)).all rs = true from by rw [all_snoc rs s k hlt, HAL.out, ht]; rfl)
        rcases rs_yes ht with h | ⟨h1, h2⟩
        · have t2 : ((s[k].toNat : Int) != 9) = false := by rw [h]; rfl
          have t3 := ne127 (c := s[k]) (by omega)
          clear ht h
          go_wp2_with fail
          go_round
          case rel => exact ⟨k + 1, by omega, by go_num, HA.out⟩
          case measure => simp [intOf]; omega
        · have t2 := ne9 (c := s[k]) (by omega)
          have t3 := ne127 (c := s[k]) h2
          clear ht h2
          go_wp2_with fail
          go_round
          case rel => exact ⟨k + 1, by omega, by go_num, HA.out⟩
          case measure => simp [intOf]; omega
      | false =>
        have HN := Lib.hid (isRsn_no s k hlt ht)
        rcases rs_no ht with ⟨h1, h2⟩ | h
        · have t2 := ne9 (c := s[k]) h2
          clear ht h2
          go_wp2_with fail
          go_ret
          exact ⟨by rw [HN.out]; rfl, rfl⟩
        · have t1 : (32 : Int) ≤ (s[k].toNat : Int) := by omega
          have t0 := ne9 (c := s[k]) (by omega)
          have t2 : ((s[k].toNat : Int) == 127) = true := by rw [h]; rfl
          clear ht h
          go_wp2_with fail
          go_ret
          exact ⟨by rw [HN.out]; rfl, rfl⟩
    · obtain rfl : k = s.size := by omega
      have HY := Lib.hid (isRsn_yes HAL.out)
      go_wp2_with fail
      go_ret
      exact ⟨by rw [HY.out]; rfl, rfl⟩

theorem text_is {s : ByteArray} {l : Bs} (h : s.data.toList = l) : (s.toList == l) = true := by rw [ByteArray.toList_eq, h]; simp
theorem text_not {s : ByteArray} {l : Bs} (h : s.data.toList ≠ l) : (s.toList == l) = false := by rw [ByteArray.toList_eq, beq_eq_false_iff_ne]; exact h

theorem refVersion_any (s : ByteArray) (w : World) :
    Calls Tryd.prog 101 #[.string s] w fun e w' => e = .returned (.int .i64 (minorOf s.data.toList)) ∧ w = w' := by
  by_cases h0 : s.data.toList = [72, 84, 84, 80, 47, 49, 46, 48]
  · have t0 := text_is h0
    have HV := Lib.hid (show minorOf s.data.toList = 0 from by unfold minorOf ver0 ver1; rw [if_pos h0])
    clear h0
    go_enter Tryd.func101, Tryd.ntmps101
    go_wp2_with fail
    go_ret
    exact ⟨by rw [HV.out]; rfl, rfl⟩
  · have t0 := text_not h0
    by_cases h1 : s.data.toList = [72, 84, 84, 80, 47, 49, 46, 49]
    · have t1 := text_is h1
      have HV := Lib.hid (show minorOf s.data.toList = 1 from by unfold minorOf ver0 ver1; rw [if_neg h0, if_pos h1])
      clear h0 h1
      go_enter Tryd.func101, Tryd.ntmps101
      go_wp2_with fail
      go_ret
      exact ⟨by rw [HV.out]; rfl, rfl⟩
    · have t1 := text_not h1
      have HV := Lib.hid (show minorOf s.data.toList = -1 from by unfold minorOf ver0 ver1; rw [if_neg h0, if_neg h1])
      clear h0 h1
      go_enter Tryd.func101, Tryd.ntmps101
      go_wp2_with fail
      go_ret
      exact ⟨by rw [HV.out]; rfl, rfl⟩
end Go.Proofs.YtoofdompafkddaaDoor.Ln
/-
  token.appendDigit, token.Number and gatepostref01.Number: what each returns, for every text and every bound.
  Conditions: none beyond the lengths that a string can have.
-/
namespace Go.Proofs.YtoofdompafkddaaDoor.Num
open Go.RowKit

/-- A digit's byte. -/
def dg (c : UInt8) : Bool := 48 ≤ c.toNat && c.toNat ≤ 57
/-- One digit more, at most 'most'. -/
def step (most n d : Int) : Int := if most < n * 10 + d then most else n * 10 + d
def num (most n : Int) (l : List UInt8) : Int := l.foldl (fun n c => step most n ((c.toNat : Int) - 48)) n

theorem step_bd (most n d : Int) (hm : 0 ≤ most) (hn : 0 ≤ n) (hd : 0 ≤ d) : 0 ≤ step most n d ∧ step most n d ≤ most := by
  unfold step; split <;> omega
theorem dg_bd {c : UInt8} (h : dg c = true) : 48 ≤ (c.toNat : Int) ∧ (c.toNat : Int) ≤ 57 := by
  simp [dg] at h; omega
theorem num_bd (most : Int) (hm : 0 ≤ most) (l : List UInt8) : ∀ (n : Int), 0 ≤ n → n ≤ most → l.all dg = true → 0 ≤ num most n l ∧ num most n l ≤ most := by
  induction l with
  | nil => intro n h0 h1 _; exact ⟨h0, h1⟩
  | cons c l ih =>
    intro n h0 h1 ha
    simp only [List.all_cons, Bool.and_eq_true] at ha
    have hb := dg_bd ha.1
    have hs := step_bd most n ((c.toNat : Int) - 48) hm h0 (by omega)
    exact ih _ hs.1 hs.2 ha.2
theorem num_stay (most : Int) (hm : 0 ≤ most) (l : List UInt8) : l.all dg = true → num most most l = most := by
  induction l with
  | nil => intro _; rfl
  | cons c l ih =>
    intro ha
    simp only [List.all_cons, Bool.and_eq_true] at ha
    have hb := dg_bd ha.1
    have hs : step most most ((c.toNat : Int) - 48) = most := by unfold step; split <;> omega
    show num most (step most most ((c.toNat : Int) - 48)) l = most
    rw [hs]; exact ih ha.2
theorem num_snoc (most n : Int) (l : List UInt8) (c : UInt8) : num most n (l ++ [c]) = step most (num most n l) ((c.toNat : Int) - 48) := by
  simp [num, List.foldl_append]
theorem num_append (most n : Int) (l k : List UInt8) : num most n (l ++ k) = num most (num most n l) k := by
  simp [num, List.foldl_append]
theorem take_snoc (s : ByteArray) (k : Nat) (h : k < s.size) : s.data.toList.take (k + 1) = s.data.toList.take k ++ [s[k]] := by
  rw [List.take_succ_eq_append_getElem (by simpa using h)]; rfl
theorem all_snoc (s : ByteArray) (k : Nat) (h : k < s.size) : (s.data.toList.take (k + 1)).all dg = ((s.data.toList.take k).all dg && dg s[k]) := by
  rw [take_snoc s k h, List.all_append]; simp
theorem all_take (l : List UInt8) (k : Nat) (h : l.all dg = true) : (l.take k).all dg = true := by
  rw [List.all_eq_true] at h ⊢
  intro x hx; exact h x (List.mem_of_mem_take hx)
theorem not_all (s : ByteArray) (k : Nat) (h : k < s.size) (hd : dg s[k] = false) : s.data.toList.all dg = false := by
  rw [List.all_eq_false]
  exact ⟨s[k], by show s.data[k] ∈ _; simp, by simp [hd]⟩

/-- What Number answers. -/
def numOf (s : ByteArray) (most : Int) : Int × Bool := if s.size = 0 ∨ most < 0 ∨ s.data.toList.all dg = false then (0, false) else (num most 0 s.data.toList, true)

set_option maxHeartbeats 400000 in
theorem digit_any (n d most : Int) (w : World) (h0 : 0 ≤ n) (h1 : n ≤ most) (h2 : 0 ≤ d) (h3 : d ≤ 9) (h4 : most ≤ 9223372036854775807) :
    Calls Tryd.prog 138 #[.int .i64 n, .int .i64 d, .int .i64 most] w fun e w' => e = .returned (.int .i64 (step most n d)) ∧ w = w' := by
  by_cases ha : most / 10 < n
  · have HS := Lib.hid (show step most n d = most from by unfold step; rw [if_pos (by omega)])
    go_enter Tryd.func138, Tryd.ntmps138
    go_wp2
    go_ret
    exact ⟨by rw [HS.out]; rfl, rfl⟩
  · by_cases hb : most - n * 10 < d
    · have HS := Lib.hid (show step most n d = most from by unfold step; rw [if_pos (by omega)])
      go_enter Tryd.func138, Tryd.ntmps138
      go_wp2
      go_ret
      exact ⟨by rw [HS.out]; rfl, rfl⟩
    · have HS := Lib.hid (show step most n d = n * 10 + d from by unfold step; rw [if_neg (by omega)])
      go_enter Tryd.func138, Tryd.ntmps138
      go_wp2
      go_ret
      exact ⟨by rw [HS.out]; rfl, rfl⟩

theorem numOf_none {s : ByteArray} {most : Int} (h : s.size = 0 ∨ most < 0 ∨ s.data.toList.all dg = false) : numOf s most = (0, false) := by
  unfold numOf; rw [if_pos h]
theorem numOf_some {s : ByteArray} {most : Int} (h0 : 0 < s.size) (hm : 0 ≤ most) (h : s.data.toList.all dg = true) : numOf s most = (num most 0 s.data.toList, true) := by
  unfold numOf; rw [if_neg (by rw [h]; intro hh; rcases hh with hh | hh | hh <;> first | omega | simp at hh)]
/-- Two results as the walk leaves them. -/
theorem ret2 {a b : Int} {x y : Bool} {p : Int × Bool} (h : p = (b, y)) (h1 : a = b) (h2 : x = y) : Ending.returned (.tuple #[.int .i64 a, .bool x]) = .returned (.tuple #[.int .i64 p.1, .bool p.2]) := by
  rw [h, h1, h2]
theorem empty_of {s : ByteArray} (h : s.size = 0) : s.toList = [] := by
  rw [ByteArray.toList_eq, ← List.length_eq_zero_iff]; simpa using h
theorem full_of {s : ByteArray} (h : 0 < s.size) : s.toList.isEmpty = false := by
  rw [ByteArray.toList_eq]
  cases hl : s.data.toList with
  | nil => have h1 : s.data.toList.length = 0 := by rw [hl]; rfl
           rw [Array.length_toList] at h1
           have h2 : s.size = s.data.size := rfl
           omega
  | cons => rfl
theorem all_of_take {s : ByteArray} (h : (s.data.toList.take s.size).all dg = true) : s.data.toList.all dg = true := by
  rwa [List.take_of_length_le (by simp)] at h
theorem num_of_take (s : ByteArray) (most : Int) : num most 0 (s.data.toList.take s.size) = num most 0 s.data.toList := by
  rw [List.take_of_length_le (by simp)]

set_option maxHeartbeats 1000000 in
theorem number_any (s : ByteArray) (most : Int) (w : World) (hs : s.size ≤ maxLen) (h4 : most ≤ 9223372036854775807) :
    Calls Tryd.prog 113 #[.string s, .int .i64 most] w fun e w' => e = .returned (.tuple #[.int .i64 (numOf s most).1, .bool (numOf s most).2]) ∧ w = w' := by
  unfold maxLen at hs
  by_cases hz : s.size = 0
  · have HN := Lib.hid (numOf_none (most := most) (.inl hz))
    have he := empty_of hz
    clear hz
    go_enter Tryd.func113, Tryd.ntmps113
    go_wp2
    go_ret2
    exact ⟨ret2 HN.out rfl rfl, rfl⟩
  · have he := full_of (s := s) (by omega)
    by_cases hm : most < 0
    · have HN := Lib.hid (numOf_none (s := s) (.inr (.inl hm)))
      go_enter Tryd.func113, Tryd.ntmps113
      go_wp2
      go_ret2
      exact ⟨ret2 HN.out rfl rfl, rfl⟩
    · have hm' : 0 ≤ most := by omega
      go_enter Tryd.func113, Tryd.ntmps113
      go_wp2
      go_loop [6, 16] (fun n i => ∃ k : Nat, k ≤ s.size ∧ i = .int .i64 k ∧ (s.data.toList.take k).all dg = true ∧ n = .int .i64 (num most 0 (s.data.toList.take k))) (fun _ i => s.size - (intOf i).toNat)
      case atStart => exact ⟨0, Nat.zero_le _, rfl, rfl, rfl⟩
      case round =>
        obtain ⟨k, hk, rfl, hal, rfl⟩ := hrel
        have hb := num_bd most hm' (s.data.toList.take k) 0 (by omega) hm' hal
        have HAL := Lib.hid hal
        clear hal
        by_cases hlt : k < s.size
        · by_cases hd : dg s[k] = true
          · have hc := dg_bd hd
            have HS := Lib.hid (show num most 0 (s.data.toList.take (k + 1)) = step most (num most 0 (s.data.toList.take k)) ((s[k].toNat : Int) - 48) from by rw [take_snoc s k hlt, num_snoc])
            have HA := Lib.hid (show (s.data.toList.take (k + 1)).all dg = true from by rw [all_snoc s k hlt, HAL.out, hd]; rfl)
            clear hd
            go_wp2_with (go_at_call 138; refine (digit_any _ _ _ _ (by omega) (by omega) (by omega) (by omega) (by omega)).mono ?_; rintro e w' ⟨rfl, rfl⟩)
            go_round
            case rel => exact ⟨k + 1, by omega, by go_num, HA.out, by rw [HS.out]⟩
            case measure => simp [intOf]; omega
          · have HN := Lib.hid (numOf_none (s := s) (most := most) (.inr (.inr (not_all s k hlt (by simpa using hd)))))
            have hc : (s[k].toNat : Int) < 48 ∨ 57 < (s[k].toNat : Int) := by
              simp [dg] at hd; omega
            clear hd
            rcases hc with hc | hc
            all_goals
              go_wp2
              go_ret2
              exact ⟨ret2 HN.out rfl rfl, rfl⟩
        · obtain rfl : k = s.size := by omega
          have HN := Lib.hid (numOf_some (by omega) hm' (all_of_take HAL.out))
          go_wp2
          go_ret2
          exact ⟨ret2 HN.out (num_of_take _ _) rfl, rfl⟩

theorem early (s : ByteArray) (most : Int) (k : Nat) (hk : k < s.size) (hm : 0 ≤ most) (ha : s.data.toList.all dg = true) (hs : most < num most 0 (s.data.toList.take k) * 10 + ((s[k].toNat : Int) - 48)) :
    num most 0 s.data.toList = most := by
  have h1 : num most 0 (s.data.toList.take (k + 1)) = most := by
    rw [take_snoc s k hk, num_snoc]; unfold step; rw [if_pos hs]
  have h2 : num most 0 s.data.toList = num most 0 (s.data.toList.take (k + 1) ++ s.data.toList.drop (k + 1)) := by rw [List.take_append_drop]
  rw [h2, num_append, h1]
  refine num_stay most hm _ ?_
  rw [List.all_eq_true] at ha ⊢
  intro x hx; exact ha x (List.mem_of_mem_drop hx)
theorem get_dg (s : ByteArray) (k : Nat) (hk : k < s.size) (ha : s.data.toList.all dg = true) : dg s[k] = true := by
  rw [List.all_eq_true] at ha
  exact ha _ (by show s.data[k] ∈ _; simp)

set_option maxHeartbeats 2000000 in
theorem refNumber_any (s : ByteArray) (most : Int) (w : World) (hs : s.size ≤ maxLen) (h4 : most ≤ 9223372036854775807) (h5 : -9223372036854775808 ≤ most) :
    Calls Tryd.prog 102 #[.string s, .int .i64 most] w fun e w' => e = .returned (.tuple #[.int .i64 (numOf s most).1, .bool (numOf s most).2]) ∧ w = w' := by
  unfold maxLen at hs
  by_cases hm : most < 0
  · have HN := Lib.hid (numOf_none (s := s) (.inr (.inl hm)))
    go_enter Tryd.func102, Tryd.ntmps102
    go_wp2
    go_ret2
    exact ⟨ret2 HN.out rfl rfl, rfl⟩
  · have hm' : 0 ≤ most := by omega
    by_cases hz : s.size = 0
    · have HN := Lib.hid (numOf_none (most := most) (.inl hz))
      have he : ((s.size : Int) == 0) = true := by simp [hz]
      clear hz
      go_enter Tryd.func102, Tryd.ntmps102
      go_wp2
      go_ret2
      exact ⟨ret2 HN.out rfl rfl, rfl⟩
    · have he : ((s.size : Int) == 0) = false := beq_eq_false_iff_ne.2 (by omega)
      have hp : 0 < s.size := by omega
      clear hz
      go_enter Tryd.func102, Tryd.ntmps102
      go_wp2
      go_loop [7] (fun i => ∃ k : Nat, k ≤ s.size ∧ i = .int .i64 k ∧ (s.data.toList.take k).all dg = true) (fun i => s.size - (intOf i).toNat)
      case atStart => exact ⟨0, Nat.zero_le _, rfl, rfl⟩
      case round =>
        obtain ⟨k, hk, rfl, hal⟩ := hrel
        have HAL := Lib.hid hal
        clear hal
        by_cases hlt : k < s.size
        · by_cases hd : dg s[k] = true
          · have hc := dg_bd hd
            have HA := Lib.hid (show (s.data.toList.take (k + 1)).all dg = true from by rw [all_snoc s k hlt, HAL.out, hd]; rfl)
            clear hd
            go_wp2
            go_round
            case rel => exact ⟨k + 1, by omega, by go_num, HA.out⟩
            case measure => simp [intOf]; omega
          · have HN := Lib.hid (numOf_none (s := s) (most := most) (.inr (.inr (not_all s k hlt (by simpa using hd)))))
            have hc : (s[k].toNat : Int) < 48 ∨ 57 < (s[k].toNat : Int) := by
              simp [dg] at hd; omega
            clear hd
            rcases hc with hc | hc
            all_goals
              go_wp2
              go_ret2
              exact ⟨ret2 HN.out rfl rfl, rfl⟩
        · obtain rfl : k = s.size := by omega
          have HAA := Lib.hid (all_of_take HAL.out)
          have HN := Lib.hid (numOf_some (by omega) hm' HAA.out)
          clear HAL hk hlt
          go_wp2
          go_loop [6, 8] (fun n i => ∃ k : Nat, k ≤ s.size ∧ i = .int .i64 k ∧ n = .int .i64 (num most 0 (s.data.toList.take k))) (fun _ i => s.size - (intOf i).toNat)
          case atStart => exact ⟨0, Nat.zero_le _, rfl, rfl⟩
          case round =>
            obtain ⟨k, hk, rfl, rfl⟩ := hrel
            have hb := num_bd most hm' (s.data.toList.take k) 0 (by omega) hm' (all_take _ _ HAA.out)
            by_cases hlt : k < s.size
            · have hc := dg_bd (get_dg s k hlt HAA.out)
              have HS := Lib.hid (show num most 0 (s.data.toList.take (k + 1)) = step most (num most 0 (s.data.toList.take k)) ((s[k].toNat : Int) - 48) from by rw [take_snoc s k hlt, num_snoc])
              have HE := Lib.hid (early s most k hlt hm' HAA.out)
              by_cases h1 : most < (s[k].toNat : Int) - 48
              · have ht : (most - ((s[k].toNat : Int) - 48)).tdiv 10 = 0 := by
                  have e : (most - ((s[k].toNat : Int) - 48)) = -(((s[k].toNat : Int) - 48) - most) := by omega
                  rw [e, Int.neg_tdiv, Int.tdiv_eq_ediv_of_nonneg (by omega)]; omega
                have HX := Lib.hid (HE.out (by omega))
                clear HE
                by_cases h2 : 0 < num most 0 (s.data.toList.take k)
                all_goals
                  go_wp2
                  go_ret2
                  exact ⟨ret2 HN.out HX.out.symm rfl, rfl⟩
              · by_cases h2 : (most - ((s[k].toNat : Int) - 48)) / 10 < num most 0 (s.data.toList.take k)
                · have HX := Lib.hid (HE.out (by omega))
                  clear HE
                  go_wp2
                  go_ret2
                  exact ⟨ret2 HN.out HX.out.symm rfl, rfl⟩
                · have HX := Lib.hid (show step most (num most 0 (s.data.toList.take k)) ((s[k].toNat : Int) - 48) = num most 0 (s.data.toList.take k) * 10 + ((s[k].toNat : Int) - 48) from by unfold step; rw [if_neg (by omega)])
                  clear HE
                  go_wp2
                  go_round
                  case rel => exact ⟨k + 1, by omega, by go_num, by rw [HS.out, HX.out]⟩
                  case measure => simp [intOf]; omega
            · obtain rfl : k = s.size := by omega
              go_wp2
              go_ret2
              exact ⟨ret2 HN.out (num_of_take _ _) rfl, rfl⟩
end Go.Proofs.YtoofdompafkddaaDoor.Num
/-
  line.cut, line.readMinor and line.readCode: what each returns. Conditions: at most 1024 bytes.
-/
namespace Go.Proofs.YtoofdompafkddaaDoor.Ln
open Go.RowKit Go.Proofs.YtoofdompafkddaaDoor.Tk

/-- The cells of block b from off on hold these bytes. -/
def Holds (w : World) (b off : Nat) (l : Bs) : Prop := ∀ j (hj : j < l.length), w.cell? ⟨b, off + j, none⟩ = some (.int .u8 (l[j].toNat : Int))
theorem Holds.part {w : World} {b off : Nat} {l : Bs} (h : Holds w b off l) (k m : Nat) (hm : m ≤ l.length) : Holds w b (off + k) ((l.take m).drop k) := by
  intro j hj
  have hj' := hj
  rw [part_length l k m hm] at hj'
  rw [part_get l k m j hm hj, Nat.add_assoc]
  exact h (k + j) (by omega)
theorem Holds.none (w : World) (b off : Nat) {l : Bs} (h : l.length = 0) : Holds w b off l := fun _ hj => by omega
theorem Holds.fst {w : World} {b off : Nat} {l : Bs} (h : Holds w b off l) : Holds w b off (fst l) := by
  have := h.part 0 (idx l) (idx_le l)
  simpa [Ln.fst] using this
theorem Holds.rst {w : World} {b off : Nat} {l : Bs} (h : Holds w b off l) : Holds w b (off + (idx l + 1)) (rst l) := by
  have := h.part (idx l + 1) l.length (Nat.le_refl _)
  simpa [Ln.rst] using this
/-- A slice that reads as these bytes, in a block from lo on. -/
def SB (lo : Nat) (w : World) (v : Value) (l : Bs) : Prop := (∃ b off cap, v = .slice (some ⟨b, off, none⟩) l.length cap ∧ l.length ≤ cap ∧ Holds w b off l ∧ lo ≤ b) ∨ (v = .slice none 0 0 ∧ l = [])
theorem SB.drawn {lo : Nat} {w : World} {v : Value} {l : Bs} (h : SB lo w v l) (n : Nat) : SB lo (w.drewN n) v l := h

theorem bytesOf_map (l : Bs) : Lib.bytesOf (l.map fun c => (c.toNat : Int)) = l := by
  induction l with
  | nil => rfl
  | cons c r ih => simp [Lib.bytesOf] at ih ⊢; exact ih
theorem index_any (b off cap : Nat) (l : Bs) (w : World) (h : Holds w b off l) :
    Calls Tryd.prog 69 #[.slice (some ⟨b, off, none⟩) l.length cap, .int .u8 32] w fun e w' => e = .returned (.int .i64 (Lib.indexByte l 32)) ∧ w = w' := by
  refine (bytes_IndexByte b off l.length cap (l.map fun c => (c.toNat : Int)) 32 w (by simp) ?_).mono ?_
  · intro i hi
    rw [h i hi]
    simp [hi]
  · rintro e w' ⟨rfl, rfl⟩
    rw [bytesOf_map]
    exact ⟨rfl, rfl⟩
theorem index_nil (w : World) :
    Calls Tryd.prog 69 #[.slice none 0 0, .int .u8 32] w fun e w' => e = .returned (.int .i64 (-1)) ∧ w = w' :=
  (bytes_IndexByte_nil 32 w).mono fun _ _ ⟨he, hw⟩ => ⟨he, hw.symm⟩

def CutPost (lo : Nat) (w : World) (l : Bs) (e : Ending) (w' : World) : Prop := ∃ a b, e = .returned (.tuple #[a, b]) ∧ SB lo w a (fst l) ∧ SB lo w b (rst l) ∧ ∃ n, w' = w.drewN n

set_option maxHeartbeats 1000000 in
theorem cut_nil (lo : Nat) (w : World) : Calls Tryd.prog 88 #[.slice none 0 0] w (CutPost lo w []) := by
  go_enter Tryd.func88, Tryd.ntmps88
  go_wp2_with (go_at_call 69; refine (index_nil _).mono ?_; rintro e w' ⟨rfl, rfl⟩)
  go_ret2
  exact ⟨_, _, rfl, .inr ⟨rfl, rfl⟩, .inr ⟨rfl, rfl⟩, 0, rfl⟩

set_option maxHeartbeats 1000000 in
theorem cut_some (lo b off cap : Nat) (l : Bs) (w : World) (hl : l.length ≤ 1024) (hcap : l.length ≤ cap) (hc : Holds w b off l) (hlo : lo ≤ b) :
    Calls Tryd.prog 88 #[.slice (some ⟨b, off, none⟩) l.length cap] w (CutPost lo w l) := by
  have HC := Lib.hid hc
  clear hc
  by_cases h : idx l < l.length
  · have HI := Lib.hid (show Lib.indexByte l 32 = (idx l : Int) from by rw [indexByte_eq, if_pos h])
    have HF := Lib.hid (fst_len l)
    have HR := Lib.hid (rst_len l)
    obtain ⟨k, hk⟩ : ∃ k, k = idx l := ⟨_, rfl⟩
    have HK := Lib.hid hk
    rw [← hk] at h HI HF HR
    clear hk
    by_cases h1 : k + 1 < l.length
    · go_enter Tryd.func88, Tryd.ntmps88
      go_wp2_with (go_at_call 69; refine (index_any _ _ _ l _ HC.out).mono ?_; rintro e w' ⟨rfl, rfl⟩; rw [HI.out])
      go_quiet (fail)
      go_wp2_with fail
      go_ret2
      exact ⟨_, _, rfl, .inl ⟨b, off, k, by rw [HF.out]; rfl, by rw [HF.out]; exact Nat.le_refl _, HC.out.fst, hlo⟩, .inl ⟨b, off + (k + 1), l.length - (k + 1), by rw [HR.out]; rfl, by rw [HR.out]; exact Nat.le_refl _, by have := HC.out.rst; rw [← HK.out] at this; exact this, hlo⟩, _, rfl⟩
    · go_enter Tryd.func88, Tryd.ntmps88
      go_wp2_with (go_at_call 69; refine (index_any _ _ _ l _ HC.out).mono ?_; rintro e w' ⟨rfl, rfl⟩; rw [HI.out])
      go_quiet (fail)
      go_wp2_with fail
      go_ret2
      exact ⟨_, _, rfl, .inl ⟨b, off, k, by rw [HF.out]; rfl, by rw [HF.out]; exact Nat.le_refl _, HC.out.fst, hlo⟩, .inl ⟨b, off, 0, by rw [HR.out, show l.length - (k + 1) = 0 from by omega]; rfl, by rw [HR.out]; omega, Holds.none _ _ _ (by rw [HR.out]; omega), hlo⟩, _, rfl⟩
  · have HI := Lib.hid (show Lib.indexByte l 32 = -1 from by rw [indexByte_eq, if_neg h])
    have HF := Lib.hid (fst_full h)
    have HR := Lib.hid (rst_full h)
    clear h
    go_enter Tryd.func88, Tryd.ntmps88
    go_wp2_with (go_at_call 69; refine (index_any _ _ _ l _ HC.out).mono ?_; rintro e w' ⟨rfl, rfl⟩; rw [HI.out])
    go_ret2
    exact ⟨_, _, rfl, by rw [HF.out]; exact .inl ⟨b, off, _, rfl, Nat.le_refl _, HC.out, hlo⟩, by rw [HR.out]; exact .inr ⟨rfl, rfl⟩, 0, rfl⟩

theorem cut_any (lo : Nat) (v : Value) (l : Bs) (w : World) (hl : l.length ≤ 1024) (h : SB lo w v l) : Calls Tryd.prog 88 #[v] w (CutPost lo w l) := by
  rcases h with ⟨b, off, cap, rfl, hcap, hc, hlo⟩ | ⟨rfl, rfl⟩
  · exact cut_some lo b off cap l w hl hcap hc hlo
  · exact cut_nil lo w

/-- 'string(b)' of bytes that lie so. -/
theorem run_back {lo : Nat} {v : Value} {l : Bs} (w : World) (h : SB lo w v l) : (convert 22 9 v).run Tryd.prog w = .ok (.string ⟨l.toArray⟩) w := by
  rcases h with ⟨b, off, cap, rfl, _, hc, _⟩ | ⟨rfl, rfl⟩
  · refine run_convert_bytes_back w 22 9 5 ⟨b, off, none⟩ cap l Tryd.underlying22 Tryd.underlying5 Tryd.underlying9 fun j hj => ?_
    have := hc j hj
    by_cases h0 : j = 0
    · subst h0; simpa [Addr.add] using this
    · simpa [Addr.add, h0] using this
  · exact run_convert_bytes_nil w 22 5 Tryd.underlying22 Tryd.underlying5 0 0 9 Tryd.underlying9

/-- The version's text of a minor 0 or 1. -/
theorem version_small (n : Nat) (hn : n < 2) (w : World) :
    Calls Tryd.prog 125 #[.int .i64 (n : Int)] w fun e w' => e = .returned (.string ⟨#[72, 84, 84, 80, 47, 49, 46, 48 + UInt8.ofNat n]⟩) ∧ w = w' := by
  have HD := Lib.hid (show Lib.decDigits n = [48 + UInt8.ofNat n] from
    match n, hn with
    | 0, _ => by kernel_rfl
    | 1, _ => by kernel_rfl)
  go_enter Tryd.func125, Tryd.ntmps125
  go_wp2_with fail
  refine (strconv_Itoa_small n (by omega) _).mono ?_
  rintro e w' ⟨rfl, rfl⟩
  rw [HD.out]
  go_wp2_with fail
  go_ret
  exact ⟨rfl, rfl⟩
end Go.Proofs.YtoofdompafkddaaDoor.Ln
/-
  line.readMinor and line.readCode: what each returns. Condition: at most 1024 bytes.
-/
namespace Go.Proofs.YtoofdompafkddaaDoor.Ln
open Go.RowKit Go.Proofs.YtoofdompafkddaaDoor.Tk

theorem version0 (w : World) : Calls Tryd.prog 125 #[.int .i64 0] w fun e w' => e = .returned (.string ⟨#[72, 84, 84, 80, 47, 49, 46, 48]⟩) ∧ w' = w :=
  (version_small 0 (by omega) w).mono fun _ _ ⟨he, hw⟩ => ⟨he, hw.symm⟩
theorem version1 (w : World) : Calls Tryd.prog 125 #[.int .i64 1] w fun e w' => e = .returned (.string ⟨#[72, 84, 84, 80, 47, 49, 46, 49]⟩) ∧ w' = w :=
  (version_small 1 (by omega) w).mono fun _ _ ⟨he, hw⟩ => ⟨he, hw.symm⟩
theorem mk_is {l m : Bs} (h : l = m) : (l == m) = true := by rw [h]; simp
theorem mk_not {l m : Bs} (h : l ≠ m) : (l == m) = false := by rw [beq_eq_false_iff_ne]; exact h

def MinPost (l : Bs) (w : World) (e : Ending) (w' : World) : Prop := e = .returned (.int .i64 (minorOf l)) ∧ ∃ n, w' = w.drewN n
def MinRel (l : Bs) (w : World) (i : Value) (wr : World) : Prop :=
  ∃ z : Int, i = .int .i64 z ∧ (z = 0 ∨ (z = 1 ∧ l ≠ ver0) ∨ (z = 2 ∧ l ≠ ver0 ∧ l ≠ ver1)) ∧ ∃ n, wr = w.drewN n

theorem drew_add {w : World} {a b : Nat} {x y : World} (h1 : x = w.drewN a) (h2 : y = x.drewN b) : ∃ n, y = w.drewN n := ⟨a + b, by rw [h2, h1, World.drewN_drewN]⟩

set_option maxHeartbeats 1000000 in
theorem readMinor_any (lo : Nat) (v : Value) (l : Bs) (w : World) (h : SB lo w v l) :
    Calls Tryd.prog 89 #[v] w (MinPost l w) := by
  have HS := Lib.hid h
  clear h
  go_enter Tryd.func89, Tryd.ntmps89
  go_wp2_with fail
  go_loopw [4] (fun i wr => MinRel l w i wr) (fun i _ => (2 - intOf i).toNat)
  case atStart => exact ⟨0, rfl, .inl rfl, 0, rfl⟩
  case round =>
    obtain ⟨z, rfl, hz, n0, hw⟩ := hrel
    have hback := fun m => run_back (wr.drewN m) (show SB lo (wr.drewN m) v l from by rw [hw]; exact HS.out.drawn n0)
    have HW := Lib.hid hw
    clear hw
    rcases hz with rfl | ⟨rfl, h0⟩ | ⟨rfl, h0, h1⟩
    · by_cases h : l = [72, 84, 84, 80, 47, 49, 46, 48]
      · have t := mk_is h
        have HV := Lib.hid (show minorOf l = 0 from by unfold minorOf ver0; rw [if_pos h])
        clear h
        go_wp2_with fail
        go_quiet ((go_at_call 125; exact Calls.quiet_of_same (version0 _)))
        go_wp2_with fail
        go_ret
        exact ⟨by rw [HV.out]; rfl, drew_add HW.out rfl⟩
      · have t := mk_not h
        have HN := Lib.hid h
        clear h
        go_wp2_with fail
        go_quiet ((go_at_call 125; exact Calls.quiet_of_same (version0 _)))
        go_wp2_with fail
        go_roundw
        case rel => exact ⟨1, rfl, .inr (.inl ⟨rfl, HN.out⟩), drew_add HW.out rfl⟩
        case measure => simp [intOf]
    · by_cases h : l = [72, 84, 84, 80, 47, 49, 46, 49]
      · have t := mk_is h
        have HV := Lib.hid (show minorOf l = 1 from by unfold minorOf; rw [if_neg h0, if_pos (show l = ver1 from h)])
        clear h h0
        go_wp2_with fail
        go_quiet ((go_at_call 125; exact Calls.quiet_of_same (version1 _)))
        go_wp2_with fail
        go_ret
        exact ⟨by rw [HV.out]; rfl, drew_add HW.out rfl⟩
      · have t := mk_not h
        have HN := Lib.hid h
        have HN0 := Lib.hid h0
        clear h h0
        go_wp2_with fail
        go_quiet ((go_at_call 125; exact Calls.quiet_of_same (version1 _)))
        go_wp2_with fail
        go_roundw
        case rel => exact ⟨2, rfl, .inr (.inr ⟨rfl, HN0.out, HN.out⟩), drew_add HW.out rfl⟩
        case measure => simp [intOf]
    · have HV := Lib.hid (show minorOf l = -1 from by unfold minorOf; rw [if_neg h0, if_neg h1])
      clear h0 h1
      go_wp2_with fail
      go_ret
      exact ⟨by rw [HV.out]; rfl, _, HW.out⟩

theorem code_short {l : Bs} (h : l.length ≠ 3) : codeOf l = -1 := by
  match l with
  | [] => rfl
  | [_] => rfl
  | [_, _] => rfl
  | [_, _, _] => exact absurd rfl h
  | _ :: _ :: _ :: _ :: _ => rfl
theorem code_of {l : Bs} {most : Int} (h : l.length = 3) (hm : 999 ≤ most) : codeOf l = if (Num.numOf ⟨l.toArray⟩ most).2 = true then (Num.numOf ⟨l.toArray⟩ most).1 else -1 := by
  match l, h with
  | [a, b, c], _ =>
    have h1 : (⟨#[a, b, c]⟩ : ByteArray).size = 3 := rfl
    have h2 : (⟨#[a, b, c]⟩ : ByteArray).data.toList = [a, b, c] := rfl
    have hd : ∀ c : UInt8, Num.dg c = dgt c := fun _ => rfl
    show codeOf [a, b, c] = if (Num.numOf ⟨#[a, b, c]⟩ most).2 = true then (Num.numOf ⟨#[a, b, c]⟩ most).1 else -1
    unfold Num.numOf codeOf
    rw [h1, h2]
    cases ha : dgt a <;> cases hb : dgt b <;> cases hc : dgt c
    all_goals simp only [List.all_cons, List.all_nil, hd, ha, hb, hc]
    all_goals first | (simp; done) | skip
    have hno : ¬ (3 = 0 ∨ most < 0 ∨ (true && (true && (true && true))) = false) := by simp; omega
    rw [if_pos (show (true && true && true) = true from rfl)]
    simp only [if_neg hno, if_true]
    have e1 := Num.dg_bd (c := a) ha
    have e2 := Num.dg_bd (c := b) hb
    have e3 := Num.dg_bd (c := c) hc
    simp only [Num.num, Num.step, List.foldl_cons, List.foldl_nil]
    rw [if_neg (by omega)]
    rw [if_neg (by omega)]
    rw [if_neg (by omega)]
    omega

set_option maxHeartbeats 1000000 in
theorem readCode_any (lo : Nat) (v : Value) (l : Bs) (w : World) (hl : l.length ≤ 1024) (h : SB lo w v l) :
    Calls Tryd.prog 95 #[v] w fun e w' => e = .returned (.int .i64 (codeOf l)) ∧ w = w' := by
  have hback := run_back w h
  have HL : ∃ a cap, v = .slice a l.length cap := by
    rcases h with ⟨b, off, cap, rfl, _, _, _⟩ | ⟨rfl, rfl⟩
    · exact ⟨_, _, rfl⟩
    · exact ⟨_, _, rfl⟩
  obtain ⟨a, cap, rfl⟩ := HL
  clear h
  by_cases h3 : l.length = 3
  · have HV := Lib.hid (code_of (most := 999) h3 (by omega))
    have t : ((l.length : Int) != 3) = false := by rw [h3]; rfl
    have HS := Lib.hid (show (⟨l.toArray⟩ : ByteArray).size ≤ maxLen from by show l.toArray.size ≤ _; rw [List.size_toArray]; unfold maxLen; omega)
    obtain ⟨N, hN⟩ : ∃ N, N = Num.numOf ⟨l.toArray⟩ 999 := ⟨_, rfl⟩
    have HN := Lib.hid hN
    rw [← hN] at HV
    clear h3 hN
    obtain ⟨N1, N2⟩ := N
    cases N2 with
    | true =>
      go_enter Tryd.func95, Tryd.ntmps95
      go_wp2_with (go_at_call 113; refine (Num.number_any _ 999 _ HS.out (by omega)).mono ?_; rintro e w' ⟨rfl, rfl⟩; rw [← HN.out])
      go_ret
      exact ⟨by rw [HV.out]; rfl, rfl⟩
    | false =>
      go_enter Tryd.func95, Tryd.ntmps95
      go_wp2_with (go_at_call 113; refine (Num.number_any _ 999 _ HS.out (by omega)).mono ?_; rintro e w' ⟨rfl, rfl⟩; rw [← HN.out])
      go_ret
      exact ⟨by rw [HV.out]; rfl, rfl⟩
  · have HV := Lib.hid (code_short h3)
    have t : ((l.length : Int) != 3) = true := by rw [bne_iff_ne]; omega
    clear h3
    go_enter Tryd.func95, Tryd.ntmps95
    go_wp2_with fail
    go_ret
    exact ⟨by rw [HV.out]; rfl, rfl⟩
end Go.Proofs.YtoofdompafkddaaDoor.Ln
