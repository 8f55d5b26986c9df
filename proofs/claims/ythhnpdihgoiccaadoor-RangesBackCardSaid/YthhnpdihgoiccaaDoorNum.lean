/-
  token.appendDigit, token.Number and gatepostref01.Number: what each returns, for every text and every bound.
  Conditions: none beyond the lengths that a string can have.
-/
import Derived.Test.YthhnpdihgoiccaaDoorRows
import Derived.WalkKit
import Derived.WalkLawsBesides
import Derived.Outline
import Derived.Lib.Hide
namespace Go.Proofs.YthhnpdihgoiccaaDoor.Num
open Go.RowKit

/-- A digit's byte. -/
def dg (c : UInt8) : Bool := 48 ≤ c.toNat && c.toNat ≤ 57
/-- One digit more, at most 'most'. -/
def step (most n d : Int) : Int := if most < n * 10 + d then most else n * 10 + d
def num (most n : Int) (l : List UInt8) : Int := l.foldl (fun n c => step most n ((c.toNat : Int) - 48)) n

theorem step_bd (most n d : Int) (hm : 0 ≤ most) (hn : 0 ≤ n) (hd : 0 ≤ d) : 0 ≤ step most n d ∧ step most n d ≤ most := by
  unfold step; split <;> omega
theorem dg_bd {c : UInt8} (h : dg c = true) : 48 ≤ (c.toNat : Int) ∧ (c.toNat : Int) ≤ 57 := by
  simp [dg] at h; omega
theorem num_bd (most : Int) (hm : 0 ≤ most) (l : List UInt8) : ∀ (n : Int), 0 ≤ n → n ≤ most → l.all dg = true → 0 ≤ num most n l ∧ num most n l ≤ most := by
  induction l with
  | nil => intro n h0 h1 _; exact ⟨h0, h1⟩
  | cons c l ih =>
    intro n h0 h1 ha
    simp only [List.all_cons, Bool.and_eq_true] at ha
    have hb := dg_bd ha.1
    have hs := step_bd most n ((c.toNat : Int) - 48) hm h0 (by omega)
    exact ih _ hs.1 hs.2 ha.2
theorem num_stay (most : Int) (hm : 0 ≤ most) (l : List UInt8) : l.all dg = true → num most most l = most := by
  induction l with
  | nil => intro _; rfl
  | cons c l ih =>
    intro ha
    simp only [List.all_cons, Bool.and_eq_true] at ha
    have hb := dg_bd ha.1
    have hs : step most most ((c.toNat : Int) - 48) = most := by unfold step; split <;> omega
    show num most (step most most ((c.toNat : Int) - 48)) l = most
    rw [hs]; exact ih ha.2
theorem num_snoc (most n : Int) (l : List UInt8) (c : UInt8) : num most n (l ++ [c]) = step most (num most n l) ((c.toNat : Int) - 48) := by
  simp [num, List.foldl_append]
theorem num_append (most n : Int) (l k : List UInt8) : num most n (l ++ k) = num most (num most n l) k := by
  simp [num, List.foldl_append]
theorem take_snoc (s : ByteArray) (k : Nat) (h : k < s.size) : s.data.toList.take (k + 1) = s.data.toList.take k ++ [s[k]] := by
  rw [List.take_succ_eq_append_getElem (by simpa using h)]; rfl
theorem all_snoc (s : ByteArray) (k : Nat) (h : k < s.size) : (s.data.toList.take (k + 1)).all dg = ((s.data.toList.take k).all dg && dg s[k]) := by
  rw [take_snoc s k h, List.all_append]; simp
theorem all_take (l : List UInt8) (k : Nat) (h : l.all dg = true) : (l.take k).all dg = true := by
  rw [List.all_eq_true] at h ⊢
  intro x hx; exact h x (List.mem_of_mem_take hx)
theorem not_all (s : ByteArray) (k : Nat) (h : k < s.size) (hd : dg s[k] = false) : s.data.toList.all dg = false := by
  rw [List.all_eq_false]
  exact ⟨s[k], by show s.data[k] ∈ _; simp, by simp [hd]⟩

/-- What Number answers. -/
def numOf (s : ByteArray) (most : Int) : Int × Bool := if s.size = 0 ∨ most < 0 ∨ s.data.toList.all dg = false then (0, false) else (num most 0 s.data.toList, true)

set_option maxHeartbeats 400000 in
theorem digit_any (n d most : Int) (w : World) (h0 : 0 ≤ n) (h1 : n ≤ most) (h2 : 0 ≤ d) (h3 : d ≤ 9) (h4 : most ≤ 9223372036854775807) :
    Calls Tryd.prog 32 #[.int .i64 n, .int .i64 d, .int .i64 most] w fun e w' => e = .returned (.int .i64 (step most n d)) ∧ w = w' := by
  by_cases ha : most / 10 < n
  · have HS := Lib.hid (show step most n d = most from by unfold step; rw [if_pos (by omega)])
    go_enter Tryd.func32, Tryd.ntmps32
    go_wp2
    go_ret
    exact ⟨by rw [HS.out]; rfl, rfl⟩
  · by_cases hb : most - n * 10 < d
    · have HS := Lib.hid (show step most n d = most from by unfold step; rw [if_pos (by omega)])
      go_enter Tryd.func32, Tryd.ntmps32
      go_wp2
      go_ret
      exact ⟨by rw [HS.out]; rfl, rfl⟩
    · have HS := Lib.hid (show step most n d = n * 10 + d from by unfold step; rw [if_neg (by omega)])
      go_enter Tryd.func32, Tryd.ntmps32
      go_wp2
      go_ret
      exact ⟨by rw [HS.out]; rfl, rfl⟩

theorem numOf_none {s : ByteArray} {most : Int} (h : s.size = 0 ∨ most < 0 ∨ s.data.toList.all dg = false) : numOf s most = (0, false) := by
  unfold numOf; rw [if_pos h]
theorem numOf_some {s : ByteArray} {most : Int} (h0 : 0 < s.size) (hm : 0 ≤ most) (h : s.data.toList.all dg = true) : numOf s most = (num most 0 s.data.toList, true) := by
  unfold numOf; rw [if_neg (by rw [h]; intro hh; rcases hh with hh | hh | hh <;> first | omega | simp at hh)]
/-- Two results as the walk leaves them. -/
theorem ret2 {a b : Int} {x y : Bool} {p : Int × Bool} (h : p = (b, y)) (h1 : a = b) (h2 : x = y) : Ending.returned (.tuple #[.int .i64 a, .bool x]) = .returned (.tuple #[.int .i64 p.1, .bool p.2]) := by
  rw [h, h1, h2]
theorem empty_of {s : ByteArray} (h : s.size = 0) : s.toList = [] := by
  rw [ByteArray.toList_eq, ← List.length_eq_zero_iff]; simpa using h
theorem full_of {s : ByteArray} (h : 0 < s.size) : s.toList.isEmpty = false := by
  rw [ByteArray.toList_eq]
  cases hl : s.data.toList with
  | nil => have h1 : s.data.toList.length = 0 := by rw [hl]; rfl
           rw [Array.length_toList] at h1
           have h2 : s.size = s.data.size := rfl
           omega
  | cons => rfl
theorem all_of_take {s : ByteArray} (h : (s.data.toList.take s.size).all dg = true) : s.data.toList.all dg = true := by
  rwa [List.take_of_length_le (by simp)] at h
theorem num_of_take (s : ByteArray) (most : Int) : num most 0 (s.data.toList.take s.size) = num most 0 s.data.toList := by
  rw [List.take_of_length_le (by simp)]

set_option maxHeartbeats 1000000 in
theorem number_any (s : ByteArray) (most : Int) (w : World) (hs : s.size ≤ maxLen) (h4 : most ≤ 9223372036854775807) :
    Calls Tryd.prog 25 #[.string s, .int .i64 most] w fun e w' => e = .returned (.tuple #[.int .i64 (numOf s most).1, .bool (numOf s most).2]) ∧ w = w' := by
  unfold maxLen at hs
  by_cases hz : s.size = 0
  · have HN := Lib.hid (numOf_none (most := most) (.inl hz))
    have he := empty_of hz
    clear hz
    go_enter Tryd.func25, Tryd.ntmps25
    go_wp2
    go_ret2
    exact ⟨ret2 HN.out rfl rfl, rfl⟩
  · have he := full_of (s := s) (by omega)
    by_cases hm : most < 0
    · have HN := Lib.hid (numOf_none (s := s) (.inr (.inl hm)))
      go_enter Tryd.func25, Tryd.ntmps25
      go_wp2
      go_ret2
      exact ⟨ret2 HN.out rfl rfl, rfl⟩
    · have hm' : 0 ≤ most := by omega
      go_enter Tryd.func25, Tryd.ntmps25
      go_wp2
      go_loop [6, 16] (fun n i => ∃ k : Nat, k ≤ s.size ∧ i = .int .i64 k ∧ (s.data.toList.take k).all dg = true ∧ n = .int .i64 (num most 0 (s.data.toList.take k))) (fun _ i => s.size - (intOf i).toNat)
      case atStart => exact ⟨0, Nat.zero_le _, rfl, rfl, rfl⟩
      case round =>
        obtain ⟨k, hk, rfl, hal, rfl⟩ := hrel
        have hb := num_bd most hm' (s.data.toList.take k) 0 (by omega) hm' hal
        have HAL := Lib.hid hal
        clear hal
        by_cases hlt : k < s.size
        · by_cases hd : dg s[k] = true
          · have hc := dg_bd hd
            have HS := Lib.hid (show num most 0 (s.data.toList.take (k + 1)) = step most (num most 0 (s.data.toList.take k)) ((s[k].toNat : Int) - 48) from by rw [take_snoc s k hlt, num_snoc])
            have HA := Lib.hid (show (s.data.toList.take (k + 1)).all dg = true from by rw [all_snoc s k hlt, HAL.out, hd]; rfl)
            clear hd
            go_wp2_with (go_at_call 32; refine (digit_any _ _ _ _ (by omega) (by omega) (by omega) (by omega) (by omega)).mono ?_; rintro e w' ⟨rfl, rfl⟩)
            go_round
            case rel => exact ⟨k + 1, by omega, by go_num, HA.out, by rw [HS.out]⟩
            case measure => simp [intOf]; omega
          · have HN := Lib.hid (numOf_none (s := s) (most := most) (.inr (.inr (not_all s k hlt (by simpa using hd)))))
            have hc : (s[k].toNat : Int) < 48 ∨ 57 < (s[k].toNat : Int) := by
              simp [dg] at hd; omega
            clear hd
            rcases hc with hc | hc
            all_goals
              go_wp2
              go_ret2
              exact ⟨ret2 HN.out rfl rfl, rfl⟩
        · obtain rfl : k = s.size := by omega
          have HN := Lib.hid (numOf_some (by omega) hm' (all_of_take HAL.out))
          go_wp2
          go_ret2
          exact ⟨ret2 HN.out (num_of_take _ _) rfl, rfl⟩

theorem early (s : ByteArray) (most : Int) (k : Nat) (hk : k < s.size) (hm : 0 ≤ most) (ha : s.data.toList.all dg = true) (hs : most < num most 0 (s.data.toList.take k) * 10 + ((s[k].toNat : Int) - 48)) :
    num most 0 s.data.toList = most := by
  have h1 : num most 0 (s.data.toList.take (k + 1)) = most := by
    rw [take_snoc s k hk, num_snoc]; unfold step; rw [if_pos hs]
  have h2 : num most 0 s.data.toList = num most 0 (s.data.toList.take (k + 1) ++ s.data.toList.drop (k + 1)) := by rw [List.take_append_drop]
  rw [h2, num_append, h1]
  refine num_stay most hm _ ?_
  rw [List.all_eq_true] at ha ⊢
  intro x hx; exact ha x (List.mem_of_mem_drop hx)
theorem get_dg (s : ByteArray) (k : Nat) (hk : k < s.size) (ha : s.data.toList.all dg = true) : dg s[k] = true := by
  rw [List.all_eq_true] at ha
  exact ha _ (by show s.data[k] ∈ _; simp)

set_option maxHeartbeats 2000000 in
theorem refNumber_any (s : ByteArray) (most : Int) (w : World) (hs : s.size ≤ maxLen) (h4 : most ≤ 9223372036854775807) (h5 : -9223372036854775808 ≤ most) :
    Calls Tryd.prog 18 #[.string s, .int .i64 most] w fun e w' => e = .returned (.tuple #[.int .i64 (numOf s most).1, .bool (numOf s most).2]) ∧ w = w' := by
  unfold maxLen at hs
  by_cases hm : most < 0
  · have HN := Lib.hid (numOf_none (s := s) (.inr (.inl hm)))
    go_enter Tryd.func18, Tryd.ntmps18
    go_wp2
    go_ret2
    exact ⟨ret2 HN.out rfl rfl, rfl⟩
  · have hm' : 0 ≤ most := by omega
    by_cases hz : s.size = 0
    · have HN := Lib.hid (numOf_none (most := most) (.inl hz))
      have he : ((s.size : Int) == 0) = true := by simp [hz]
      clear hz
      go_enter Tryd.func18, Tryd.ntmps18
      go_wp2
      go_ret2
      exact ⟨ret2 HN.out rfl rfl, rfl⟩
    · have he : ((s.size : Int) == 0) = false := beq_eq_false_iff_ne.2 (by omega)
      have hp : 0 < s.size := by omega
      clear hz
      go_enter Tryd.func18, Tryd.ntmps18
      go_wp2
      go_loop [7] (fun i => ∃ k : Nat, k ≤ s.size ∧ i = .int .i64 k ∧ (s.data.toList.take k).all dg = true) (fun i => s.size - (intOf i).toNat)
      case atStart => exact ⟨0, Nat.zero_le _, rfl, rfl⟩
      case round =>
        obtain ⟨k, hk, rfl, hal⟩ := hrel
        have HAL := Lib.hid hal
        clear hal
        by_cases hlt : k < s.size
        · by_cases hd : dg s[k] = true
          · have hc := dg_bd hd
            have HA := Lib.hid (show (s.data.toList.take (k + 1)).all dg = true from by rw [all_snoc s k hlt, HAL.out, hd]; rfl)
            clear hd
            go_wp2
            go_round
            case rel => exact ⟨k + 1, by omega, by go_num, HA.out⟩
            case measure => simp [intOf]; omega
          · have HN := Lib.hid (numOf_none (s := s) (most := most) (.inr (.inr (not_all s k hlt (by simpa using hd)))))
            have hc : (s[k].toNat : Int) < 48 ∨ 57 < (s[k].toNat : Int) := by
              simp [dg] at hd; omega
            clear hd
            rcases hc with hc | hc
            all_goals
              go_wp2
              go_ret2
              exact ⟨ret2 HN.out rfl rfl, rfl⟩
        · obtain rfl : k = s.size := by omega
          have HAA := Lib.hid (all_of_take HAL.out)
          have HN := Lib.hid (numOf_some (by omega) hm' HAA.out)
          clear HAL hk hlt
          go_wp2
          go_loop [6, 8] (fun n i => ∃ k : Nat, k ≤ s.size ∧ i = .int .i64 k ∧ n = .int .i64 (num most 0 (s.data.toList.take k))) (fun _ i => s.size - (intOf i).toNat)
          case atStart => exact ⟨0, Nat.zero_le _, rfl, rfl⟩
          case round =>
            obtain ⟨k, hk, rfl, rfl⟩ := hrel
            have hb := num_bd most hm' (s.data.toList.take k) 0 (by omega) hm' (all_take _ _ HAA.out)
            by_cases hlt : k < s.size
            · have hc := dg_bd (get_dg s k hlt HAA.out)
              have HS := Lib.hid (show num most 0 (s.data.toList.take (k + 1)) = step most (num most 0 (s.data.toList.take k)) ((s[k].toNat : Int) - 48) from by rw [take_snoc s k hlt, num_snoc])
              have HE := Lib.hid (early s most k hlt hm' HAA.out)
              by_cases h1 : most < (s[k].toNat : Int) - 48
              · have ht : (most - ((s[k].toNat : Int) - 48)).tdiv 10 = 0 := by
                  have e : (most - ((s[k].toNat : Int) - 48)) = -(((s[k].toNat : Int) - 48) - most) := by omega
                  rw [e, Int.neg_tdiv, Int.tdiv_eq_ediv_of_nonneg (by omega)]; omega
                have HX := Lib.hid (HE.out (by omega))
                clear HE
                by_cases h2 : 0 < num most 0 (s.data.toList.take k)
                all_goals
                  go_wp2
                  go_ret2
                  exact ⟨ret2 HN.out HX.out.symm rfl, rfl⟩
              · by_cases h2 : (most - ((s[k].toNat : Int) - 48)) / 10 < num most 0 (s.data.toList.take k)
                · have HX := Lib.hid (HE.out (by omega))
                  clear HE
                  go_wp2
                  go_ret2
                  exact ⟨ret2 HN.out HX.out.symm rfl, rfl⟩
                · have HX := Lib.hid (show step most (num most 0 (s.data.toList.take k)) ((s[k].toNat : Int) - 48) = num most 0 (s.data.toList.take k) * 10 + ((s[k].toNat : Int) - 48) from by unfold step; rw [if_neg (by omega)])
                  clear HE
                  go_wp2
                  go_round
                  case rel => exact ⟨k + 1, by omega, by go_num, by rw [HS.out, HX.out]⟩
                  case measure => simp [intOf]; omega
            · obtain rfl : k = s.size := by omega
              go_wp2
              go_ret2
              exact ⟨ret2 HN.out (num_of_take _ _) rfl, rfl⟩
end Go.Proofs.YthhnpdihgoiccaaDoor.Num
