/-
  token.Is, token.textByte, token.Value and their references gatepostref01.tchar, Is, Value: what each returns. Condition: the table of token bytes holds what the program's text lays.
-/
-- cut by strips.py
import Derived.Test.YtcnipjmeillfeaaDoorRows
import Derived.Test.YtcnipjmeillfeaaDoorTokTrim
import Derived.Test.YtcnipjmeillfeaaDoorTokRefTrim
import Derived.Test.YtcnipjmeillfeaaDoorTokIsMath
import Derived.WalkKit
import Derived.WalkLawsBesides
import Derived.Outline
import Derived.Lib.Hide
namespace Go.Proofs.YtcnipjmeillfeaaDoor.Tk
open Go.RowKit

/-- The table's cells, as its initialiser lays them. -/
def Tab (w : World) : Prop := ∀ n : Nat, n < 128 → w.cell? ⟨0, n, none⟩ = some (.bool (tchar (UInt8.ofNat n)))
theorem Tab.byte {w : World} (h : Tab w) (c : UInt8) (hc : c.toNat < 128) : w.cell? ⟨0, c.toNat, none⟩ = some (.bool (tchar c)) := by
  have := h c.toNat hc
  rwa [UInt8.ofNat_toNat] at this
theorem Tab.lt {w : World} (h : Tab w) : 0 < w.heap.size := World.block_lt_of_cell? w _ (h 0 (by omega))
theorem Tab.below {B : Nat} {w w' : World} (h : Tab w) (hb : Below B w w') (hB : 0 < B) : Tab w' := fun n hn => (hb.cell (p := ⟨0, n, none⟩) hB).trans (h n hn)
theorem tchar_great (c : UInt8) (h : ¬ c.toNat < 128) : tchar c = false := by
  cases hc : tchar c with
  | false => rfl
  | true => simp [tchar] at hc; omega

set_option maxHeartbeats 1000000 in
theorem is_any (s : ByteArray) (w : World) (hs : s.size ≤ maxLen) (hT : Tab w) :
    Calls Tryd.prog 28 #[.string s] w fun e w' => e = .returned (.bool (isTok s.data.toList)) ∧ w = w' := by
  unfold maxLen at hs
  have HT := Lib.hid hT
  clear hT
  go_enter Tryd.func28, Tryd.ntmps28
  go_wp2_with fail
  go_loop [6] (fun i => ∃ k : Nat, k ≤ s.size ∧ i = .int .i64 (k : Int) ∧ (s.data.toList.take k).all tchar = true) (fun i => s.size - (intOf i).toNat)
  case atStart => exact ⟨0, Nat.zero_le _, rfl, rfl⟩
  case round =>
    obtain ⟨k, hk, rfl, hal⟩ := hrel
    have HAL := Lib.hid hal
    clear hal
    by_cases hlt : k < s.size
    · by_cases h128 : s[k].toNat < 128
      · have hcell := HT.out.byte s[k] h128
        have h128' : ¬ (128 : Int) ≤ (s[k].toNat : Int) := by omega
        cases ht : tchar s[k] with
        | true =>
          have HA := Lib.hid (show (s.data.toList.take (k + 1)).all tchar = true from by rw [all_snoc tchar s k hlt, HAL.out, ht]; rfl)
          rw [ht] at hcell
          clear ht
          go_wp2_with fail
          go_round
          case rel => exact ⟨k + 1, by omega, by go_num, HA.out⟩
          case measure => simp [intOf]; omega
        | false =>
          have HN := Lib.hid (isTok_no s k hlt ht)
          rw [ht] at hcell
          clear ht
          go_wp2_with fail
          go_ret
          exact ⟨by rw [HN.out]; rfl, rfl⟩
      · have HN := Lib.hid (isTok_no s k hlt (tchar_great _ h128))
        have h128' : (128 : Int) ≤ (s[k].toNat : Int) := by omega
        clear h128
        go_wp2_with fail
        go_ret
        exact ⟨by rw [HN.out]; rfl, rfl⟩
    · by_cases h0 : s.size = 0
      · have he := text_empty h0
        have HN := Lib.hid (isTok_nil h0)
        clear h0
        go_wp2_with fail
        go_ret
        exact ⟨by rw [HN.out]; rfl, rfl⟩
      · obtain rfl : k = s.size := by omega
        have he := text_full (s := s) (by omega)
        have HY := Lib.hid (isTok_yes (by omega) HAL.out)
        clear h0
        go_wp2_with fail
        go_ret
        exact ⟨by rw [HY.out]; rfl, rfl⟩

set_option maxHeartbeats 4000000 in
theorem tchar_rest (c : UInt8) (w : World) (h1 : ¬ (97 ≤ c.toNat ∧ c.toNat ≤ 122)) (h2 : ¬ (65 ≤ c.toNat ∧ c.toNat ≤ 90)) (h3 : ¬ (48 ≤ c.toNat ∧ c.toNat ≤ 57)) :
    Calls Tryd.prog 25 #[.int .u8 (c.toNat : Int)] w fun e w' => e = .returned (.bool (tchar c)) ∧ w = w' := by
  by_cases h4 : c.toNat ∈ [33, 35, 36, 37, 38, 39, 42, 43, 45, 46, 94, 95, 96, 124, 126]
  · have HT := Lib.hid (tchar_true (.inr (.inr (.inr h4))))
    have h5 : (c.toNat : Int) = 33 ∨ (c.toNat : Int) = 35 ∨ (c.toNat : Int) = 36 ∨ (c.toNat : Int) = 37 ∨ (c.toNat : Int) = 38 ∨ (c.toNat : Int) = 39 ∨ (c.toNat : Int) = 42 ∨ (c.toNat : Int) = 43 ∨ (c.toNat : Int) = 45 ∨ (c.toNat : Int) = 46 ∨ (c.toNat : Int) = 94 ∨ (c.toNat : Int) = 95 ∨ (c.toNat : Int) = 96 ∨ (c.toNat : Int) = 124 ∨ (c.toNat : Int) = 126 := by simp at h4; omega
    clear h1 h2 h3 h4
    rcases h5 with e | e | e | e | e | e | e | e | e | e | e | e | e | e | e
    all_goals
      go_enter Tryd.func25, Tryd.ntmps25
      go_wp2_with fail
      go_ret
      exact ⟨by rw [HT.out]; rfl, rfl⟩
  · have HT := Lib.hid (show tchar c = false from by
      rcases tchar_cases c with h | h | h | h | h
      · exact absurd h h1
      · exact absurd h h2
      · exact absurd h h3
      · exact absurd h h4
      · exact h)
    have n33 : ((c.toNat : Int) == 33) = false := beq_eq_false_iff_ne.2 (by intro e; apply h4; simp; omega)
    have n35 : ((c.toNat : Int) == 35) = false := beq_eq_false_iff_ne.2 (by intro e; apply h4; simp; omega)
    have n36 : ((c.toNat : Int) == 36) = false := beq_eq_false_iff_ne.2 (by intro e; apply h4; simp; omega)
    have n37 : ((c.toNat : Int) == 37) = false := beq_eq_false_iff_ne.2 (by intro e; apply h4; simp; omega)
    have n38 : ((c.toNat : Int) == 38) = false := beq_eq_false_iff_ne.2 (by intro e; apply h4; simp; omega)
    have n39 : ((c.toNat : Int) == 39) = false := beq_eq_false_iff_ne.2 (by intro e; apply h4; simp; omega)
    have n42 : ((c.toNat : Int) == 42) = false := beq_eq_false_iff_ne.2 (by intro e; apply h4; simp; omega)
    have n43 : ((c.toNat : Int) == 43) = false := beq_eq_false_iff_ne.2 (by intro e; apply h4; simp; omega)
    have n45 : ((c.toNat : Int) == 45) = false := beq_eq_false_iff_ne.2 (by intro e; apply h4; simp; omega)
    have n46 : ((c.toNat : Int) == 46) = false := beq_eq_false_iff_ne.2 (by intro e; apply h4; simp; omega)
    have n94 : ((c.toNat : Int) == 94) = false := beq_eq_false_iff_ne.2 (by intro e; apply h4; simp; omega)
    have n95 : ((c.toNat : Int) == 95) = false := beq_eq_false_iff_ne.2 (by intro e; apply h4; simp; omega)
    have n96 : ((c.toNat : Int) == 96) = false := beq_eq_false_iff_ne.2 (by intro e; apply h4; simp; omega)
    have n124 : ((c.toNat : Int) == 124) = false := beq_eq_false_iff_ne.2 (by intro e; apply h4; simp; omega)
    have n126 : ((c.toNat : Int) == 126) = false := beq_eq_false_iff_ne.2 (by intro e; apply h4; simp; omega)
    have hr : (c.toNat : Int) < 48 ∨ (58 ≤ (c.toNat : Int) ∧ (c.toNat : Int) ≤ 64) ∨ (91 ≤ (c.toNat : Int) ∧ (c.toNat : Int) ≤ 96) ∨ 123 ≤ (c.toNat : Int) := by omega
    clear h1 h2 h3 h4
    rcases hr with hr | ⟨hr, hr2⟩ | ⟨hr, hr2⟩ | hr
    all_goals
      go_enter Tryd.func25, Tryd.ntmps25
      go_wp2_with fail
      go_ret
      exact ⟨by rw [HT.out]; rfl, rfl⟩

set_option maxHeartbeats 2000000 in
theorem tchar_any (c : UInt8) (w : World) :
    Calls Tryd.prog 25 #[.int .u8 (c.toNat : Int)] w fun e w' => e = .returned (.bool (tchar c)) ∧ w = w' := by
  by_cases h1 : 97 ≤ c.toNat ∧ c.toNat ≤ 122
  · have HT := Lib.hid (tchar_true (.inl h1))
    have a1 : (97 : Int) ≤ (c.toNat : Int) := by omega
    have a2 : (c.toNat : Int) ≤ 122 := by omega
    clear h1
    go_enter Tryd.func25, Tryd.ntmps25
    go_wp2_with fail
    go_ret
    exact ⟨by rw [HT.out]; rfl, rfl⟩
  · by_cases h2 : 65 ≤ c.toNat ∧ c.toNat ≤ 90
    · have HT := Lib.hid (tchar_true (.inr (.inl h2)))
      have a1 : (65 : Int) ≤ (c.toNat : Int) := by omega
      have a2 : (c.toNat : Int) ≤ 90 := by omega
      clear h1 h2
      go_enter Tryd.func25, Tryd.ntmps25
      go_wp2_with fail
      go_ret
      exact ⟨by rw [HT.out]; rfl, rfl⟩
    · by_cases h3 : 48 ≤ c.toNat ∧ c.toNat ≤ 57
      · have HT := Lib.hid (tchar_true (.inr (.inr (.inl h3))))
        have a1 : (48 : Int) ≤ (c.toNat : Int) := by omega
        have a2 : (c.toNat : Int) ≤ 57 := by omega
        clear h1 h2 h3
        go_enter Tryd.func25, Tryd.ntmps25
        go_wp2_with fail
        go_ret
        exact ⟨by rw [HT.out]; rfl, rfl⟩
      · exact tchar_rest c w h1 h2 h3

set_option maxHeartbeats 1000000 in
theorem refIs_any (s : ByteArray) (w : World) (hs : s.size ≤ maxLen) :
    Calls Tryd.prog 13 #[.string s] w fun e w' => e = .returned (.bool (isTok s.data.toList)) ∧ w = w' := by
  unfold maxLen at hs
  go_enter Tryd.func13, Tryd.ntmps13
  go_wp2_with fail
  go_loop [3] (fun i => ∃ k : Nat, k ≤ s.size ∧ i = .int .i64 (k : Int) ∧ (s.data.toList.take k).all tchar = true) (fun i => s.size - (intOf i).toNat)
  case atStart => exact ⟨0, Nat.zero_le _, rfl, rfl⟩
  case round =>
    obtain ⟨k, hk, rfl, hal⟩ := hrel
    have HAL := Lib.hid hal
    clear hal
    by_cases hlt : k < s.size
    · cases ht : tchar s[k] with
      | true =>
        have HA := Lib.hid (show (s.data.toList.take (k + 1)).all tchar = true from by rw [all_snoc tchar s k hlt, HAL.out, ht]; rfl)
        have HT := Lib.hid ht
        clear ht
        go_wp2_with (go_at_call 25; refine (tchar_any _ _).mono ?_; rintro e w' ⟨rfl, rfl⟩; rw [HT.out])
        go_round
        case rel => exact ⟨k + 1, by omega, by go_num, HA.out⟩
        case measure => simp [intOf]; omega
      | false =>
        have HN := Lib.hid (isTok_no s k hlt ht)
        have HT := Lib.hid ht
        clear ht
        go_wp2_with (go_at_call 25; refine (tchar_any _ _).mono ?_; rintro e w' ⟨rfl, rfl⟩; rw [HT.out])
        go_ret
        exact ⟨by rw [HN.out]; rfl, rfl⟩
    · by_cases h0 : s.size = 0
      · have HN := Lib.hid (isTok_nil h0)
        have hd : decide (0 < s.size) = false := by rw [decide_eq_false_iff_not]; omega
        clear h0
        go_wp2_with fail
        go_ret
        exact ⟨by rw [HN.out]; rfl, rfl⟩
      · obtain rfl : k = s.size := by omega
        have HY := Lib.hid (isTok_yes (by omega) HAL.out)
        have hd : decide (0 < s.size) = true := by rw [decide_eq_true_iff]; omega
        clear h0
        go_wp2_with fail
        go_ret
        exact ⟨by rw [HY.out]; rfl, rfl⟩

end Go.Proofs.YtcnipjmeillfeaaDoor.Tk
