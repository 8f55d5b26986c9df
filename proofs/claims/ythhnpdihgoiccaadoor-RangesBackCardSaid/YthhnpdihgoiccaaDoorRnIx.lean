/-
  Where a byte stands first, step by step; slices of a text as lists. No program, no condition.
-/
import Derived.Test.YthhnpdihgoiccaaDoorRgMath
namespace Go.Proofs.YthhnpdihgoiccaaDoor.Rm
open Go.Proofs.YthhnpdihgoiccaaDoor.Tk
set_option linter.unusedVariables false

theorem ix_step (c : UInt8) : ∀ (l : Bs) (k : Nat), k ≤ ix c l → ∀ h : k < l.length, l[k] ≠ c → k + 1 ≤ ix c l
  | [], k, _, h, _ => absurd h (by simp)
  | d :: r, 0, _, _, hc => by
    have hc : d ≠ c := hc
    unfold ix; rw [if_neg hc]; omega
  | d :: r, k + 1, h0, h, hc => by
    unfold ix at h0 ⊢
    split at h0
    · omega
    · rename_i hd
      rw [if_neg hd]
      have := ix_step c r k (by omega) (by simpa using h) hc
      omega
theorem ix_here (c : UInt8) : ∀ (l : Bs) (k : Nat), k ≤ ix c l → ∀ h : k < l.length, l[k] = c → ix c l = k
  | [], k, _, h, _ => absurd h (by simp)
  | d :: r, 0, _, _, hc => by
    have hc : d = c := hc
    unfold ix; rw [if_pos hc]
  | d :: r, k + 1, h0, h, hc => by
    unfold ix at h0 ⊢
    split at h0
    · omega
    · rename_i hd
      rw [if_neg hd]
      have := ix_here c r k (by omega) (by simpa using h) hc
      omega
theorem len_size (s : ByteArray) : s.data.toList.length = s.size := by rw [Array.length_toList]; rfl
theorem ixs_step (c : UInt8) (s : ByteArray) (k : Nat) (h0 : k ≤ ix c s.data.toList) (h : k < s.size) (hc : s[k] ≠ c) : k + 1 ≤ ix c s.data.toList :=
  ix_step c _ k h0 (by rw [len_size]; exact h) hc
theorem ixs_here (c : UInt8) (s : ByteArray) (k : Nat) (h0 : k ≤ ix c s.data.toList) (h : k < s.size) (hc : s[k] = c) : ix c s.data.toList = k :=
  ix_here c _ k h0 (by rw [len_size]; exact h) hc
theorem ixs_le (c : UInt8) (s : ByteArray) : ix c s.data.toList ≤ s.size := by have := ix_le c s.data.toList; rw [len_size] at this; exact this
theorem ext_take (s : ByteArray) (k : Nat) : (s.extract 0 k).data.toList = s.data.toList.take k := by simp
theorem ext_drop (s : ByteArray) (k : Nat) : (s.extract k s.size).data.toList = s.data.toList.drop k := by
  rw [ByteArray.data_extract, Array.toList_extract]
  show (s.data.toList.drop _).take _ = _
  rw [List.take_of_length_le (by rw [List.length_drop, len_size]; omega)]
theorem bytes_of (s : ByteArray) : s = ⟨s.data.toList.toArray⟩ := by cases s; simp
theorem numT_of (m : Int) (s : ByteArray) : numT m s.data.toList = if (Num.numOf s m).2 then some (Num.numOf s m).1 else none := by
  unfold numT; rw [← bytes_of]
end Go.Proofs.YthhnpdihgoiccaaDoor.Rm
