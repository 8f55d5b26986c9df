/-
  What the reader of one range tells is what the plain function tells. No condition.
-/
import Derived.Test.YthhnpdihgoiccaaDoorRnRead
import Derived.Test.YthhnpdihgoiccaaDoorRnMath
namespace Go.Proofs.YthhnpdihgoiccaaDoor.Rn
open Go.RowKit Go.Proofs.YthhnpdihgoiccaaDoor.Fd Go.Proofs.YthhnpdihgoiccaaDoor.Sn Go.Proofs.YthhnpdihgoiccaaDoor.Rm
set_option maxRecDepth 100000
set_option linter.unusedVariables false
set_option linter.unusedSimpArgs false

theorem size_len (s : ByteArray) : s.data.toList.length = s.size := by rw [Array.length_toList]; rfl
theorem of_list {s : ByteArray} {l : Tk.Bs} (h : s.data.toList = l) : s = ⟨l.toArray⟩ := by subst h; cases s; simp
theorem endV_endO (m : Int) (s : ByteArray) : endO m s.data.toList = if (endV m s).2 then some (endV m s).1 else none := by
  unfold endO endV
  by_cases h : s.size = 0
  · rw [if_pos h, if_pos (by rw [← List.length_eq_zero_iff, size_len]; exact h)]; rfl
  · rw [if_neg h, if_neg (by rw [← List.length_eq_zero_iff, size_len]; exact h)]
    unfold numT
    rw [← of_list rfl]
theorem cutL_list {s : ByteArray} (h : ix 45 s.data.toList < s.size) : (cutL s).data.toList = s.data.toList.take (ix 45 s.data.toList) := by
  unfold cutL; rw [if_pos h]; simp
theorem cutR_list {s : ByteArray} (h : ix 45 s.data.toList < s.size) : (cutR s).data.toList = s.data.toList.drop (ix 45 s.data.toList + 1) := by
  unfold cutR; rw [if_pos h, ByteArray.data_extract, Array.toList_extract]
  show (s.data.toList.drop _).take _ = _
  rw [List.take_of_length_le (by rw [List.length_drop, size_len]; omega)]
theorem read_rd (m : Int) (s : ByteArray) : rdO m s.data.toList = if readB m s then some ((endV m (cutL s)).1, (endV m (cutR s)).1) else none := by
  unfold rdO readB cutB
  by_cases h : ix 45 s.data.toList < s.size
  · rw [if_neg (by rw [size_len]; omega), decide_eq_true h, ← cutL_list h, ← cutR_list h, endV_endO, endV_endO]
    cases (endV m (cutL s)).2 <;> cases (endV m (cutR s)).2 <;> simp
  · rw [if_pos (by rw [size_len]; have := ix_le 45 s.data.toList; rw [size_len] at this; omega), decide_eq_false h]
    rfl
end Go.Proofs.YthhnpdihgoiccaaDoor.Rn
