/-
  A line that is told of a field is read as that field: plain functions. No program, no condition.
-/
import Derived.Test.YtoofdompafkddaaDoorFdParseP
namespace Go.Proofs.YtoofdompafkddaaDoor.Fd
open Tk

theorem col_at (l r : Bs) (h : ∀ c ∈ l, c ≠ 58) : colIdx (l ++ 58 :: r) = l.length := by
  induction l with
  | nil => simp [colIdx]
  | cons c t ih =>
    have hc : c ≠ 58 := h c (by simp)
    simp [colIdx, hc, ih (fun d hd => h d (by simp [hd]))]
theorem tok_no58 {l : Bs} (h : isTok l = true) : ∀ c ∈ l, c ≠ 58 := by
  intro c hc e
  subst e
  unfold isTok at h
  rw [Bool.and_eq_true] at h
  have h2 := List.all_eq_true.1 h.2 58 hc
  revert h2; decide
theorem trim_val {l : Bs} (h : isVal l = true) : trim (32 :: l) = l := by
  rw [trim_cons_blank l (by decide)]
  cases l with
  | nil => rfl
  | cons c t =>
    unfold isVal at h
    simp only [Bool.and_eq_true, List.isEmpty_cons, Bool.false_or, List.headD_cons, Bool.not_eq_true'] at h
    obtain ⟨_, hc, hl⟩ := h
    unfold trim
    rw [ltrim_cons_other t hc]
    rcases snoc_cases (c :: t) with h0 | ⟨i, d, h1⟩
    · cases h0
    · rw [h1]
      refine rtrim_snoc_other i ?_
      rw [List.getLastD_eq_getLast?, h1] at hl
      simpa using hl
theorem bytes_eq {a b : ByteArray} (h : a.data.toList = b.data.toList) : a = b := by
  cases a with | mk x => cases b with | mk y => cases x; cases y; simp at h; subst h; rfl
theorem line_data (n v : ByteArray) : (n ++ ⟨#[58, 32]⟩ ++ v).data.toList = n.data.toList ++ 58 :: 32 :: v.data.toList := by simp
theorem line_size (n v : ByteArray) : (n ++ ⟨#[58, 32]⟩ ++ v).size = n.size + 2 + v.size := by
  rw [ByteArray.size_append, ByteArray.size_append]; rfl
/-- A line that is told of a field is parsed to it. -/
theorem parse_line {n v : ByteArray} (h : isFld n.data.toList v.data.toList = true) : parseVal (n ++ ⟨#[58, 32]⟩ ++ v) = .tuple #[FV n v, .int .i64 0] := by
  have h' := h
  unfold isFld at h'
  rw [Bool.and_eq_true] at h'
  have hk : colIdx (n ++ ⟨#[58, 32]⟩ ++ v).data.toList = n.size := by
    rw [line_data, col_at _ _ (tok_no58 h'.1)]; simp
  have hsz := line_size n v
  have hn : pName (n ++ ⟨#[58, 32]⟩ ++ v) = n := by
    unfold pName; rw [hk]
    apply bytes_eq
    rw [ByteArray.data_extract, Array.toList_extract, line_data]
    have e : n.data.toList.length = n.size := by simp
    rw [← e, List.extract_eq_take_drop, List.drop_zero, Nat.sub_zero, List.take_left]
  have hv : pVal (n ++ ⟨#[58, 32]⟩ ++ v) = v := by
    unfold pVal; rw [hk]
    apply bytes_eq
    have e : ((n ++ ⟨#[58, 32]⟩ ++ v).extract (n.size + 1) (n ++ ⟨#[58, 32]⟩ ++ v).size).data.toList = 32 :: v.data.toList := by
      rw [ByteArray.data_extract, Array.toList_extract, line_data, hsz]
      have e : n.data.toList.length = n.size := by simp
      have e2 : v.data.toList.length = v.size := by simp
      rw [← e, ← e2, List.extract_eq_take_drop]
      rw [show n.data.toList ++ 58 :: 32 :: v.data.toList = (n.data.toList ++ [58]) ++ 32 :: v.data.toList from by simp]
      rw [List.drop_append_of_le_length (by simp), List.drop_of_length_le (by simp), List.nil_append]
      rw [List.take_of_length_le (by simp; omega)]
    rw [e, trim_val h'.2]
  unfold parseVal parseOk
  rw [hk, hn, hv, h, hsz]
  simp
  omega
/-- What Parse answers of a text: a field that has a line, or two empty texts and the error. -/
theorem parse_cases (s : ByteArray) : (parseOk s = true ∧ isFld (pName s).data.toList (pVal s).data.toList = true ∧ parseVal s = .tuple #[FV (pName s) (pVal s), .int .i64 0]) ∨ parseVal s = .tuple #[FV ⟨#[]⟩ ⟨#[]⟩, .int .i64 31] := by
  cases h : parseOk s with
  | true =>
    left
    refine ⟨rfl, ?_, by unfold parseVal; rw [h, if_pos rfl]⟩
    unfold parseOk at h; rw [Bool.and_eq_true] at h; exact h.2
  | false => right; unfold parseVal; rw [h, if_neg (by simp)]
end Go.Proofs.YtoofdompafkddaaDoor.Fd
