/-
  Header fields: plain functions on bytes and on lists of fields; what holds of them. No program, no condition.
-/
import Derived.Test.YthhnpdihgoiccaaTokIsMath
import Derived.Test.YthhnpdihgoiccaaTokSplitMath
import Derived.Lib.Bytealg
namespace Go.Proofs.Ythhnpdihgoiccaa.Fd
open Tk

/-- Where the first colon stands; the length, if there is none. -/
def colIdx : Bs → Nat
  | [] => 0
  | c :: r => if c = 58 then 0 else colIdx r + 1
theorem colIdx_le (l : Bs) : colIdx l ≤ l.length := by
  induction l with
  | nil => exact Nat.le_refl _
  | cons c r ih => unfold colIdx; split <;> simp; omega
theorem colIdx_at (l : Bs) (h : colIdx l < l.length) : l[colIdx l] = 58 := by
  induction l with
  | nil => simp at h
  | cons c r ih =>
    unfold colIdx at h ⊢
    by_cases hc : c = 58
    · simp [hc]
    · simp only [hc, if_false] at h ⊢
      simp only [List.length_cons] at h
      exact ih (by omega)
theorem colIdx_before (l : Bs) (j : Nat) (hj : j < colIdx l) : l[j]'(by have := colIdx_le l; omega) ≠ 58 := by
  induction l generalizing j with
  | nil => simp [colIdx] at hj
  | cons c r ih =>
    by_cases hc : c = 58
    · simp [colIdx, hc] at hj
    · cases j with
      | zero => simpa using hc
      | succ j =>
        simp only [colIdx, hc, if_false] at hj
        simpa using ih j (by omega)
/-- A place ahead of which there is no colon, and which has one, or is the end. -/
theorem colIdx_is (l : Bs) (k : Nat) (hk : k ≤ l.length) (h1 : ∀ j (hj : j < k), l[j]'(by omega) ≠ 58) (h2 : ∀ h : k < l.length, l[k] = 58) : colIdx l = k := by
  rcases Nat.lt_trichotomy (colIdx l) k with h | h | h
  · exact absurd (colIdx_at l (by omega)) (h1 _ h)
  · exact h
  · have := colIdx_le l
    exact absurd (h2 (by omega)) (colIdx_before l k h)
theorem indexByte_eq (l : Bs) : Lib.indexByte l 58 = if colIdx l < l.length then (colIdx l : Int) else -1 := by
  induction l with
  | nil => simp [Lib.indexByte, colIdx]
  | cons c r ih =>
    unfold Lib.indexByte colIdx
    by_cases hc : c = 58
    · simp [hc]
    · have hc' : (c == 58) = false := by simpa using hc
      simp only [hc', hc, if_false, ih, List.length_cons, Bool.false_eq_true]
      by_cases h : colIdx r < r.length
      · have h2 : colIdx r + 1 < r.length + 1 := by omega
        have h3 : (((colIdx r : Nat) : Int) == -1) = false := beq_eq_false_iff_ne.2 (by omega)
        simp only [h, h2, if_true, h3, Bool.false_eq_true, if_false]; omega
      · have h2 : ¬ colIdx r + 1 < r.length + 1 := by omega
        simp [h, h2]


/-! Lists of fields. -/
/-- A field: its name, its value. -/
abbrev Fl := ByteArray × ByteArray
/-- Are two texts alike but for the size of letters? -/
def alike (a b : Bs) : Bool := lower a == lower b
/-- Has a field this name? -/
def has (nm : Bs) (f : Fl) : Bool := alike f.1.data.toList nm
/-- The fields without those of a name. -/
def del (fs : List Fl) (nm : Bs) : List Fl := fs.filter fun f => !has nm f
/-- The values of a name. -/
def sel (fs : List Fl) (nm : Bs) : List Bs := (fs.filter (has nm)).map fun f => f.2.data.toList
/-- Texts with a comma and a byte 32 between. -/
def joinC : List Bs → Bs
  | [] => []
  | [x] => x
  | x :: y :: r => x ++ [44, 32] ++ joinC (y :: r)
def getT (fs : List Fl) (nm : Bs) : Bs := joinC (sel fs nm)
def getN (fs : List Fl) (nm : Bs) : Nat := (sel fs nm).length
/-- How many fields, and how many bytes in them. -/
def tot (fs : List Fl) : Nat := (fs.map fun f => f.1.size + f.2.size + 1).sum
/-- The fields that have none of these names. -/
def without (fs : List Fl) (ns : List Bs) : List Fl := fs.filter fun f => !ns.any fun n => has n f

theorem joinC_snoc (xs : List Bs) (y : Bs) : joinC (xs ++ [y]) = if xs = [] then y else joinC xs ++ [44, 32] ++ y := by
  induction xs with
  | nil => simp [joinC]
  | cons x r ih =>
    cases r with
    | nil => simp [joinC]
    | cons z r =>
      have h : joinC (x :: z :: r ++ [y]) = x ++ [44, 32] ++ joinC (z :: r ++ [y]) := by simp [joinC]
      rw [h, ih]
      simp [joinC]
theorem joinC_length (xs : List Bs) : (joinC xs).length ≤ (xs.map fun x => x.length + 2).sum := by
  induction xs with
  | nil => simp [joinC]
  | cons x r ih =>
    cases r with
    | nil => simp [joinC]
    | cons z r =>
      have h : joinC (x :: z :: r) = x ++ [44, 32] ++ joinC (z :: r) := by simp [joinC]
      rw [h, List.map_cons, List.sum_cons]
      simp only [List.length_append, List.length_cons, List.length_nil] at ih ⊢
      omega

theorem take_next {α : Type} (l : List α) (k : Nat) (h : k < l.length) : l.take (k + 1) = l.take k ++ [l[k]] := by
  rw [List.take_succ_eq_append_getElem h]
theorem tot_cons (f : Fl) (r : List Fl) : tot (f :: r) = (f.1.size + f.2.size + 1) + tot r := by simp [tot]
theorem tot_append (a b : List Fl) : tot (a ++ b) = tot a + tot b := by simp [tot]
theorem tot_len (fs : List Fl) : fs.length ≤ tot fs := by
  induction fs with
  | nil => simp
  | cons f r ih => rw [tot_cons, List.length_cons]; omega
theorem tot_at (fs : List Fl) (k : Nat) (h : k < fs.length) : fs[k].1.size + fs[k].2.size + 1 ≤ tot fs := by
  induction fs generalizing k with
  | nil => simp at h
  | cons f r ih =>
    rw [tot_cons]
    cases k with
    | zero => simp only [List.getElem_cons_zero]; omega
    | succ k => have := ih k (by simpa using h); simp only [List.getElem_cons_succ]; omega
theorem tot_take (fs : List Fl) (k : Nat) : tot (fs.take k) ≤ tot fs := by
  have := tot_append (fs.take k) (fs.drop k)
  rw [List.take_append_drop] at this; omega
theorem tot_filter (p : Fl → Bool) (fs : List Fl) : tot (fs.filter p) ≤ tot fs := by
  induction fs with
  | nil => simp
  | cons f r ih =>
    rw [List.filter_cons, tot_cons]
    split
    · rw [tot_cons]; omega
    · omega
theorem sel_sum (fs : List Fl) (nm : Bs) : ((sel fs nm).map fun x => x.length + 2).sum ≤ 2 * tot fs := by
  unfold sel
  induction fs with
  | nil => simp
  | cons f r ih =>
    rw [List.filter_cons, tot_cons]
    have e : f.2.data.toList.length = f.2.size := by simp
    split
    · simp only [List.map_cons, List.sum_cons]; omega
    · omega
theorem getT_length (fs : List Fl) (nm : Bs) : (getT fs nm).length ≤ 2 * tot fs := Nat.le_trans (joinC_length _) (sel_sum fs nm)

theorem filter_next {α : Type} (p : α → Bool) (l : List α) (k : Nat) (h : k < l.length) : (l.take (k + 1)).filter p = (l.take k).filter p ++ if p l[k] then [l[k]] else [] := by
  rw [take_next l k h, List.filter_append]; congr 1; by_cases hp : p l[k] <;> simp [hp]
theorem sel_next_yes (fs : List Fl) (nm : Bs) (k : Nat) (h : k < fs.length) (hp : has nm fs[k] = true) : sel (fs.take (k + 1)) nm = sel (fs.take k) nm ++ [fs[k].2.data.toList] := by
  unfold sel; rw [filter_next _ _ _ h, if_pos hp]; simp
theorem sel_next_no (fs : List Fl) (nm : Bs) (k : Nat) (h : k < fs.length) (hp : has nm fs[k] = false) : sel (fs.take (k + 1)) nm = sel (fs.take k) nm := by
  unfold sel; rw [filter_next _ _ _ h, hp]; simp
theorem getT_next_first (fs : List Fl) (nm : Bs) (k : Nat) (h : k < fs.length) (hp : has nm fs[k] = true) (h0 : getN (fs.take k) nm = 0) : getT (fs.take (k + 1)) nm = fs[k].2.data.toList := by
  unfold getT; rw [sel_next_yes fs nm k h hp, joinC_snoc, if_pos (List.length_eq_zero_iff.1 h0)]
theorem getT_next_more (fs : List Fl) (nm : Bs) (k : Nat) (h : k < fs.length) (hp : has nm fs[k] = true) (h0 : getN (fs.take k) nm ≠ 0) : getT (fs.take (k + 1)) nm = getT (fs.take k) nm ++ [44, 32] ++ fs[k].2.data.toList := by
  unfold getT; rw [sel_next_yes fs nm k h hp, joinC_snoc, if_neg (fun e => h0 (by unfold getN; rw [e]; rfl))]
theorem getN_next_yes (fs : List Fl) (nm : Bs) (k : Nat) (h : k < fs.length) (hp : has nm fs[k] = true) : getN (fs.take (k + 1)) nm = getN (fs.take k) nm + 1 := by
  unfold getN; rw [sel_next_yes fs nm k h hp]; simp
theorem get_next_no (fs : List Fl) (nm : Bs) (k : Nat) (h : k < fs.length) (hp : has nm fs[k] = false) : getT (fs.take (k + 1)) nm = getT (fs.take k) nm ∧ getN (fs.take (k + 1)) nm = getN (fs.take k) nm := by
  unfold getT getN; rw [sel_next_no fs nm k h hp]; exact ⟨rfl, rfl⟩
theorem getT_zero (fs : List Fl) (nm : Bs) : getT (fs.take 0) nm = [] ∧ getN (fs.take 0) nm = 0 := by simp [getT, getN, sel, joinC]
theorem getN_le (fs : List Fl) (nm : Bs) : getN fs nm ≤ fs.length := by unfold getN sel; simp [List.length_filter_le]
end Go.Proofs.Ythhnpdihgoiccaa.Fd
