/-
  Which bytes may stand in a token and in a value; tokens and values: plain functions. No program, no condition.
-/
import Derived.Test.YthhnpdihgoiccaaDoorTokMath
import Derived.Laws.Strings
namespace Go.Proofs.YthhnpdihgoiccaaDoor.Tk

/-- May a byte stand in a token? -/
def tchar (c : UInt8) : Bool :=
  (97 ≤ c.toNat && c.toNat ≤ 122) || (65 ≤ c.toNat && c.toNat ≤ 90) || (48 ≤ c.toNat && c.toNat ≤ 57) ||
  [33, 35, 36, 37, 38, 39, 42, 43, 45, 46, 94, 95, 96, 124, 126].contains c.toNat
/-- May a byte stand in a quoted text? -/
def textByte (c : UInt8) : Bool := c.toNat == 9 || (32 ≤ c.toNat && c.toNat != 127)
def isTok (l : Bs) : Bool := !l.isEmpty && l.all tchar
def isVal (l : Bs) : Bool := l.all textByte && (l.isEmpty || (!blank (l.headD 0) && !blank (l.getLastD 0)))

theorem take_snoc (s : ByteArray) (k : Nat) (h : k < s.size) : s.data.toList.take (k + 1) = s.data.toList.take k ++ [s[k]] := by
  rw [List.take_succ_eq_append_getElem (by simpa using h)]; rfl
theorem all_snoc (p : UInt8 → Bool) (s : ByteArray) (k : Nat) (h : k < s.size) : (s.data.toList.take (k + 1)).all p = ((s.data.toList.take k).all p && p s[k]) := by
  rw [take_snoc s k h, List.all_append]; simp
theorem not_all (p : UInt8 → Bool) (s : ByteArray) (k : Nat) (h : k < s.size) (hd : p s[k] = false) : s.data.toList.all p = false := by
  rw [List.all_eq_false]
  exact ⟨s[k], by show s.data[k] ∈ _; simp, by simp [hd]⟩
theorem all_of_take {p : UInt8 → Bool} {s : ByteArray} (h : (s.data.toList.take s.size).all p = true) : s.data.toList.all p = true := by
  rwa [List.take_of_length_le (by simp)] at h
theorem nil_of_size {s : ByteArray} (h : s.size = 0) : s.data.toList = [] := by
  rw [← List.length_eq_zero_iff]; simpa using h
theorem cons_of_size {s : ByteArray} (h : 0 < s.size) : s.data.toList.isEmpty = false := by
  cases hl : s.data.toList with
  | nil => have h1 : s.data.toList.length = 0 := by rw [hl]; rfl
           rw [Array.length_toList] at h1
           have h2 : s.size = s.data.size := rfl
           omega
  | cons => rfl
theorem text_empty {s : ByteArray} (h : s.size = 0) : s.toList = [] := by rw [ByteArray.toList_eq]; exact nil_of_size h
theorem text_full {s : ByteArray} (h : 0 < s.size) : s.toList.isEmpty = false := by rw [ByteArray.toList_eq]; exact cons_of_size h
theorem isTok_nil {s : ByteArray} (h : s.size = 0) : isTok s.data.toList = false := by rw [nil_of_size h]; rfl
theorem isTok_no (s : ByteArray) (k : Nat) (h : k < s.size) (hd : tchar s[k] = false) : isTok s.data.toList = false := by
  unfold isTok; rw [not_all tchar s k h hd]; simp
theorem isTok_yes {s : ByteArray} (h : 0 < s.size) (ha : (s.data.toList.take s.size).all tchar = true) : isTok s.data.toList = true := by
  unfold isTok; rw [cons_of_size h, all_of_take ha]; rfl

theorem head_eq {s : ByteArray} (h : 0 < s.size) : s.data.toList.headD 0 = s[0] := by
  have : s.data.toList[0]? = some s[0] := by rw [List.getElem?_eq_getElem (by simpa using h)]; rfl
  rw [List.headD_eq_head?_getD, List.head?_eq_getElem?, this]; rfl
theorem last_eq {s : ByteArray} (h : 0 < s.size) : s.data.toList.getLastD 0 = s[s.size - 1] := by
  have hl : s.data.toList.length = s.size := by simp
  have : s.data.toList[s.size - 1]? = some s[s.size - 1] := by rw [List.getElem?_eq_getElem (by omega)]; rfl
  rw [List.getLastD_eq_getLast?, List.getLast?_eq_getElem?, hl, this]; rfl
theorem isVal_nil {s : ByteArray} (h : s.size = 0) : isVal s.data.toList = true := by rw [nil_of_size h]; rfl
theorem isVal_no (s : ByteArray) (k : Nat) (h : k < s.size) (hd : textByte s[k] = false) : isVal s.data.toList = false := by
  unfold isVal; rw [not_all textByte s k h hd]; rfl
theorem isVal_all {s : ByteArray} (h : 0 < s.size) (ha : (s.data.toList.take s.size).all textByte = true) : isVal s.data.toList = (!blank s[0] && !blank s[s.size - 1]) := by
  unfold isVal; rw [cons_of_size h, all_of_take ha, head_eq h, last_eq h]; rfl

theorem text_yes {c : UInt8} (h : textByte c = true) : (c.toNat : Int) = 9 ∨ (32 ≤ (c.toNat : Int) ∧ (c.toNat : Int) ≠ 127) := by
  simp [textByte] at h; omega
theorem text_no {c : UInt8} (h : textByte c = false) : (c.toNat : Int) ≠ 9 ∧ ((c.toNat : Int) < 32 ∨ (c.toNat : Int) = 127) := by
  simp [textByte] at h; omega
/-- As the reference's Value asks it. -/
theorem text_ref (c : UInt8) : textByte c = (blank c || (33 ≤ c.toNat && c.toNat != 127)) := by
  have h : ∀ n : Nat, n < 256 → textByte (UInt8.ofNat n) = (blank (UInt8.ofNat n) || (33 ≤ (UInt8.ofNat n).toNat && (UInt8.ofNat n).toNat != 127)) := by decide +kernel
  have := h c.toNat c.toNat_lt
  rwa [UInt8.ofNat_toNat] at this
theorem tchar_cases (c : UInt8) : (97 ≤ c.toNat ∧ c.toNat ≤ 122) ∨ (65 ≤ c.toNat ∧ c.toNat ≤ 90) ∨ (48 ≤ c.toNat ∧ c.toNat ≤ 57) ∨ c.toNat ∈ [33, 35, 36, 37, 38, 39, 42, 43, 45, 46, 94, 95, 96, 124, 126] ∨ tchar c = false := by
  cases h : tchar c with
  | false => simp
  | true => simp [tchar] at h; simp; omega
theorem tchar_true {c : UInt8} (h : (97 ≤ c.toNat ∧ c.toNat ≤ 122) ∨ (65 ≤ c.toNat ∧ c.toNat ≤ 90) ∨ (48 ≤ c.toNat ∧ c.toNat ≤ 57) ∨ c.toNat ∈ [33, 35, 36, 37, 38, 39, 42, 43, 45, 46, 94, 95, 96, 124, 126]) : tchar c = true := by
  simp at h; simp [tchar]; omega
end Go.Proofs.YthhnpdihgoiccaaDoor.Tk
