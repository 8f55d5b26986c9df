/-
  The parts of a line: plain functions on bytes. No program, no condition.
-/
import Derived.Test.YtlnlihkljnkhiaaDoorTokIsMath
import Derived.Lib.Bytealg
namespace Go.Proofs.YtlnlihkljnkhiaaDoor.Ln
open Go.Proofs.YtlnlihkljnkhiaaDoor.Tk

/-- May a byte stand in a target; in a reason? -/
def tg (c : UInt8) : Bool := 33 ≤ c.toNat && c.toNat ≤ 126
def rs (c : UInt8) : Bool := (c.toNat == 9 || 32 ≤ c.toNat) && c.toNat != 127
def isTgt (l : Bs) : Bool := !l.isEmpty && l.all tg
def isRsn (l : Bs) : Bool := l.all rs
def ver0 : Bs := [72, 84, 84, 80, 47, 49, 46, 48]
def ver1 : Bs := [72, 84, 84, 80, 47, 49, 46, 49]
def minorOf (l : Bs) : Int := if l = ver0 then 0 else if l = ver1 then 1 else -1
def isMin (n : Int) : Bool := n == 0 || n == 1
def isCod (n : Int) : Bool := decide (100 ≤ n) && decide (n ≤ 599)
def dgt (c : UInt8) : Bool := 48 ≤ c.toNat && c.toNat ≤ 57
/-- The number of three digits; -1: they are none. -/
def codeOf : Bs → Int
  | [a, b, c] => if dgt a && dgt b && dgt c then ((a.toNat : Int) - 48) * 100 + ((b.toNat : Int) - 48) * 10 + ((c.toNat : Int) - 48) else -1
  | _ => -1
/-- The place of the first byte 32, or the end. -/
def idx : Bs → Nat
  | [] => 0
  | c :: r => if c = 32 then 0 else idx r + 1
def fst (l : Bs) : Bs := l.take (idx l)
def rst (l : Bs) : Bs := l.drop (idx l + 1)

theorem idx_le (l : Bs) : idx l ≤ l.length := by
  induction l with
  | nil => exact Nat.le_refl _
  | cons c r ih => unfold idx; split <;> simp; omega
theorem idx_at (l : Bs) (h : idx l < l.length) : l[idx l] = 32 := by
  induction l with
  | nil => simp at h
  | cons c r ih =>
    by_cases hc : c = 32
    · simp [idx, hc]
    · have h' : idx r < r.length := by simp [idx, hc] at h; omega
      simp [idx, hc, ih h']
theorem idx_before (l : Bs) (j : Nat) (hj : j < idx l) : l[j]'(by have := idx_le l; omega) ≠ 32 := by
  induction l generalizing j with
  | nil => simp [idx] at hj
  | cons c r ih =>
    by_cases hc : c = 32
    · simp [idx, hc] at hj
    · cases j with
      | zero => simpa using hc
      | succ j => simp only [idx, hc, if_false] at hj; simpa using ih j (by omega)
theorem indexByte_eq (l : Bs) : Lib.indexByte l 32 = if idx l < l.length then (idx l : Int) else -1 := by
  induction l with
  | nil => simp [Lib.indexByte, idx]
  | cons c r ih =>
    unfold Lib.indexByte idx
    by_cases hc : c = 32
    · simp [hc]
    · have hb : (c == 32) = false := by simpa using hc
      rw [if_neg hc, hb, ih, List.length_cons]
      by_cases h : idx r < r.length
      · have h2 : idx r + 1 < r.length + 1 := by omega
        have h3 : ((idx r : Int) == -1) = false := by rw [beq_eq_false_iff_ne]; omega
        rw [if_pos h, if_pos h2, h3]; simp
      · have h2 : ¬ idx r + 1 < r.length + 1 := by omega
        rw [if_neg h, if_neg h2]; rfl
theorem fst_full {l : Bs} (h : ¬ idx l < l.length) : fst l = l := by unfold fst; exact List.take_of_length_le (by omega)
theorem rst_full {l : Bs} (h : ¬ idx l < l.length) : rst l = [] := by unfold rst; exact List.drop_eq_nil_of_le (by omega)
theorem fst_len (l : Bs) : (fst l).length = idx l := by unfold fst; rw [List.length_take]; have := idx_le l; omega
theorem rst_len (l : Bs) : (rst l).length = l.length - (idx l + 1) := by unfold rst; rw [List.length_drop]
theorem fst_le (l : Bs) : (fst l).length ≤ l.length := by rw [fst_len]; exact idx_le l
theorem rst_le (l : Bs) : (rst l).length ≤ l.length := by rw [rst_len]; omega
theorem split_at {l : Bs} (h : idx l < l.length) : l = fst l ++ 32 :: rst l := by
  unfold fst rst
  conv => lhs; rw [← List.take_append_drop (idx l) l]
  rw [List.drop_eq_getElem_cons h, idx_at l h]
/-- A text without a byte 32, a byte 32, and whatever else. -/
theorem idx_mk {a b : Bs} (ha : ∀ c ∈ a, c ≠ 32) : idx (a ++ 32 :: b) = a.length := by
  induction a with
  | nil => rfl
  | cons c r ih => simp only [List.cons_append, idx, ha c (by simp), if_false, List.length_cons]; rw [ih fun c hc => ha c (by simp [hc])]
theorem idx_none {a : Bs} (ha : ∀ c ∈ a, c ≠ 32) : idx a = a.length := by
  induction a with
  | nil => rfl
  | cons c r ih => simp only [idx, ha c (by simp), if_false, List.length_cons]; rw [ih fun c hc => ha c (by simp [hc])]
theorem fst_mk {a b : Bs} (ha : ∀ c ∈ a, c ≠ 32) : fst (a ++ 32 :: b) = a := by unfold fst; rw [idx_mk ha, List.take_left]
theorem rst_mk {a b : Bs} (ha : ∀ c ∈ a, c ≠ 32) : rst (a ++ 32 :: b) = b := by
  unfold rst; rw [idx_mk ha, ← List.drop_drop, List.drop_left]; rfl
theorem fst_none {a : Bs} (ha : ∀ c ∈ a, c ≠ 32) : fst a = a := by unfold fst; rw [idx_none ha, List.take_length]
theorem rst_none {a : Bs} (ha : ∀ c ∈ a, c ≠ 32) : rst a = [] := by unfold rst; rw [idx_none ha]; exact List.drop_eq_nil_of_le (by omega)
theorem fst_no (l : Bs) : ∀ c ∈ fst l, c ≠ 32 := by
  intro c hc
  have hc' : c ∈ l.take (idx l) := hc
  obtain ⟨j, hj, rfl⟩ := List.getElem_of_mem hc'
  have h1 : j < idx l := by rw [← fst_len l]; exact hj
  rw [List.getElem_take]; exact idx_before l j h1

theorem tok_no {l : Bs} (h : isTok l = true) : ∀ c ∈ l, c ≠ 32 := by
  intro c hc e
  simp [isTok] at h
  have := h.2 c hc
  rw [e] at this
  exact absurd this (by decide)
theorem tgt_no {l : Bs} (h : isTgt l = true) : ∀ c ∈ l, c ≠ 32 := by
  intro c hc e
  simp [isTgt] at h
  have := h.2 c hc
  rw [e] at this
  exact absurd this (by decide)
theorem tg_yes {c : UInt8} (h : tg c = true) : 33 ≤ (c.toNat : Int) ∧ (c.toNat : Int) ≤ 126 := by simp [tg] at h; omega
theorem tg_no {c : UInt8} (h : tg c = false) : (c.toNat : Int) < 33 ∨ (33 ≤ (c.toNat : Int) ∧ 126 < (c.toNat : Int)) := by simp [tg] at h; omega
theorem rs_yes {c : UInt8} (h : rs c = true) : (c.toNat : Int) = 9 ∨ (32 ≤ (c.toNat : Int) ∧ (c.toNat : Int) ≠ 127) := by simp [rs] at h; omega
theorem rs_no {c : UInt8} (h : rs c = false) : ((c.toNat : Int) < 32 ∧ (c.toNat : Int) ≠ 9) ∨ (c.toNat : Int) = 127 := by simp [rs] at h; omega
theorem isTgt_nil {s : ByteArray} (h : s.size = 0) : isTgt s.data.toList = false := by rw [nil_of_size h]; rfl
theorem isTgt_no (s : ByteArray) (k : Nat) (h : k < s.size) (hd : tg s[k] = false) : isTgt s.data.toList = false := by
  unfold isTgt; rw [not_all tg s k h hd]; simp
theorem isTgt_yes {s : ByteArray} (h : 0 < s.size) (ha : (s.data.toList.take s.size).all tg = true) : isTgt s.data.toList = true := by
  unfold isTgt; rw [cons_of_size h, all_of_take ha]; rfl
theorem isRsn_no (s : ByteArray) (k : Nat) (h : k < s.size) (hd : rs s[k] = false) : isRsn s.data.toList = false := not_all rs s k h hd
theorem isRsn_yes {s : ByteArray} (ha : (s.data.toList.take s.size).all rs = true) : isRsn s.data.toList = true := all_of_take ha

/-- Is it a request's line; a status line? -/
def reqOk (l : Bs) : Bool := isTok (fst l) && isTgt (fst (rst l)) && isMin (minorOf (rst (rst l)))
def stOk (l : Bs) : Bool := isMin (minorOf (fst l)) && isCod (codeOf (fst (rst l))) && isRsn (rst (rst l))
theorem minor_cases (l : Bs) : minorOf l = 0 ∨ minorOf l = 1 ∨ minorOf l = -1 := by
  unfold minorOf; split
  · exact .inl rfl
  · split
    · exact .inr (.inl rfl)
    · exact .inr (.inr rfl)
theorem minor_bd (l : Bs) : -1 ≤ minorOf l ∧ minorOf l ≤ 1 := by rcases minor_cases l with h | h | h <;> omega
theorem isMin_minor (l : Bs) : isMin (minorOf l) = decide (0 ≤ minorOf l) := by rcases minor_cases l with h | h | h <;> rw [h] <;> rfl
theorem ver_no {l : Bs} (h : isMin (minorOf l) = true) : ∀ c ∈ l, c ≠ 32 := by
  unfold minorOf at h
  split at h
  · rename_i e; rw [e]; decide
  · split at h
    · rename_i e; rw [e]; decide
    · exact absurd h (by decide)
theorem code_bd (l : Bs) : -1 ≤ codeOf l ∧ codeOf l ≤ 999 := by
  unfold codeOf
  split
  · split
    · rename_i h; simp [dgt] at h; omega
    · omega
  · omega
end Go.Proofs.YtlnlihkljnkhiaaDoor.Ln
