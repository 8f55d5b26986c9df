/-
  Numbers as decimal digits, and what Number reads of them: plain functions on bytes. No program, no condition.
-/
import Derived.Test.YthhnpdihgoiccaaDoorTokPairMath
import Derived.Test.YthhnpdihgoiccaaDoorNum
namespace Go.Proofs.YthhnpdihgoiccaaDoor.Ct
open Go.Proofs.YthhnpdihgoiccaaDoor.Tk
set_option linter.unusedVariables false
set_option linter.unusedSimpArgs false

/-! Decimal digits. -/
def decD (d : Nat) : UInt8 := UInt8.ofNat (48 + d)
def decL (n : Nat) : Bs := if h : n < 10 then [decD n] else decL (n / 10) ++ [decD (n % 10)]
termination_by n
decreasing_by omega
theorem decL_small {n : Nat} (h : n < 10) : decL n = [decD n] := by rw [decL, dif_pos h]
theorem decL_big {n : Nat} (h : ¬ n < 10) : decL n = decL (n / 10) ++ [decD (n % 10)] := by rw [decL, dif_neg h]
theorem decD_facts : ∀ d, d < 10 → (decD d).toNat = 48 + d ∧ tchar (decD d) = true ∧ Num.dg (decD d) = true ∧ textByte (decD d) = true ∧ decD d ≠ 34 ∧ decD d ≠ 92 := by decide
/-- The less of a number and the most that is told. -/
def capped (n : Nat) (m : Int) : Int := if m < (n : Int) then m else n
structure Dec (l : Bs) (n k : Nat) : Prop where
  tok : l.all tchar = true
  dig : l.all Num.dg = true
  txt : l.all textByte = true
  esc : l.flatMap esc = l
  pos : 0 < l.length
  len : l.length ≤ k + 1
  num : ∀ m : Int, 0 ≤ m → Num.num m 0 l = capped n m
theorem decL_all : ∀ (k n : Nat), n < 10 ^ (k + 1) → Dec (decL n) n k
  | k, n, h => by
    by_cases hn : n < 10
    · obtain ⟨h1, h2, h3, h4, h5, h6⟩ := decD_facts n hn
      rw [decL_small hn]
      refine ⟨by simp [h2], by simp [h3], by simp [h4], by simp [Tk.esc, h5, h6], by simp, by simp, fun m hm => ?_⟩
      show Num.step m 0 (((decD n).toNat : Int) - 48) = _
      rw [h1]; unfold Num.step capped
      repeat' split <;> omega
    · cases k with
      | zero => omega
      | succ k =>
        have hd : n / 10 < 10 ^ (k + 1) := by rw [Nat.div_lt_iff_lt_mul (by omega)]; rw [Nat.pow_succ] at h; omega
        have ih := decL_all k (n / 10) hd
        obtain ⟨h1, h2, h3, h4, h5, h6⟩ := decD_facts (n % 10) (Nat.mod_lt _ (by omega))
        rw [decL_big hn]
        refine ⟨by rw [List.all_append, ih.tok]; simp [h2], by rw [List.all_append, ih.dig]; simp [h3], by rw [List.all_append, ih.txt]; simp [h4], ?_, by simp, by have := ih.len; simp; omega, fun m hm => ?_⟩
        · rw [List.flatMap_append, ih.esc]; simp [Tk.esc, h5, h6]
        · rw [Num.num_snoc, ih.num m hm, h1]
          unfold Num.step capped
          repeat' split <;> omega
theorem dec_big (n : Nat) : n < 10 ^ (n + 1) := Nat.lt_of_lt_of_le (Nat.lt_pow_self (by decide)) (Nat.pow_le_pow_right (by decide) (Nat.le_succ n))
theorem dec_inj {a b : Nat} (h : decL a = decL b) : a = b := by
  have ha := (decL_all a a (dec_big a)).num ((a : Int) + b) (by omega)
  have hb := (decL_all b b (dec_big b)).num ((a : Int) + b) (by omega)
  rw [h, hb] at ha
  unfold capped at ha
  split at ha <;> split at ha <;> omega
theorem dec_no {n : Nat} : ∀ c ∈ decL n, c ≠ 58 ∧ c ≠ 45 ∧ c ≠ 47 ∧ c ≠ 44 ∧ c ≠ 34 ∧ c ≠ 42 := by
  intro c hc
  have hl := decL_all n n (dec_big n)
  have h := hl.dig
  rw [List.all_eq_true] at h
  have h1 := h c hc
  refine ⟨?_, ?_, ?_, ?_, ?_, ?_⟩ <;> (rintro rfl; revert h1; decide)
end Go.Proofs.YthhnpdihgoiccaaDoor.Ct
