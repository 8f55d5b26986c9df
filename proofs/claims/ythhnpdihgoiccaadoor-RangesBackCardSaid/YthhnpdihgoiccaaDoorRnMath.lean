/-
  One range of a text, as plain functions on bytes: by its two ends. No program, no condition.
-/
import Derived.Test.YthhnpdihgoiccaaDoorRgMath
namespace Go.Proofs.YthhnpdihgoiccaaDoor.Rm
open Go.Proofs.YthhnpdihgoiccaaDoor.Tk Go.Proofs.YthhnpdihgoiccaaDoor.Ct
set_option linter.unusedVariables false
set_option linter.unusedSimpArgs false

/-- An end: -1, where nothing stands. -/
def endO (m : Int) (t : Bs) : Option Int := if t = [] then some (-1) else numT m t
def rdO (m : Int) (l : Bs) : Option W := if ix 45 l = l.length then none else match endO m (l.take (ix 45 l)), endO m (l.drop (ix 45 l + 1)) with
  | some a, some b => if fine (a, b) then some (a, b) else none
  | _, _ => none
theorem endO_bd {m : Int} {t : Bs} {a : Int} (h : endO m t = some a) : (t = [] ∧ a = -1) ∨ (t ≠ [] ∧ numT m t = some a ∧ 0 ≤ a ∧ a ≤ m) := by
  unfold endO at h
  split at h
  · rename_i h0; injection h with h; exact .inl ⟨h0, h.symm⟩
  · rename_i h0; exact .inr ⟨h0, h, numT_bd h⟩
theorem take_nil {l : Bs} {k : Nat} (hk : k < l.length) : l.take k = [] ↔ k = 0 := by
  constructor
  · intro h
    have := congrArg List.length h
    simp at this
    rcases this with h | h
    · exact h
    · subst h; simp at hk
  · rintro rfl; rfl
theorem drop_nil {l : Bs} {k : Nat} (hk : k < l.length) : l.drop (k + 1) = [] ↔ k + 1 = l.length := by
  rw [List.drop_eq_nil_iff]; omega
theorem fine_iff {a b : Int} : fine (a, b) = true ↔ -1 ≤ a ∧ -1 ≤ b ∧ a ≤ 1099511627776 ∧ b ≤ 1099511627776 ∧ ¬ (a = -1 ∧ b = -1) ∧ ¬ (0 ≤ a ∧ 0 ≤ b ∧ b < a) := by
  unfold fine; rw [decide_eq_true_iff]; rfl
theorem one_rd (l : Bs) : oneW l = rdO mostT l := by
  have hm : mostT = 1099511627776 := rfl
  unfold oneW rdO
  by_cases h : ix 45 l = l.length
  · rw [if_pos h, if_pos h]
  · rw [if_neg h, if_neg h]
    have hk : ix 45 l < l.length := by have := ix_le 45 l; omega
    obtain ⟨k, hkk⟩ : ∃ k, ix 45 l = k := ⟨_, rfl⟩
    rw [hkk] at hk ⊢
    by_cases h0 : k = 0
    · subst h0
      rw [if_pos rfl]
      have e1 : endO mostT (l.take 0) = some (-1) := by unfold endO; rw [if_pos (by simp)]
      rw [e1]
      by_cases h1 : l.drop 1 = []
      · have e2 : endO mostT (l.drop (0 + 1)) = some (-1) := by unfold endO; rw [if_pos h1]
        rw [e2, h1, numT_nil]
        simp [fine]
      · have e2 : endO mostT (l.drop (0 + 1)) = numT mostT (l.drop 1) := by unfold endO; rw [if_neg h1]
        rw [e2]
        cases hn : numT mostT (l.drop 1) with
        | none => rfl
        | some b =>
          have hb := numT_bd hn
          show some (-1, b) = if fine (-1, b) then some (-1, b) else none
          rw [if_pos (fine_iff.2 (by omega))]
    · rw [if_neg h0]
      have e1 : endO mostT (l.take k) = numT mostT (l.take k) := by unfold endO; rw [if_neg (fun h => h0 ((take_nil hk).1 h))]
      rw [e1]
      by_cases h1 : k + 1 = l.length
      · rw [if_pos h1]
        have e2 : endO mostT (l.drop (k + 1)) = some (-1) := by unfold endO; rw [if_pos ((drop_nil hk).2 h1)]
        rw [e2]
        cases hn : numT mostT (l.take k) with
        | none => rfl
        | some b =>
          have hb := numT_bd hn
          show some (b, -1) = if fine (b, -1) then some (b, -1) else none
          rw [if_pos (fine_iff.2 (by omega))]
      · rw [if_neg h1]
        have e2 : endO mostT (l.drop (k + 1)) = numT mostT (l.drop (k + 1)) := by unfold endO; rw [if_neg (fun h => h1 ((drop_nil hk).1 h))]
        rw [e2]
        cases hn : numT mostT (l.take k) with
        | none => rfl
        | some a =>
          cases hn2 : numT mostT (l.drop (k + 1)) with
          | none => rfl
          | some b =>
            have ha := numT_bd hn
            have hb := numT_bd hn2
            show (if a ≤ b then some (a, b) else none) = if fine (a, b) then some (a, b) else none
            by_cases hab : a ≤ b
            · rw [if_pos hab, if_pos (fine_iff.2 (by omega))]
            · rw [if_neg hab, if_neg (fun h => by have := fine_iff.1 h; omega)]
end Go.Proofs.YthhnpdihgoiccaaDoor.Rm
