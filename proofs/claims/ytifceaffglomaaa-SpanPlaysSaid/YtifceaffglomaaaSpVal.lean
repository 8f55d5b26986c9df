/-
  What is a set, and how great it is, as the program and the reference tell it: plain functions. No program, no condition.
-/
import Derived.Test.YtifceaffglomaaaSpLaw
namespace Go.Proofs.Ytifceaffglomaaa.Sn
set_option linter.unusedVariables false
set_option linter.unusedSimpArgs false

def rightB (s : Sp) : Bool := decide (0 ≤ s.1) && decide (s.1 ≤ s.2) && decide (s.2 ≤ 1048576)
theorem rightB_iff (s : Sp) : rightB s = true ↔ Right s := by
  unfold rightB
  simp only [Bool.and_eq_true, decide_eq_true_eq]
  exact ⟨fun ⟨⟨a, b⟩, c⟩ => ⟨a, b, c⟩, fun ⟨a, b, c⟩ => ⟨⟨a, b⟩, c⟩⟩
def goodB : Int → List Sp → Bool
  | _, [] => true
  | m, s :: r => rightB s && !(decide (s.1 = s.2)) && decide (m ≤ s.1) && goodB (s.2 + 1) r
def validB (l : List Sp) : Bool := decide (l.length ≤ 32) && goodB 0 l
theorem goodB_iff : ∀ (l : List Sp) (m : Int), 0 ≤ m → (goodB m l = true ↔ Good (m - 1) l ∧ ∀ s ∈ l, s.2 ≤ mostB)
  | [], m, _ => by simp [goodB, Good]
  | (f, t) :: r, m, hm => by
    unfold goodB rightB Good
    simp only [Bool.and_eq_true, decide_eq_true_eq, Bool.not_eq_true', decide_eq_false_iff_not]
    constructor
    · rintro ⟨⟨⟨⟨⟨h0, h1⟩, h2⟩, h3⟩, h4⟩, h5⟩
      have := (goodB_iff r (t + 1) (by omega)).1 h5
      rw [Int.add_sub_cancel] at this
      refine ⟨⟨by omega, by omega, this.1⟩, fun s hs => ?_⟩
      rcases List.mem_cons.1 hs with rfl | hs
      · exact h2
      · exact this.2 s hs
    · rintro ⟨⟨h0, h1, h2⟩, h3⟩
      have ht := h3 (f, t) (by simp)
      unfold mostB at ht
      refine ⟨⟨⟨⟨⟨by omega, by omega⟩, ht⟩, by omega⟩, by omega⟩, (goodB_iff r (t + 1) (by omega)).2 ⟨by rw [Int.add_sub_cancel]; exact h2, fun s hs => h3 s (by simp [hs])⟩⟩
theorem validB_iff (l : List Sp) : validB l = true ↔ Valid l := by
  unfold validB
  rw [Bool.and_eq_true, decide_eq_true_eq, goodB_iff l 0 (Int.le_refl _)]
  exact ⟨fun ⟨a, b, c⟩ => ⟨a, b, c⟩, fun ⟨a, b, c⟩ => ⟨a, b, c⟩⟩
theorem drop_cons {α : Type} (l : List α) (k : Nat) (h : k < l.length) : l.drop k = l[k] :: l.drop (k + 1) := List.drop_eq_getElem_cons h
/-- What is to come, at a span that is right. -/
theorem goodB_step (m x y : Int) (r : List Sp) (h0 : 0 ≤ x) (h1 : x ≤ y) (h2 : y ≤ 1048576) (h3 : x ≠ y) (h4 : m ≤ x) : goodB m ((x, y) :: r) = goodB (y + 1) r := by
  simp [goodB, rightB, h0, h1, h2, h3, h4]
theorem goodB_stop (m x y : Int) (r : List Sp) (h : ¬ (0 ≤ x ∧ x ≤ y ∧ y ≤ 1048576) ∨ x = y ∨ ¬ m ≤ x) : goodB m ((x, y) :: r) = false := by
  unfold goodB rightB
  rcases h with h | h | h
  · have : (decide (0 ≤ x) && decide (x ≤ y) && decide (y ≤ 1048576)) = false := by
      rw [Bool.eq_false_iff]
      intro hh
      simp only [Bool.and_eq_true, decide_eq_true_eq] at hh
      exact h ⟨hh.1.1, hh.1.2, hh.2⟩
    rw [this]; rfl
  · simp [h]
  · simp [h]
def sizeB (l : List Sp) : Int := if validB l then size l else 0
theorem size_cons (s : Sp) (r : List Sp) : size (s :: r) = s.2 - s.1 + size r := by simp [size]
theorem size_nonneg : ∀ {l : List Sp} {b : Int}, Good b l → 0 ≤ size l
  | [], _, _ => by simp [size]
  | (f, t) :: r, b, h => by rw [size_cons]; have := size_nonneg h.2.2; have := h.2.1; simp; omega
theorem size_most : ∀ {l : List Sp} {b M : Int}, Good b l → (∀ s ∈ l, s.2 ≤ M) → b ≤ M → size l ≤ M - b
  | [], _, _, _, _, _ => by simp [size]; omega
  | (f, t) :: r, b, M, h, hm, hb => by
    have ht := hm (f, t) (by simp)
    rw [size_cons]
    have := size_most h.2.2 (fun s hs => hm s (by simp [hs])) ht
    have := h.1
    simp; omega
theorem Good.drop : ∀ {l : List Sp} {b : Int}, Good b l → ∀ k, ∃ c, b ≤ c ∧ Good c (l.drop k)
  | l, b, h, 0 => ⟨b, Int.le_refl _, h⟩
  | [], b, h, k + 1 => ⟨b, Int.le_refl _, trivial⟩
  | (f, t) :: r, b, h, k + 1 => by
    obtain ⟨c, hc, hg⟩ := Good.drop h.2.2 k
    have := h.1; have := h.2.1
    exact ⟨c, by omega, hg⟩
end Go.Proofs.Ytifceaffglomaaa.Sn
