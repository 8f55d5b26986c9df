/-
  The set that a rising list of ends cuts out, step by step, as plain functions. No program, no condition.
-/
import Derived.Test.YthhnpdihgoiccaaDoorSpMath
namespace Go.Proofs.YthhnpdihgoiccaaDoor.Sn
set_option linter.unusedVariables false

/-- One piece more, from x to y: put to the last span, where that ends at x. -/
def stepOf (p : Int → Bool) (out : List Sp) (x y : Int) : List Sp :=
  if x = y ∨ p x = false then out
  else match out.getLast? with
    | none => [(x, y)]
    | some (f, t) => if t = x then out.dropLast ++ [(f, y)] else out ++ [(x, y)]
/-- What is gathered up to x. -/
structure Upto (b lo : Int) (p : Int → Bool) (x : Int) (out : List Sp) : Prop where
  good : Good b out
  le : ∀ s ∈ out, s.2 ≤ x
  mem : ∀ z, mem out z ↔ lo ≤ z ∧ z < x ∧ p z = true
  low : b < lo
  up : lo ≤ x
theorem Upto.start (b lo : Int) (p : Int → Bool) (h : b < lo) : Upto b lo p lo [] := ⟨trivial, fun _ h => by simp at h, fun z => ⟨fun h => absurd h (mem_nil z), fun h => by omega⟩, h, Int.le_refl _⟩
theorem good_last : ∀ {l : List Sp} {b f t : Int}, Good b (l ++ [(f, t)]) → (∀ s ∈ l, s.2 < f) ∧ b < f ∧ f < t
  | [], b, f, t, h => ⟨fun _ h => by simp at h, h.1, h.2.1⟩
  | (f', t') :: r, b, f, t, h => by
    obtain ⟨h1, h2, h3⟩ := good_last (l := r) h.2.2
    refine ⟨fun s hs => ?_, by have := h.1; have := h.2.1; omega, h3⟩
    rcases List.mem_cons.1 hs with rfl | hs
    · exact h2
    · exact h1 s hs
theorem Upto.step {b lo : Int} {p : Int → Bool} {x y : Int} {out : List Sp} (h : Upto b lo p x out) (hxy : x ≤ y) (hp : ∀ z, x ≤ z → z < y → p z = p x) : Upto b lo p y (stepOf p out x y) := by
  have hx := h.up
  have hl := h.low
  unfold stepOf
  split
  · rename_i h0
    refine ⟨h.good, fun s hs => by have := h.le s hs; omega, fun z => ?_, hl, by omega⟩
    rw [h.mem z]
    constructor
    · rintro ⟨h1, h2, h3⟩; exact ⟨h1, by omega, h3⟩
    · rintro ⟨h1, h2, h3⟩
      refine ⟨h1, ?_, h3⟩
      by_cases h4 : z < x
      · exact h4
      · rcases h0 with h0 | h0
        · omega
        · rw [hp z (by omega) h2, h0] at h3; cases h3
  · rename_i h0
    have hne : x < y := by omega
    have hpx : p x = true := by
      cases h1 : p x with
      | true => rfl
      | false => exact absurd (.inr h1) h0
    have hpiece : ∀ z, x ≤ z ∧ z < y → p z = true := fun z ⟨h1, h2⟩ => by rw [hp z h1 h2]; exact hpx
    cases hg : out.getLast? with
    | none =>
      have ho : out = [] := List.getLast?_eq_none_iff.1 hg
      subst ho
      refine ⟨⟨by omega, hne, trivial⟩, fun s hs => by simp at hs; subst hs; exact Int.le_refl _, fun z => ?_, hl, by omega⟩
      rw [mem_cons]
      have h1 := h.mem z
      constructor
      · rintro (⟨h2, h3⟩ | h2)
        · simp only at h2 h3; exact ⟨by omega, h3, hpiece z ⟨h2, h3⟩⟩
        · exact absurd h2 (mem_nil z)
      · rintro ⟨h2, h3, h4⟩
        left
        refine ⟨?_, h3⟩
        by_cases h5 : z < x
        · exact absurd (h1.2 ⟨h2, h5, h4⟩) (mem_nil z)
        · simp only; omega
    | some s =>
      obtain ⟨f, t⟩ := s
      obtain ⟨init, rfl⟩ := List.getLast?_eq_some_iff.1 hg
      obtain ⟨g1, g2, g3⟩ := good_last h.good
      simp only
      by_cases ht : t = x
      · rw [if_pos ht]
        subst ht
        rw [List.dropLast_concat]
        refine ⟨h.good.longer y hxy, fun s hs => ?_, fun z => ?_, hl, by omega⟩
        · rcases List.mem_append.1 hs with hs | hs
          · have := h.le s (by simp [hs]); omega
          · simp at hs; subst hs; exact Int.le_refl _
        · have h1 := h.mem z
          rw [mem_append, mem_cons] at h1 ⊢
          simp only at h1 ⊢
          constructor
          · rintro (h2 | ⟨h2, h3⟩ | h2)
            · obtain ⟨a1, a2, a3⟩ := h1.1 (.inl h2); exact ⟨a1, by omega, a3⟩
            · by_cases h4 : z < t
              · obtain ⟨a1, a2, a3⟩ := h1.1 (.inr (.inl ⟨h2, h4⟩)); exact ⟨a1, by omega, a3⟩
              · exact ⟨by omega, h3, hpiece z ⟨by omega, h3⟩⟩
            · exact absurd h2 (mem_nil z)
          · rintro ⟨h2, h3, h4⟩
            by_cases h5 : z < t
            · rcases h1.2 ⟨h2, h5, h4⟩ with h6 | ⟨h6, h7⟩ | h6
              · exact .inl h6
              · exact .inr (.inl ⟨h6, h3⟩)
              · exact absurd h6 (mem_nil z)
            · exact .inr (.inl ⟨by omega, h3⟩)
      · rw [if_neg ht]
        have htx : t < x := by have := h.le (f, t) (by simp); simp only at this; omega
        refine ⟨h.good.snoc x y (by omega) hne (fun s hs => ?_), fun s hs => ?_, fun z => ?_, hl, by omega⟩
        · rcases List.mem_append.1 hs with hs | hs
          · have := g1 s hs; omega
          · simp at hs; subst hs; exact htx
        · rcases List.mem_append.1 hs with hs | hs
          · have := h.le s hs; omega
          · simp at hs; subst hs; exact Int.le_refl _
        · rw [mem_append, mem_cons, h.mem z]
          simp only
          constructor
          · rintro (⟨h2, h3, h4⟩ | ⟨h2, h3⟩ | h2)
            · exact ⟨h2, by omega, h4⟩
            · exact ⟨by omega, h3, hpiece z ⟨h2, h3⟩⟩
            · exact absurd h2 (mem_nil z)
          · rintro ⟨h2, h3, h4⟩
            by_cases h5 : z < x
            · exact .inl ⟨h2, h5, h4⟩
            · exact .inr (.inl ⟨by omega, h3⟩)
/-- Between two neighbours of a rising list that has all ends nothing begins or ends. -/
theorem piece {l : List Sp} {e : List Int} (hr : ∀ i j (hi : i < e.length) (hj : j < e.length), i ≤ j → e[i] ≤ e[j]) (hall : ∀ s ∈ l, s.1 ∈ e ∧ s.2 ∈ e) (i : Nat) (hi : i + 1 < e.length) (z : Int) (h1 : e[i] ≤ z) (h2 : z < e[i + 1]) : memB l z = memB l e[i] := by
  have side : ∀ v ∈ e, (v ≤ z ↔ v ≤ e[i]) := by
    intro v hv
    obtain ⟨j, hj, rfl⟩ := List.mem_iff_getElem.1 hv
    by_cases hji : j ≤ i
    · have := hr j i hj (by omega) hji
      constructor <;> intro _ <;> omega
    · have := hr (i + 1) j hi hj (by omega)
      constructor <;> intro _ <;> omega
  unfold memB
  rw [Bool.eq_iff_iff, List.any_eq_true, List.any_eq_true]
  constructor
  · rintro ⟨s, hs, h3⟩
    have h4 := of_decide_eq_true h3
    obtain ⟨a1, a2⟩ := hall s hs
    have b1 := side s.1 a1
    have b2 := side s.2 a2
    exact ⟨s, hs, decide_eq_true ⟨b1.1 h4.1, by omega⟩⟩
  · rintro ⟨s, hs, h3⟩
    have h4 := of_decide_eq_true h3
    obtain ⟨a1, a2⟩ := hall s hs
    have b1 := side s.1 a1
    have b2 := side s.2 a2
    exact ⟨s, hs, decide_eq_true ⟨b1.2 h4.1, by omega⟩⟩
/-- The four sets of two. -/
def pick (what : Int) (a b : Bool) : Bool := (what == 1 && (a || b)) || (what == 2 && a && !b) || (what == 3 && b && !a) || (what == 4 && a && b)
theorem pick_none (what : Int) : pick what false false = false := by simp [pick]
/-- All steps over a rising list. -/
def runOf (p : Int → Bool) (e : List Int) : Nat → List Sp
  | 0 => []
  | k + 1 => stepOf p (runOf p e k) (e.getD k 0) (e.getD (k + 1) 0)
theorem run_upto {p : Int → Bool} {e : List Int} {b : Int} (hr : ∀ i j (hi : i < e.length) (hj : j < e.length), i ≤ j → e[i] ≤ e[j]) (hp : ∀ i (hi : i + 1 < e.length) z, e[i] ≤ z → z < e[i + 1] → p z = p e[i]) (h0 : 0 < e.length) (hb : b < e[0]) :
    ∀ k (hk : k < e.length), Upto b e[0] p e[k] (runOf p e k)
  | 0, _ => Upto.start b e[0] p hb
  | k + 1, hk => by
    have ih := run_upto hr hp h0 hb k (by omega)
    have e1 : e.getD k 0 = e[k] := by simp [show k < e.length by omega]
    have e2 : e.getD (k + 1) 0 = e[k + 1] := by simp [hk]
    unfold runOf
    rw [e1, e2]
    exact ih.step (hr k (k + 1) (by omega) hk (by omega)) (hp k hk)
end Go.Proofs.YthhnpdihgoiccaaDoor.Sn
