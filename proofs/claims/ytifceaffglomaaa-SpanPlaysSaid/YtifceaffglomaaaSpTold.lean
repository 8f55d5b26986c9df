/-
  What span's calls tell, as plain functions, and that each is the set that the document asks for. No program, no condition.
-/
import Derived.Test.YtifceaffglomaaaSpCut
namespace Go.Proofs.Ytifceaffglomaaa.Sn
set_option linter.unusedVariables false
set_option linter.unusedSimpArgs false

/-- The list of a span, or of none. -/
def filledL (s : Sp) : List Sp := if s.1 = s.2 then [] else [s]
/-- What of a span others leave. -/
def withoutL (y : Int) : Int → List Sp → List Sp
  | x, [] => filledL (x, y)
  | x, u :: r => filledL (x, max x u.1) ++ withoutL y (min y u.2) r
def okB (l : List Sp) (s : Sp) : Bool := validB l && rightB s
def gapsOf (l : List Sp) (s : Sp) : List Sp := withoutL s.2 s.1 (metL l s)
def cutOf (l : List Sp) (s : Sp) : List Sp := (metL l s).map fun p => (max s.1 p.1, min s.2 p.2)
def leftOf (l : List Sp) (s : Sp) : List Sp := (metL l s).flatMap fun p => withoutL p.2 p.1 [s]
def remOf (l : List Sp) (s : Sp) : List Sp := aheadL l s ++ (leftOf l s ++ behindL l s)
def wide (s : Sp) : Sp := (s.1 - 1, s.2 + 1)
def join1 (s p : Sp) : Sp := (min s.1 p.1, max s.2 p.2)
def allOf (s : Sp) (ps : List Sp) : Sp := ps.foldl join1 s
def addOf (l : List Sp) (s : Sp) : List Sp := aheadL l (wide s) ++ (filledL (allOf s (metL l (wide s))) ++ behindL l (wide s))
def gapsL (l : List Sp) (s : Sp) : List Sp := if okB l s then gapsOf l s else []
def cutL (l : List Sp) (s : Sp) : List Sp := if okB l s then cutOf l s else []
def hasL (l : List Sp) (s : Sp) : Bool := okB l s && decide ((gapsL l s).length = 0)
theorem okB_iff (l : List Sp) (s : Sp) : okB l s = true ↔ Valid l ∧ Right s := by unfold okB; rw [Bool.and_eq_true, validB_iff, rightB_iff]

theorem Good.append : ∀ {a : List Sp} {b : Int} {c : List Sp}, Good b a → Good b c → (∀ u ∈ a, ∀ v ∈ c, u.2 < v.1) → Good b (a ++ c)
  | [], b, c, _, hc, _ => hc
  | (f, t) :: r, b, c, ha, hc, h => by
    refine ⟨ha.1, ha.2.1, ha.2.2.append ?_ (fun u hu v hv => h u (by simp [hu]) v hv)⟩
    cases c with
    | nil => trivial
    | cons v q => exact ⟨h (f, t) (by simp) v (by simp), hc.2.1, hc.2.2⟩
theorem Good.take : ∀ {l : List Sp} {b : Int}, Good b l → ∀ k, Good b (l.take k)
  | _, _, _, 0 => by simp [Good]
  | [], _, _, k + 1 => trivial
  | (f, t) :: r, b, h, k + 1 => ⟨h.1, h.2.1, h.2.2.take k⟩
theorem Good.drop' {l : List Sp} {b : Int} (h : Good b l) (k : Nat) : Good b (l.drop k) := by
  obtain ⟨c, hc, hg⟩ := h.drop k
  exact hg.lower hc
theorem filled_good {s : Sp} {b : Int} (h : s.1 ≤ s.2) (hb : b < s.1) : Good b (filledL s) := by
  unfold filledL
  split
  · trivial
  · exact ⟨hb, by omega, trivial⟩
theorem filled_mem (s : Sp) (z : Int) : mem (filledL s) z ↔ s.1 ≠ s.2 ∧ s.1 ≤ z ∧ z < s.2 := by
  unfold filledL
  split
  · rename_i h
    exact ⟨fun h => absurd h (mem_nil z), fun ⟨h1, _⟩ => absurd h h1⟩
  · rename_i h
    rw [mem_cons]
    exact ⟨fun h1 => h1.elim (fun h2 => ⟨h, h2⟩) (fun h2 => absurd h2 (mem_nil z)), fun h1 => .inl h1.2⟩
theorem filled_mem' (s : Sp) (h : s.1 ≤ s.2) (z : Int) : mem (filledL s) z ↔ s.1 ≤ z ∧ z < s.2 := by
  rw [filled_mem]
  exact ⟨fun h => h.2, fun h1 => ⟨by omega, h1⟩⟩
theorem mem_iff_of {l : List Sp} {z : Int} : mem l z ↔ ∃ u ∈ l, u.1 ≤ z ∧ z < u.2 := Iff.rfl

theorem Good.mono_low : ∀ {l : List Sp} {b c : Int}, Good b l → (∀ u ∈ l, c < u.1) → Good c l
  | [], _, _, _, _ => trivial
  | (f, t) :: r, b, c, h, h2 => ⟨h2 (f, t) (by simp), h.2.1, h.2.2⟩
/-! What is left of a span. -/
theorem without_set : ∀ (l : List Sp) (y x b : Int), Good b l → (∀ u ∈ l, x < u.2 ∧ u.1 < y) → x ≤ y → ∀ c, c < x → Good c (withoutL y x l) ∧ (∀ z, mem (withoutL y x l) z ↔ (x ≤ z ∧ z < y ∧ ¬ mem l z)) ∧ ∀ u ∈ withoutL y x l, x ≤ u.1
  | [], y, x, b, _, _, hxy, c, hc => by
    refine ⟨filled_good hxy hc, fun z => ?_, fun u hu => ?_⟩
    · show mem (filledL (x, y)) z ↔ _
      rw [filled_mem' _ hxy]
      exact ⟨fun ⟨h1, h2⟩ => ⟨h1, h2, mem_nil z⟩, fun ⟨h1, h2, _⟩ => ⟨h1, h2⟩⟩
    · simp only [withoutL, filledL] at hu
      split at hu
      · simp at hu
      · simp at hu; subst hu; exact Int.le_refl _
  | (f, t) :: r, y, x, b, hg, hm, hxy, c, hc => by
    have h0 := hm (f, t) (by simp)
    dsimp only at h0
    have hft := hg.2.1
    have hr : ∀ u ∈ r, t < u.1 ∧ u.1 < u.2 := good_low hg.2.2
    by_cases hty : t ≤ y
    · have e2 : min y t = t := by omega
      obtain ⟨i1, i2, i3⟩ := without_set r y t t hg.2.2 (fun u hu => ⟨by have := hr u hu; omega, (hm u (by simp [hu])).2⟩) hty (t - 1) (by omega)
      have hF : x ≤ max x f := by omega
      have hw : withoutL y x ((f, t) :: r) = filledL (x, max x f) ++ withoutL y t r := by simp only [withoutL, e2]
      rw [hw]
      refine ⟨(filled_good hF hc).append (i1.mono_low (fun u hu => by have := i3 u hu; omega)) (fun u hu v hv => ?_), fun z => ?_, fun u hu => ?_⟩
      · have hv3 := i3 v hv
        simp only [filledL] at hu
        split at hu
        · simp at hu
        · simp at hu; subst hu; dsimp only; omega
      · rw [mem_append, filled_mem' _ hF, i2, mem_cons]
        dsimp only
        constructor
        · rintro (⟨h1, h2⟩ | ⟨h1, h2, h3⟩)
          · refine ⟨h1, by omega, ?_⟩
            rintro (h4 | ⟨u, hu, h5⟩)
            · omega
            · have := hr u hu; omega
          · refine ⟨by omega, h2, ?_⟩
            rintro (h4 | h4)
            · omega
            · exact h3 h4
        · rintro ⟨h1, h2, h3⟩
          by_cases hz : z < f
          · exact .inl ⟨h1, by omega⟩
          · refine .inr ⟨?_, h2, fun h4 => h3 (.inr h4)⟩
            rcases Int.lt_or_le z t with h5 | h5
            · exact absurd (.inl ⟨by omega, h5⟩) h3
            · exact h5
      · rcases List.mem_append.1 hu with hu | hu
        · simp only [filledL] at hu
          split at hu
          · simp at hu
          · simp at hu; subst hu; exact Int.le_refl _
        · have := i3 u hu; omega
    · have e2 : min y t = y := by omega
      have hrn : r = [] := by
        cases r with
        | nil => rfl
        | cons u q =>
          have h1 := hr u (by simp)
          have h2 := (hm u (by simp)).2
          omega
      subst hrn
      have hF : x ≤ max x f := by omega
      have hw : withoutL y x [(f, t)] = filledL (x, max x f) ++ filledL (y, y) := by simp only [withoutL, e2]
      have hy0 : filledL (y, y) = [] := by simp [filledL]
      rw [hw, hy0, List.append_nil]
      refine ⟨filled_good hF hc, fun z => ?_, fun u hu => ?_⟩
      · rw [filled_mem' _ hF, mem_cons]
        dsimp only
        constructor
        · rintro ⟨h1, h2⟩
          refine ⟨h1, by omega, ?_⟩
          rintro (h4 | h4)
          · omega
          · exact mem_nil z h4
        · rintro ⟨h1, h2, h3⟩
          refine ⟨h1, ?_⟩
          rcases Int.lt_or_le z f with h5 | h5
          · omega
          · exact absurd (.inl ⟨h5, by omega⟩) h3
      · simp only [filledL] at hu
        split at hu
        · simp at hu
        · simp at hu; subst hu; exact Int.le_refl _
end Go.Proofs.Ytifceaffglomaaa.Sn
