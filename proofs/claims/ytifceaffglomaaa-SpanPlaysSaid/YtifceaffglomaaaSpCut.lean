/-
  A set taken apart at a span: plain facts. No program, no condition.
-/
import Derived.Test.YtifceaffglomaaaSpVal
namespace Go.Proofs.Ytifceaffglomaaa.Sn
set_option linter.unusedVariables false
set_option linter.unusedSimpArgs false

theorem front {α : Type} (p : α → Bool) : ∀ l : List α, l.Pairwise (fun a b => p b = true → p a = true) → l.take (l.countP p) = l.filter p ∧ l.drop (l.countP p) = l.filter (fun a => !p a)
  | [], _ => by simp
  | a :: r, h => by
    obtain ⟨h1, h2⟩ := List.pairwise_cons.1 h
    cases ha : p a with
    | true =>
      obtain ⟨i1, i2⟩ := front p r h2
      rw [List.countP_cons_of_pos ha]
      simp only [List.take_succ_cons, List.drop_succ_cons, List.filter_cons, ha]
      exact ⟨by simp [i1], by simp [i2]⟩
    | false =>
      have hn : ∀ b ∈ r, p b = false := fun b hb => by
        cases hp : p b with
        | false => rfl
        | true => rw [h1 b hb hp] at ha; cases ha
      have hc : (a :: r).countP p = 0 := by
        rw [List.countP_eq_zero]
        intro b hb
        rcases List.mem_cons.1 hb with rfl | hb
        · simp [ha]
        · simp [hn b hb]
      rw [hc]
      refine ⟨?_, ?_⟩
      · simp only [List.take_zero]
        symm
        rw [List.filter_eq_nil_iff]
        intro b hb
        rcases List.mem_cons.1 hb with rfl | hb
        · simp [ha]
        · simp [hn b hb]
      · simp only [List.drop_zero]
        symm
        rw [List.filter_eq_self]
        intro b hb
        rcases List.mem_cons.1 hb with rfl | hb
        · simp [ha]
        · simp [hn b hb]
theorem Good.pairs : ∀ {l : List Sp} {b : Int}, Good b l → l.Pairwise (fun u v => u.1 < u.2 ∧ u.2 < v.1 ∧ v.1 < v.2)
  | [], _, _ => List.Pairwise.nil
  | (f, t) :: r, b, h => List.pairwise_cons.2 ⟨fun v hv => ⟨h.2.1, good_low h.2.2 v hv⟩, h.2.2.pairs⟩
/-- How many end at a place or ahead of it; how many begin ahead of one. -/
def nA (x : Int) (l : List Sp) : Nat := l.countP fun u => !decide (x < u.2)
def nB (y : Int) (l : List Sp) : Nat := l.countP fun u => !decide (y ≤ u.1)
theorem nA_le (x : Int) (l : List Sp) : nA x l ≤ l.length := List.countP_le_length
theorem nB_le (y : Int) (l : List Sp) : nB y l ≤ l.length := List.countP_le_length
theorem front_A {l : List Sp} {b : Int} (h : Good b l) (x : Int) : l.take (nA x l) = l.filter (fun u => decide (u.2 ≤ x)) ∧ l.drop (nA x l) = l.filter (fun u => decide (x < u.2)) := by
  have := front (fun u : Sp => !decide (x < u.2)) l (h.pairs.imp fun {u v} ⟨h1, h2, h3⟩ hv => by simp at hv ⊢; omega)
  simp only [Bool.not_not] at this
  refine ⟨this.1.trans ?_, this.2⟩
  congr 1
  funext u
  by_cases hh : x < u.2
  · simp [hh]
  · simp [hh, Int.not_lt.1 hh]
theorem front_B {l : List Sp} {b : Int} (h : Good b l) (y : Int) : l.take (nB y l) = l.filter (fun u => decide (u.1 < y)) ∧ l.drop (nB y l) = l.filter (fun u => decide (y ≤ u.1)) := by
  have := front (fun u : Sp => !decide (y ≤ u.1)) l (h.pairs.imp fun {u v} ⟨h1, h2, h3⟩ hv => by simp at hv ⊢; omega)
  simp only [Bool.not_not] at this
  refine ⟨this.1.trans ?_, this.2⟩
  congr 1
  funext u
  by_cases hh : y ≤ u.1
  · simp [hh]
  · simp [hh, Int.not_le.1 hh]
theorem nA_nB {l : List Sp} {b : Int} (h : Good b l) {x y : Int} (hxy : x < y) : nA x l ≤ nB y l := by
  unfold nA nB
  refine List.countP_mono_left fun u hu hh => ?_
  have := (good_low h u hu).2
  simp at hh ⊢
  omega
/-- Where the first that has a place of the span lies, and where the next behind them. -/
def firstOf (l : List Sp) (s : Sp) : Nat := if s.1 = s.2 then nB s.2 l else nA s.1 l
def endOf (l : List Sp) (s : Sp) : Nat := nB s.2 l
theorem first_end {l : List Sp} {b : Int} (h : Good b l) {s : Sp} (hs : s.1 ≤ s.2) : firstOf l s ≤ endOf l s := by
  unfold firstOf endOf
  split
  · exact Nat.le_refl _
  · exact nA_nB h (by omega)
theorem end_le (l : List Sp) (s : Sp) : endOf l s ≤ l.length := nB_le _ _
def aheadL (l : List Sp) (s : Sp) : List Sp := l.take (firstOf l s)
def metL (l : List Sp) (s : Sp) : List Sp := (l.drop (firstOf l s)).take (endOf l s - firstOf l s)
def behindL (l : List Sp) (s : Sp) : List Sp := l.drop (endOf l s)
theorem parts_join {l : List Sp} {b : Int} (h : Good b l) {s : Sp} (hs : s.1 ≤ s.2) : aheadL l s ++ (metL l s ++ behindL l s) = l := by
  unfold aheadL metL behindL
  have hle := first_end h hs
  have e : l.drop (endOf l s) = (l.drop (firstOf l s)).drop (endOf l s - firstOf l s) := by rw [List.drop_drop]; congr 1; omega
  rw [e, List.take_append_drop, List.take_append_drop]
theorem ahead_mem {l : List Sp} {b : Int} (h : Good b l) {s : Sp} (hs : s.1 ≤ s.2) : ∀ u ∈ aheadL l s, u.2 ≤ s.1 ∨ (s.1 = s.2 ∧ u.1 < s.1) := by
  intro u hu
  unfold aheadL firstOf at hu
  split at hu
  · rename_i he
    rw [(front_B h s.2).1, List.mem_filter] at hu
    have := of_decide_eq_true hu.2
    exact .inr ⟨he, by omega⟩
  · rw [(front_A h s.1).1, List.mem_filter] at hu
    exact .inl (of_decide_eq_true hu.2)
theorem behind_mem {l : List Sp} {b : Int} (h : Good b l) {s : Sp} : ∀ u ∈ behindL l s, s.2 ≤ u.1 := by
  intro u hu
  unfold behindL endOf at hu
  rw [(front_B h s.2).2, List.mem_filter] at hu
  exact of_decide_eq_true hu.2
theorem met_mem {l : List Sp} {b : Int} (h : Good b l) {s : Sp} (hs : s.1 ≤ s.2) : ∀ u ∈ metL l s, s.1 < u.2 ∧ u.1 < s.2 := by
  intro u hu
  have hle := first_end h hs
  unfold metL at hu
  by_cases he : s.1 = s.2
  · simp [firstOf, endOf, he] at hu
  · have h1 : u ∈ l.drop (nA s.1 l) := by
      have := List.mem_of_mem_take hu
      simpa [firstOf, he] using this
    rw [(front_A h s.1).2, List.mem_filter] at h1
    have h2 : u ∈ l.take (endOf l s) := by
      rw [← List.drop_take] at hu
      exact List.mem_of_mem_drop hu
    unfold endOf at h2
    rw [(front_B h s.2).1, List.mem_filter] at h2
    exact ⟨of_decide_eq_true h1.2, of_decide_eq_true h2.2⟩
theorem count_at (f : Sp → Bool) (l : List Sp) : (List.range l.length).countP (fun i => f (l.getD i (0, 0))) = l.countP f := by
  have h : l = (List.range l.length).map (fun i => l.getD i (0, 0)) := by
    apply List.ext_getElem
    · simp
    · intro i h1 h2
      simp [h1]
  conv => rhs; rw [h, List.countP_map]
  rfl
theorem at_get (l : List Sp) (i : Nat) (h : i < l.length) : l.getD i (0, 0) = l[i] := by simp [h]
theorem mono_A {l : List Sp} {b : Int} (h : Good b l) (x : Int) : ∀ i j, i ≤ j → j < l.length → decide (x < (l.getD i (0, 0)).2) = true → decide (x < (l.getD j (0, 0)).2) = true := by
  intro i j hij hj hh
  rw [at_get l j hj]
  rw [at_get l i (by omega)] at hh
  rcases Nat.lt_or_eq_of_le hij with hlt | rfl
  · have := (List.pairwise_iff_getElem.1 h.pairs) i j (by omega) hj hlt
    have hh := of_decide_eq_true hh
    exact decide_eq_true (by omega)
  · exact hh
theorem mono_B {l : List Sp} {b : Int} (h : Good b l) (y : Int) : ∀ i j, i ≤ j → j < l.length → decide (y ≤ (l.getD i (0, 0)).1) = true → decide (y ≤ (l.getD j (0, 0)).1) = true := by
  intro i j hij hj hh
  rw [at_get l j hj]
  rw [at_get l i (by omega)] at hh
  rcases Nat.lt_or_eq_of_le hij with hlt | rfl
  · have := (List.pairwise_iff_getElem.1 h.pairs) i j (by omega) hj hlt
    have hh := of_decide_eq_true hh
    exact decide_eq_true (by omega)
  · exact hh
end Go.Proofs.Ytifceaffglomaaa.Sn
