/-
  Names taken out, the least one first, each put behind those taken if it is not the last of them: plain mathematics. No condition.
-/
import Derived.Test.YtcnipjmeillfeaaDoorVrMath
namespace Go.Proofs.YtcnipjmeillfeaaDoor.Vr
open Go.Proofs.YtcnipjmeillfeaaDoor.Tk Go.Proofs.YtcnipjmeillfeaaDoor.Fd Go.Proofs.YtcnipjmeillfeaaDoor.Ct
set_option linter.unusedVariables false

structure RI (ns o r : List Bs) : Prop where
  up : Up o
  le : ∀ x ∈ o, ∀ y ∈ r, lt y x = false
  mem : ∀ x, x ∈ ns ↔ x ∈ o ∨ x ∈ r
  star : ∀ x ∈ o, x ≠ [42]
  len : o.length + r.length ≤ ns.length
theorem RI.start (ns : List Bs) : RI ns [] ns := ⟨by unfold Up; simp, fun x hx => by simp at hx, fun x => by simp, fun x hx => by simp at hx, by simp⟩
theorem RI.finish {ns o : List Bs} (h : RI ns o []) : sortU ns = o ∧ ns.contains [42] = false := by
  refine ⟨(sort_is h.up fun x => ?_).symm, ?_⟩
  · rw [h.mem]; simp
  · rw [List.contains_eq_mem, decide_eq_false_iff_not, h.mem]
    rintro (h1 | h1)
    · exact h.star _ h1 rfl
    · simp at h1
theorem RI.hit {ns o r : List Bs} (h : RI ns o r) (k : Nat) (hk : k < r.length) (h1 : r[k] = [42]) : ns.contains [42] = true := by
  rw [List.contains_eq_mem, decide_eq_true_iff, h.mem]
  exact .inr (h1 ▸ List.getElem_mem hk)
/-- What the names are with one put behind. -/
def addL (o : List Bs) (m : Bs) : List Bs := if o.getLast? = some m then o else o ++ [m]
def cutK (r : List Bs) (k : Nat) : List Bs := r.take k ++ r.drop (k + 1)
theorem mem_cut (r : List Bs) (k : Nat) (hk : k < r.length) (x : Bs) : x ∈ r ↔ x = r[k] ∨ x ∈ cutK r k := by
  have e : r = r.take k ++ r[k] :: r.drop (k + 1) := by rw [← List.drop_eq_getElem_cons hk, List.take_append_drop]
  unfold cutK
  conv => lhs; rw [e]
  rw [List.mem_append, List.mem_cons, List.mem_append]
  constructor
  · rintro (h | h | h)
    · exact .inr (.inl h)
    · exact .inl h
    · exact .inr (.inr h)
  · rintro (h | h | h)
    · exact .inr (.inl h)
    · exact .inl h
    · exact .inr (.inr h)
theorem cut_length (r : List Bs) (k : Nat) (hk : k < r.length) : (cutK r k).length + 1 = r.length := by
  unfold cutK; rw [List.length_append, List.length_take, List.length_drop]; omega
theorem up_last {o : List Bs} (h : Up o) {m : Bs} (hle : ∀ x ∈ o, lt m x = false) (hl : o.getLast? ≠ some m) : ∀ x ∈ o, lt x m = true := by
  intro x hx
  rcases lt_or x m with h1 | h1 | h1
  · exact h1
  · subst h1
    exfalso
    obtain ⟨a, b, rfl⟩ := List.append_of_mem hx
    match b, hl, h, hle with
    | [], hl, _, _ => simp at hl
    | y :: b, _, h, hle =>
      unfold Up at h
      rw [List.pairwise_append, List.pairwise_cons] at h
      have h2 := h.2.1.1 y (by simp)
      have h3 := hle y (by simp)
      rw [h2] at h3; cases h3
  · rw [hle x hx] at h1; cases h1
theorem RI.next {ns o r : List Bs} (h : RI ns o r) (k : Nat) (hk : k < r.length) (hmin : ∀ y ∈ r, lt y r[k] = false) (h1 : r[k] ≠ [42]) : RI ns (addL o r[k]) (cutK r k) := by
  have hm := mem_cut r k hk
  have hl := cut_length r k hk
  have hin : r[k] ∈ r := List.getElem_mem hk
  have hlen := h.len
  unfold addL
  split
  · rename_i h2
    have ho : r[k] ∈ o := List.mem_of_getLast? h2
    refine ⟨h.up, fun x hx y hy => h.le x hx y ((hm y).2 (.inr hy)), fun x => ?_, h.star, by omega⟩
    rw [h.mem, hm]
    constructor
    · rintro (h3 | h3 | h3)
      · exact .inl h3
      · exact .inl (h3 ▸ ho)
      · exact .inr h3
    · rintro (h3 | h3)
      · exact .inl h3
      · exact .inr (.inr h3)
  · rename_i h2
    have hlt := up_last h.up (fun x hx => h.le x hx _ hin) h2
    refine ⟨?_, fun x hx y hy => ?_, fun x => ?_, fun x hx => ?_, by simp; omega⟩
    · unfold Up
      rw [List.pairwise_append]
      exact ⟨h.up, by simp, fun a ha b hb => by rw [List.mem_singleton.1 hb]; exact hlt a ha⟩
    · rcases List.mem_append.1 hx with hx | hx
      · exact h.le x hx y ((hm y).2 (.inr hy))
      · rw [List.mem_singleton.1 hx]; exact hmin y ((hm y).2 (.inr hy))
    · rw [h.mem, hm, List.mem_append, List.mem_singleton]
      constructor
      · rintro (h3 | h3 | h3)
        · exact .inl (.inl h3)
        · exact .inl (.inr h3)
        · exact .inr h3
      · rintro ((h3 | h3) | h3)
        · exact .inl h3
        · exact .inr (.inl h3)
        · exact .inr (.inr h3)
    · rcases List.mem_append.1 hx with hx | hx
      · exact h.star x hx
      · rw [List.mem_singleton.1 hx]; exact h1
/-- The least one so far. -/
def Least (r : List Bs) (k i : Nat) : Prop := k < r.length ∧ k < i ∧ ∀ j (hj : j < r.length) (hk : k < r.length), j < i → lt r[j] r[k] = false
theorem Least.start {r : List Bs} (h : 0 < r.length) : Least r 0 1 := ⟨h, by omega, fun j hj hk h1 => by
  have : j = 0 := by omega
  subst this; exact lt_irr _⟩
theorem Least.keep {r : List Bs} {k i : Nat} (h : Least r k i) (hi : i < r.length) (h1 : lt r[i] (r[k]'h.1) = false) : Least r k (i + 1) := by
  refine ⟨h.1, by have := h.2.1; omega, fun j hj hk h2 => ?_⟩
  by_cases e : j = i
  · subst e; exact h1
  · exact h.2.2 j hj hk (by omega)
theorem Least.turn {r : List Bs} {k i : Nat} (h : Least r k i) (hi : i < r.length) (h1 : lt r[i] (r[k]'h.1) = true) : Least r i (i + 1) := by
  refine ⟨hi, by omega, fun j hj hk h2 => ?_⟩
  by_cases e : j = i
  · subst e; exact lt_irr _
  · have h3 := h.2.2 j hj h.1 (by omega)
    cases h4 : lt r[j] r[i] with
    | false => rfl
    | true => rw [lt_trans h4 h1] at h3; cases h3
theorem Least.all {r : List Bs} {k i : Nat} (h : Least r k i) (hi : r.length ≤ i) : ∀ y ∈ r, lt y (r[k]'h.1) = false := by
  intro y hy
  obtain ⟨j, hj, rfl⟩ := List.getElem_of_mem hy
  exact h.2.2 j hj h.1 (by omega)
theorem last_at {o : List Bs} (h : o ≠ []) : o.getLast? = some (o[o.length - 1]'(by have := List.length_pos_iff.2 h; omega)) := by
  rw [List.getLast?_eq_some_getLast h, List.getLast_eq_getElem]
theorem add_nil (m : Bs) : addL [] m = [m] := by simp [addL]
theorem add_same {o : List Bs} {m : Bs} (h : o ≠ []) (h1 : o[o.length - 1]'(by have := List.length_pos_iff.2 h; omega) = m) : addL o m = o := by
  unfold addL; rw [last_at h, h1]; simp
theorem add_other {o : List Bs} {m : Bs} (h : o ≠ []) (h1 : o[o.length - 1]'(by have := List.length_pos_iff.2 h; omega) ≠ m) : addL o m = o ++ [m] := by
  unfold addL; rw [last_at h, if_neg (fun e => h1 (by injection e))]
end Go.Proofs.YtcnipjmeillfeaaDoor.Vr
