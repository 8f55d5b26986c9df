/-
  Putting numbers in order by exchanging two at a time, step by step, as plain functions. No program, no condition.
-/
import Derived.WalkKit
namespace Go.Proofs.YthhnpdihgoiccaaDoor.Sn
set_option linter.unusedVariables false

def swp (e : List Int) (i k : Nat) : List Int := (e.set i (e.getD k 0)).set k (e.getD i 0)
theorem swp_length (e : List Int) (i k : Nat) : (swp e i k).length = e.length := by unfold swp; simp
theorem swp_get (e : List Int) (i k j : Nat) (hi : i < e.length) (hk : k < e.length) : (swp e i k).getD j 0 = if j = k then e.getD i 0 else if j = i then e.getD k 0 else e.getD j 0 := by
  unfold swp
  rw [List.getD_eq_getElem?_getD, List.getElem?_set]
  by_cases h1 : k = j
  · subst h1
    rw [if_pos rfl, if_pos rfl, if_pos (by simp; omega)]
    rfl
  · rw [if_neg h1, if_neg (fun h => h1 h.symm), List.getElem?_set]
    by_cases h2 : i = j
    · subst h2
      rw [if_pos rfl, if_pos rfl, if_pos hi]; rfl
    · rw [if_neg h2, if_neg (fun h => h2 h.symm), ← List.getD_eq_getElem?_getD]
theorem getD_mem {e : List Int} {j : Nat} (h : j < e.length) : e.getD j 0 ∈ e := by
  rw [List.getD_eq_getElem?_getD, List.getElem?_eq_getElem h]; exact List.getElem_mem h
theorem mem_getD {e : List Int} {x : Int} (h : x ∈ e) : ∃ j, j < e.length ∧ e.getD j 0 = x := by
  obtain ⟨j, hj, rfl⟩ := List.mem_iff_getElem.1 h
  exact ⟨j, hj, by rw [List.getD_eq_getElem?_getD, List.getElem?_eq_getElem hj]; rfl⟩
theorem swp_mem (e : List Int) (i k : Nat) (hi : i < e.length) (hk : k < e.length) (x : Int) : x ∈ swp e i k ↔ x ∈ e := by
  constructor
  · intro h
    obtain ⟨j, hj, rfl⟩ := mem_getD h
    rw [swp_length] at hj
    rw [swp_get e i k j hi hk]
    split
    · exact getD_mem hi
    · split
      · exact getD_mem hk
      · exact getD_mem hj
  · intro h
    obtain ⟨j, hj, rfl⟩ := mem_getD h
    by_cases h1 : j = i
    · subst h1
      have := getD_mem (e := swp e j k) (j := k) (by rw [swp_length]; exact hk)
      rw [swp_get e j k k hi hk, if_pos rfl] at this
      exact this
    · by_cases h2 : j = k
      · subst h2
        have := getD_mem (e := swp e i j) (j := i) (by rw [swp_length]; exact hi)
        rw [swp_get e i j i hi hk, if_neg (fun h => h1 h.symm), if_pos rfl] at this
        exact this
      · have := getD_mem (e := swp e i k) (j := j) (by rw [swp_length]; exact hj)
        rw [swp_get e i k j hi hk, if_neg h2, if_neg h1] at this
        exact this
/-- In order up to i, and the i-th at most those up to k. -/
structure SortAt (e0 e : List Int) (i k : Nat) : Prop where
  len : e.length = e0.length
  mem : ∀ x, x ∈ e ↔ x ∈ e0
  low : ∀ a b, a < i → a < b → b < e.length → e.getD a 0 ≤ e.getD b 0
  cur : ∀ b, i < b → b < k → b < e.length → e.getD i 0 ≤ e.getD b 0
theorem SortAt.start (e : List Int) : SortAt e e 0 1 := ⟨rfl, fun _ => Iff.rfl, fun a b h => by omega, fun b h h2 => by omega⟩
theorem SortAt.keep {e0 e : List Int} {i k : Nat} (h : SortAt e0 e i k) (hle : e.getD i 0 ≤ e.getD k 0) : SortAt e0 e i (k + 1) := by
  refine ⟨h.len, h.mem, h.low, fun b h1 h2 h3 => ?_⟩
  by_cases e2 : b = k
  · subst e2; exact hle
  · exact h.cur b h1 (by omega) h3
theorem SortAt.swap {e0 e : List Int} {i k : Nat} (h : SortAt e0 e i k) (hik : i < k) (hk : k < e.length) (hlt : e.getD k 0 < e.getD i 0) : SortAt e0 (swp e i k) i (k + 1) := by
  have hi : i < e.length := by omega
  have hl := swp_length e i k
  refine ⟨by rw [hl, h.len], fun x => by rw [swp_mem e i k hi hk, h.mem], fun a b h1 h2 h3 => ?_, fun b h1 h2 h3 => ?_⟩
  · rw [hl] at h3
    rw [swp_get e i k a hi hk, swp_get e i k b hi hk, if_neg (by omega), if_neg (by omega)]
    split
    · exact h.low a i h1 (by omega) hi
    · split
      · exact h.low a k h1 (by omega) hk
      · exact h.low a b h1 h2 h3
  · rw [hl] at h3
    rw [swp_get e i k i hi hk, swp_get e i k b hi hk, if_neg (by omega), if_pos rfl]
    split
    · omega
    · rw [if_neg (by omega)]
      have := h.cur b h1 (by omega) h3
      omega
theorem SortAt.next {e0 e : List Int} {i k : Nat} (h : SortAt e0 e i k) (hk : e.length ≤ k) : SortAt e0 e (i + 1) (i + 2) := by
  refine ⟨h.len, h.mem, fun a b h1 h2 h3 => ?_, fun b h1 h2 => by omega⟩
  by_cases e2 : a = i
  · subst e2; exact h.cur b h2 (by omega) h3
  · exact h.low a b (by omega) h2 h3
theorem SortAt.done {e0 e : List Int} {i k : Nat} (h : SortAt e0 e i k) (hi : e.length ≤ i + 1) : ∀ a b (ha : a < e.length) (hb : b < e.length), a ≤ b → e[a] ≤ e[b] := by
  intro a b ha hb hab
  by_cases e2 : a = b
  · subst e2; exact Int.le_refl _
  · have := h.low a b (by omega) (by omega) hb
    simpa [ha, hb] using this
end Go.Proofs.YthhnpdihgoiccaaDoor.Sn
