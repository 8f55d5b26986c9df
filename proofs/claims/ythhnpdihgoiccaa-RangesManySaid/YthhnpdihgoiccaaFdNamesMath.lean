/-
  The names that a text lists, and what Strip takes away: plain functions. No program, no condition.
-/
import Derived.Test.YthhnpdihgoiccaaFdSetMath
namespace Go.Proofs.Ythhnpdihgoiccaa.Fd
open Tk

theorem put_piece {own : Bs} {rest : List Bs} {n : Nat} (h1 : own.length ≤ n) (h2 : ∀ x ∈ rest, x.length ≤ n) : ∀ x ∈ put own rest, x.length ≤ n := by
  unfold put
  split
  · exact h2
  · intro x hx
    rw [List.mem_cons] at hx
    rcases hx with rfl | hx
    · exact Nat.le_trans (trim_length own) h1
    · exact h2 x hx
/-- No element is longer than the text. -/
theorem sp_piece : ∀ (n : Nat) (r : Bs), r.length ≤ n → ∀ q own ls, sp q own r = some ls → ∀ x ∈ ls, x.length ≤ own.length + r.length
  | 0, r, h, q, own, ls, hs => by
    have : r = [] := List.length_eq_zero_iff.1 (by omega)
    subst this
    cases q with
    | true => rw [sp_nil_q] at hs; cases hs
    | false => rw [sp_nil] at hs; injection hs with hs; subst hs; exact put_piece (by simp) (by simp)
  | n + 1, r, h, q, own, ls, hs => by
    match r with
    | [] =>
      cases q with
      | true => rw [sp_nil_q] at hs; cases hs
      | false => rw [sp_nil] at hs; injection hs with hs; subst hs; exact put_piece (by simp) (by simp)
    | c :: r =>
      have hr : r.length ≤ n := by simp at h; omega
      cases q with
      | false =>
        by_cases h44 : c = 44
        · subst h44
          rw [sp_comma, Option.map_eq_some_iff] at hs
          obtain ⟨x, hx, rfl⟩ := hs
          have h1 := sp_piece n r hr _ _ _ hx
          refine put_piece (by simp) (fun y hy => ?_)
          have := h1 y hy
          simp at this ⊢; omega
        · by_cases h34 : c = 34
          · subst h34; rw [sp_open] at hs
            intro y hy; have := sp_piece n r hr _ _ _ hs y hy; simp at this ⊢; omega
          · rw [sp_other _ _ h44 h34] at hs
            intro y hy; have := sp_piece n r hr _ _ _ hs y hy; simp at this ⊢; omega
      | true =>
        by_cases h34 : c = 34
        · subst h34; rw [sp_q_close] at hs
          intro y hy; have := sp_piece n r hr _ _ _ hs y hy; simp at this ⊢; omega
        · by_cases h92 : c = 92
          · subst h92
            match r with
            | [] => rw [sp_q_last] at hs; cases hs
            | d :: r' =>
              rw [sp_q_back] at hs
              intro y hy; have := sp_piece n r' (by simp at h; omega) _ _ _ hs y hy; simp at this ⊢; omega
          · rw [sp_q_other _ _ h34 h92] at hs
            intro y hy; have := sp_piece n r hr _ _ _ hs y hy; simp at this ⊢; omega
theorem split_piece {l : Bs} {ls : List Bs} (h : splitOf l = some ls) : ∀ x ∈ ls, x.length ≤ l.length := by
  intro x hx; have := sp_piece _ l (Nat.le_refl _) _ _ _ h x hx; simpa using this

/-- The names that a text lists: its elements in small letters; none, if one is no token. -/
def namesOf (t : Bs) : Option (List Bs) := match splitOf t with
  | none => none
  | some ls => if ls.all isTok then some (ls.map lower) else none
theorem names_none {t : Bs} (h : splitOf t = none) : namesOf t = none := by unfold namesOf; rw [h]
theorem names_bad {t : Bs} {ls : List Bs} (h : splitOf t = some ls) (j : Nat) (hj : j < ls.length) (hb : isTok ls[j] = false) : namesOf t = none := by
  unfold namesOf; rw [h]
  have : ls.all isTok = false := by rw [List.all_eq_false]; exact ⟨ls[j], List.getElem_mem hj, by simp [hb]⟩
  simp [this]
theorem names_good {t : Bs} {ls : List Bs} (h : splitOf t = some ls) (hb : ls.all isTok = true) : namesOf t = some (ls.map lower) := by
  unfold namesOf; rw [h]; simp [hb]
theorem names_length {t : Bs} {ls : List Bs} (h : namesOf t = some ls) : ls.length ≤ t.length + 1 := by
  unfold namesOf at h
  split at h
  · cases h
  · rename_i ms hs
    split at h
    · injection h with h; subst h; rw [List.length_map]; exact split_length hs
    · cases h
theorem names_piece {t : Bs} {ls : List Bs} (h : namesOf t = some ls) : ∀ x ∈ ls, x.length ≤ t.length := by
  unfold namesOf at h
  split at h
  · cases h
  · rename_i ms hs
    split at h
    · injection h with h; subst h
      intro x hx
      obtain ⟨y, hy, rfl⟩ := List.mem_map.1 hx
      rw [lower_length]; exact split_piece hs y hy
    · cases h
theorem all_next (ls : List Bs) (k : Nat) (h : k < ls.length) (h1 : (ls.take k).all isTok = true) (h2 : isTok ls[k] = true) : (ls.take (k + 1)).all isTok = true := by
  rw [take_next ls k h, List.all_append, h1]; simp [h2]
/-- A list whose first k elements stand in small letters. -/
def half (ls : List Bs) (k : Nat) : List Bs := (ls.take k).map lower ++ ls.drop k
theorem half_zero (ls : List Bs) : half ls 0 = ls := by simp [half]
theorem half_all (ls : List Bs) : half ls ls.length = ls.map lower := by simp [half]
theorem half_length (ls : List Bs) (k : Nat) (h : k ≤ ls.length) : (half ls k).length = ls.length := by simp [half]; omega
theorem half_len (ls : List Bs) (k : Nat) (h : k < ls.length) : ((ls.take k).map lower).length = k := by rw [List.length_map, List.length_take]; omega
theorem half_at (ls : List Bs) (k : Nat) (h : k < ls.length) : (half ls k)[k]? = some ls[k] := by
  have e := half_len ls k h
  unfold half
  rw [List.getElem?_append_right (by omega), e, Nat.sub_self, List.getElem?_drop, Nat.add_zero, List.getElem?_eq_getElem h]
theorem half_set (ls : List Bs) (k : Nat) (h : k < ls.length) : (half ls k).set k (lower ls[k]) = half ls (k + 1) := by
  have e := half_len ls k h
  unfold half
  rw [List.set_append_right _ _ (by omega), e, Nat.sub_self, List.drop_eq_getElem_cons h, List.set_cons_zero, take_next ls k h, List.map_append, List.map_cons, List.map_nil, List.append_assoc]
  rfl
end Go.Proofs.Ythhnpdihgoiccaa.Fd
