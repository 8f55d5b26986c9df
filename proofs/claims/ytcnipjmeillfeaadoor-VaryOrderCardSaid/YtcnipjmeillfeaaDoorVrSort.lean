/-
  What a map's keys, sorted by the library, are: the texts of a list, rising and each once. Mathematics, no condition.
-/
import Derived.Test.YtcnipjmeillfeaaDoorVrMath
import Derived.Sort.KeysCollected
import Derived.Maps.Views
namespace Go.Proofs.YtcnipjmeillfeaaDoor.Vr
open Go.Maps Go.WideShapes Go.Proofs.YtcnipjmeillfeaaDoor.Tk Go.Proofs.YtcnipjmeillfeaaDoor.Fd
set_option linter.unusedVariables false

theorem lt_cons (a b : UInt8) (x y : Bs) : lt (a :: x) (b :: y) = (if a.toNat < b.toNat then true else if b.toNat < a.toNat then false else lt x y) := by rw [lt]
theorem lt_less : ∀ a b : Bs, lt a b = true ↔ a < b
  | _, [] => by unfold lt; simp
  | [], _ :: _ => by unfold lt; simp
  | a :: x, b :: y => by
    rw [List.cons_lt_cons_iff, ← lt_less x y]
    rw [lt_cons]
    by_cases h : a.toNat < b.toNat
    · rw [if_pos h]; simp only [true_iff]; exact .inl (UInt8.lt_iff_toNat_lt.2 h)
    · rw [if_neg h]
      by_cases h2 : b.toNat < a.toNat
      · rw [if_pos h2]
        constructor
        · intro h3; cases h3
        · rintro (h3 | ⟨h3, _⟩)
          · exact absurd (UInt8.lt_iff_toNat_lt.1 h3) h
          · subst h3; omega
      · rw [if_neg h2]
        have e : a = b := UInt8.toNat_inj.1 (by omega)
        subst e
        constructor
        · intro h3; exact .inr ⟨rfl, h3⟩
        · rintro (h3 | ⟨_, h3⟩)
          · exact absurd (UInt8.lt_iff_toNat_lt.1 h3) h
          · exact h3
theorem up_sorted {l : List Bs} (h : l.Nodup) : Up (l.mergeSort leB) := by
  have tr : ∀ a b c : List UInt8, leB a b = true → leB b c = true → leB a c = true := fun a b c h1 h2 => by simp only [leB, decide_eq_true_eq] at *; exact List.le_trans h1 h2
  have to : ∀ a b : List UInt8, (leB a b || leB b a) = true := fun a b => by simp only [leB, Bool.or_eq_true, decide_eq_true_eq]; exact List.le_total a b
  have hn : (l.mergeSort leB).Nodup := (List.mergeSort_perm l leB).nodup_iff.2 h
  unfold Up
  refine ((List.pairwise_mergeSort tr to l).and hn).imp ?_
  rintro a b ⟨h1, h2⟩
  simp only [leB, decide_eq_true_eq] at h1
  rcases lt_or a b with h3 | h3 | h3
  · exact h3
  · exact absurd h3 h2
  · exact absurd h1 (fun h4 => h4 ((lt_less b a).1 h3))

section
variable {H : Type}
def AllText (D : DataW H) : Prop := ∀ es, D = .map es → ∀ p ∈ es, ∃ x, p.1 = Lit.string x
theorem AllText.put {D : DataW H} (hm : IsMap D) (h : AllText D) (x : Bs) (d : DataW H) : AllText (D.put (.string x) d) := by
  obtain ⟨es, rfl⟩ := hm
  intro fs hf p hp
  have e : fs = DataW.insert (.string x, d) (es.filter fun p => !p.1.sameKey (.string x)) := by injection hf with hf; exact hf.symm
  subst e
  rcases List.mem_cons.1 ((insert_perm _ _).mem_iff.1 hp) with rfl | h1
  · exact ⟨x, rfl⟩
  · exact h es rfl p ((List.mem_filter.1 h1).1)
theorem text_fold (u : DataW H) : ∀ (ls : List Bs) (D : DataW H), IsMap D → AllText D → AllText ((ls.map Lit.string).foldl (fun m x => m.put x u) D)
  | [], _, _, h => h
  | x :: r, D, hm, h => text_fold u r (D.put (.string x) u) (hm.put _ u) (h.put hm x u)
theorem text_set (u : DataW H) (ls : List Bs) : AllText (setOf u (ls.map Lit.string)) :=
  text_fold u ls _ isMap_empty (fun es he p hp => by injection he with he; subst he; cases hp)
theorem keyLits (ls : List Bs) : ∀ y ∈ ls.map Lit.string, WideAt.IsKeyLit y := fun y hy => by obtain ⟨_, _, rfl⟩ := List.mem_map.1 hy; trivial
theorem any_is (x : Bs) : ∀ l : List Bs, (l.map Lit.string).any (fun y : Lit => y.sameKey (.string x)) = true ↔ x ∈ l
  | [] => by simp
  | a :: r => by
    rw [List.map_cons, List.any_cons, Bool.or_eq_true, any_is x r, List.mem_cons]
    refine or_congr ?_ Iff.rfl
    show (a == x) = true ↔ _
    rw [beq_iff_eq]; exact ⟨fun h => h.symm, fun h => h.symm⟩
theorem strKeys_set (u : DataW H) (ls : List Bs) : (strKeys (setOf u (ls.map Lit.string))).Nodup ∧ ∀ x, x ∈ strKeys (setOf u (ls.map Lit.string)) ↔ x ∈ ls := by
  obtain ⟨es, he, hp⟩ := tidy_setOf u (ls.map Lit.string) (keyLits ls)
  have ht := text_set u ls es he
  have hh := fun x => has_setOf u (.string x) (ls.map Lit.string) (keyLits ls)
  rw [he] at hh ⊢
  refine ⟨?_, fun x => ?_⟩
  · show (es.map fun p => strOf p.1).Nodup
    refine List.pairwise_map.2 (hp.imp_of_mem fun {p q} hp' hq' hne e => hne ?_)
    obtain ⟨a, ha⟩ := ht p hp'
    obtain ⟨b, hb⟩ := ht q hq'
    rw [ha, hb] at e ⊢
    exact congrArg _ e
  · rw [← any_is x ls, ← hh x, has_eq, List.any_eq_true]
    show x ∈ es.map (fun p => strOf p.1) ↔ _
    rw [List.mem_map]
    constructor
    · rintro ⟨p, h1, rfl⟩
      obtain ⟨a, ha⟩ := ht p h1
      exact ⟨p, h1, by rw [ha]; show (a == strOf (.string a)) = true; rw [beq_iff_eq]; rfl⟩
    · rintro ⟨p, h1, h2⟩
      obtain ⟨a, ha⟩ := ht p h1
      rw [ha] at h2
      exact ⟨p, h1, by rw [ha]; exact beq_iff_eq.1 (show (a == x) = true from h2)⟩
theorem add_length : ∀ (xs L : List Lit), (xs.foldl addKey L).length ≤ L.length + xs.length
  | [], L => by simp
  | x :: r, L => by
    have h := add_length r (addKey L x)
    have h2 : (addKey L x).length ≤ L.length + 1 := by unfold addKey; split <;> simp
    rw [List.foldl_cons, List.length_cons]; omega
theorem size_set (u : DataW H) (ls : List Bs) : Maps.size (setOf u (ls.map Lit.string)) ≤ ls.length := by
  rw [size_setOf u _ (keyLits ls)]
  have := add_length (ls.map Lit.string) []
  simpa using this
theorem sorted_set (u : DataW H) (ls ss : List Bs) (h : ss.Perm (strKeys (setOf u (ls.map Lit.string)))) : ss.mergeSort (fun x y => decide (x ≤ y)) = sortU ls ∧ ss.length = (sortU ls).length := by
  obtain ⟨h1, h2⟩ := strKeys_set u ls
  have e : ss.mergeSort leB = sortU ls := by
    refine sort_is (up_sorted (h.nodup_iff.2 h1)) fun x => ?_
    rw [(List.mergeSort_perm ss leB).mem_iff, h.mem_iff, h2]
  exact ⟨e, by rw [← e]; exact (List.mergeSort_perm ss leB).length_eq.symm⟩
end
end Go.Proofs.YtcnipjmeillfeaaDoor.Vr
