/-
  Two tokens with a comma between are two names; some fixed texts' names: plain functions. No program, no condition.
-/
import Derived.Test.YtoofdompafkddaaDoorFdNamesMath
namespace Go.Proofs.YtoofdompafkddaaDoor.Fd
open Tk

theorem tch {c : UInt8} (h : tchar c = true) : c ≠ 44 ∧ c ≠ 34 ∧ Tk.blank c = false := by
  refine ⟨?_, ?_, ?_⟩
  · intro e; subst e; revert h; decide
  · intro e; subst e; revert h; decide
  · cases hb : Tk.blank c with
    | false => rfl
    | true =>
      unfold Tk.blank at hb
      rw [Bool.or_eq_true, beq_iff_eq, beq_iff_eq] at hb
      rcases hb with rfl | rfl <;> (revert h; decide)
theorem tok_all {l : Bs} (h : isTok l = true) : ∀ c ∈ l, tchar c = true := by
  unfold isTok at h; rw [Bool.and_eq_true] at h; exact List.all_eq_true.1 h.2
theorem tok_ne {l : Bs} (h : isTok l = true) : l ≠ [] := by rintro rfl; cases h
theorem sp_tok : ∀ (a : Bs), (∀ c ∈ a, tchar c = true) → ∀ own r, sp false own (a ++ r) = sp false (own ++ a) r
  | [], _, own, r => by simp
  | c :: a, h, own, r => by
    obtain ⟨h1, h2, _⟩ := tch (h c (by simp))
    rw [List.cons_append, sp_other _ _ h1 h2, sp_tok a (fun d hd => h d (by simp [hd]))]
    simp
theorem trim_tok {l : Bs} (h : isTok l = true) : trim l = l := by
  have ha := tok_all h
  rcases snoc_cases l with rfl | ⟨i, d, rfl⟩
  · cases h
  · have hd := (tch (ha d (by simp))).2.2
    unfold trim
    cases hi : i ++ [d] with
    | nil => simp at hi
    | cons c t =>
      have hc := (tch (ha c (by rw [hi]; simp))).2.2
      rw [ltrim_cons_other t hc, ← hi, rtrim_snoc_other i hd]
theorem split_two {a b : Bs} (ha : isTok a = true) (hb : isTok b = true) : splitOf (a ++ [44, 32] ++ b) = some [a, b] := by
  have e1 : splitOf (a ++ [44, 32] ++ b) = sp false [] (a ++ 44 :: 32 :: b) := by unfold splitOf; simp
  have e2 : sp false [32] b = some [b] := by
    have h := sp_tok b (tok_all hb) [32] []
    rw [List.append_nil] at h
    rw [h, sp_nil]
    have ht : trim ([32] ++ b) = b := by rw [List.singleton_append, trim_cons_blank b (by decide), trim_tok hb]
    unfold put; rw [ht, if_neg (tok_ne hb)]
  rw [e1, sp_tok a (tok_all ha), List.nil_append, sp_comma, sp_other [] b (by decide) (by decide), List.nil_append, e2]
  show some (put a [b]) = _
  unfold put; rw [trim_tok ha, if_neg (tok_ne ha)]
theorem names_two {a b : Bs} (ha : isTok a = true) (hb : isTok b = true) : namesOf (a ++ [44, 32] ++ b) = some [lower a, lower b] :=
  names_good (split_two ha hb) (by simp [ha, hb])
/-- The three fields of the law on names. -/
def three (a b : ByteArray) : List Fl := [(⟨#[118]⟩, a), (⟨#[120]⟩, ⟨#[110, 111]⟩), (⟨#[86]⟩, b)]
theorem get_three (a b : ByteArray) : getT (three a b) [86] = a.data.toList ++ [44, 32] ++ b.data.toList := rfl
theorem tot_three (a b : ByteArray) : tot (three a b) = a.size + b.size + 8 := by
  have e1 : (⟨#[118]⟩ : ByteArray).size = 1 := rfl
  have e2 : (⟨#[120]⟩ : ByteArray).size = 1 := rfl
  have e3 : (⟨#[110, 111]⟩ : ByteArray).size = 2 := rfl
  have e4 : (⟨#[86]⟩ : ByteArray).size = 1 := rfl
  simp only [three, tot, List.map_cons, List.map_nil, List.sum_cons, List.sum_nil, e1, e2, e3, e4]; omega
def one : List Fl := [(⟨#[118]⟩, ⟨#[65, 44, 32, 98]⟩)]
theorem get_one : getT one [118] = [65] ++ [44, 32] ++ [98] := rfl
theorem names_one : namesOf ([65] ++ [44, 32] ++ [98]) = some [[97], [98]] := names_two (a := [65]) (b := [98]) (by decide) (by decide)
theorem tot_one : tot one = 6 := rfl
end Go.Proofs.YtoofdompafkddaaDoor.Fd
