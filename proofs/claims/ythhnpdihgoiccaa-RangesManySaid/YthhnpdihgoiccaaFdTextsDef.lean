/-
  Slices of texts as the model has them. No condition.
-/
import Derived.Test.YthhnpdihgoiccaaFdKit
import Derived.Test.YthhnpdihgoiccaaTokMath
namespace Go.Proofs.Ythhnpdihgoiccaa.Fd
open Go.RowKit Tk

/-- A text as the model has it. -/
def TS (x : Bs) : Value := .string ⟨x.toArray⟩
/-- A slice value that reads as these texts. -/
def Texts (w : World) (v : Value) (ls : List Bs) : Prop :=
  (ls = [] ∧ ∃ a cap, v = .slice a 0 cap) ∨ ∃ g off cap, v = .slice (some ⟨g, off, none⟩) ls.length cap ∧ ∀ j (hj : j < ls.length), w.cell? ⟨g, off + j, none⟩ = some (TS ls[j])
theorem Texts.of_owns {w : World} {base : Nat} {v : Value} {ls : List Bs} {n : Nat} {t : TypeId} (h : w.ownsRow base t 1 v n (ls.map TS)) (hn : n = ls.length) : Texts w v ls := by
  subst hn
  rcases h.2 with ⟨hv, h0⟩ | ⟨g, cap, cur, hv, _⟩
  · exact .inl ⟨List.length_eq_zero_iff.1 h0, none, 0, by rw [hv]⟩
  · refine .inr ⟨g, 0, cap, hv, fun j hj => ?_⟩
    rw [hv] at h
    rw [Nat.zero_add, h.cellAt j (by omega), List.getElem?_map, List.getElem?_eq_getElem hj]; rfl
theorem Texts.shape {w : World} {v : Value} {ls : List Bs} (h : Texts w v ls) : ∃ a cap, v = .slice a ls.length cap := by
  rcases h with ⟨rfl, a, cap, hv⟩ | ⟨g, off, cap, hv, _⟩
  · exact ⟨a, cap, hv⟩
  · exact ⟨_, cap, hv⟩

end Go.Proofs.Ythhnpdihgoiccaa.Fd
