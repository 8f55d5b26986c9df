/-
  Slices of fields as the model has them. No condition.
-/
import Derived.Test.YtcnipjmeillfeaaDoorFdKit
import Derived.Test.YtcnipjmeillfeaaDoorFdMath
import Derived.Deep.QuietTactic
import Derived.BigQuiet
namespace Go.Proofs.YtcnipjmeillfeaaDoor.Fd
open Go.RowKit Tk
set_option linter.unusedVariables false

/-- The fields' cells lie from off on. -/
def FAt (w : World) (b off : Nat) (fs : List Fl) : Prop := ∀ j (hj : j < fs.length), w.cell? ⟨b, off + j * 2, none⟩ = some (.string fs[j].1) ∧ w.cell? ⟨b, off + j * 2 + 1, none⟩ = some (.string fs[j].2)
/-- A slice value that reads as these fields. -/
def Flds (w : World) (v : Value) (fs : List Fl) : Prop :=
  (fs = [] ∧ ∃ a cap, v = .slice a 0 cap) ∨ ∃ b off cap, v = .slice (some ⟨b, off, none⟩) fs.length cap ∧ b < w.heap.size ∧ FAt w b off fs
theorem Flds.below {B : Nat} {w w' : World} {v : Value} {fs : List Fl} (h : Flds w v fs) (hb : Below B w w') (hB : w.heap.size ≤ B) : Flds w' v fs := by
  rcases h with h | ⟨b, off, cap, hv, hlt, hc⟩
  · exact .inl h
  · refine .inr ⟨b, off, cap, hv, Nat.lt_of_lt_of_le hlt hb.size, fun j hj => ?_⟩
    rw [hb.cell (p := ⟨b, off + j * 2, none⟩) (by show b < B; omega), hb.cell (p := ⟨b, off + j * 2 + 1, none⟩) (by show b < B; omega)]
    exact hc j hj
theorem Flds.shape {w : World} {v : Value} {fs : List Fl} (h : Flds w v fs) : ∃ a cap, v = .slice a fs.length cap := by
  rcases h with ⟨rfl, a, cap, hv⟩ | ⟨b, off, cap, hv, _⟩
  · exact ⟨a, cap, hv⟩
  · exact ⟨_, cap, hv⟩
theorem FAt.drewN {w : World} {b off : Nat} {fs : List Fl} (h : FAt w b off fs) (n : Nat) : FAt (w.drewN n) b off fs := h

theorem flds_one {w : World} {g : Nat} {a b : ByteArray} (h : w.heap[g]? = some (.cells #[.string a, .string b] 37 (0, 0))) : Flds w (.slice (some ⟨g, 0, none⟩) 1 1) [(a, b)] := by
  refine .inr ⟨_, 0, 1, rfl, block_lt h, fun j hj => ?_⟩
  have : j = 0 := by simpa using hj
  subst this
  exact ⟨two0 h, two1 h⟩
end Go.Proofs.YtcnipjmeillfeaaDoor.Fd
