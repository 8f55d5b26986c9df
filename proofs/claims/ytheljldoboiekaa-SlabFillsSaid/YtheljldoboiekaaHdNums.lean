/-
  A slice of ints that came in. Condition: what the form says of what is read.
-/
import Derived.Test.YtheljldoboiekaaHdByts
namespace Go.Proofs.Ytheljldoboiekaa.Hd
open Go.RowKit Go.Proofs.Ytheljldoboiekaa.Tk Go.ChangeShapes Go.WideShapes
set_option linter.unusedVariables false

/-- A slice of so many ints. -/
def Ints (w : World) (v : Value) (L : Nat) : Prop :=
  (L = 0 ∧ ∃ a cap, v = .slice a 0 cap) ∨ ∃ b off cap, v = .slice (some ⟨b, off, none⟩) L cap ∧ b < w.heap.size ∧ ∀ j, j < L → ∃ z : Int, w.cell? ⟨b, off + j, none⟩ = some (.int .i64 z)
theorem Ints.below {B : Nat} {w w' : World} {v : Value} {L : Nat} (h : Ints w v L) (hb : Below B w w') (hB : w.heap.size ≤ B) : Ints w' v L := by
  rcases h with h | ⟨b, off, cap, hv, hlt, hh⟩
  · exact .inl h
  · exact .inr ⟨b, off, cap, hv, Nat.lt_of_lt_of_le hlt hb.size, fun j hj => by rw [hb.cell (p := ⟨b, off + j, none⟩) (by show b < B; omega)]; exact hh j hj⟩
theorem Ints.shape {w : World} {v : Value} {L : Nat} (h : Ints w v L) : ∃ a cap, v = .slice a L cap := by
  rcases h with ⟨rfl, a, cap, hv⟩ | ⟨b, off, cap, hv, _⟩
  · exact ⟨a, cap, hv⟩
  · exact ⟨_, cap, hv⟩
theorem cellsInt : Try.prog.cellsOf 3 = 1 := by kernel_rfl
set_option maxRecDepth 100000 in
theorem open_nums {H : Type} {enc : TypeId × Value → H} {W : World} {base : Nat} {v : Value} {d : DataW H} {p : List MemPlace} (hv : Value.okWide Try.prog W .any base 48 v)
    (h : DataW.Trod enc Try.prog W 0 (fun _ => true) true 48 v d p) :
    ∃ L : Nat, Ints W v L ∧ L ≤ maxLen := by
  obtain ⟨a0, len0, cap0, rfl⟩ := okWide_slice Try.underlying48 hv
  obtain ⟨fuel, hf⟩ := h
  rcases open_ints Try.underlying48 Try.underlying3 cellsInt hf with ⟨hcs, _⟩ | ⟨a, len, cap, zs, hcs, _, hl, hm, hz, hx, hcell, hwz⟩
  · simp [Value.cells] at hcs
    obtain ⟨rfl, rfl, rfl⟩ := hcs
    exact ⟨0, .inl ⟨rfl, _, _, rfl⟩, by simp⟩
  · simp [Value.cells] at hcs
    obtain ⟨rfl, rfl, rfl⟩ := hcs
    simp only [if_true] at hz
    by_cases h0 : len0 = 0
    · subst h0; exact ⟨0, .inl ⟨rfl, _, _, rfl⟩, by simp⟩
    · obtain ⟨b, off, spot⟩ := a
      have hc0 := hcell 0 (by omega)
      have hspot : spot = none := by simpa [Addr.add] using World.cell?_spot hc0
      subst hspot
      refine ⟨len0, .inr ⟨b, off, cap0, rfl, ?_, fun j hj => ?_⟩, by omega⟩
      · rw [Addr.add_lit] at hc0
        exact World.block_lt_of_cell? W _ hc0
      · have hcj := hcell j (by omega)
        rw [Addr.add_lit] at hcj
        exact ⟨_, hcj⟩
end Go.Proofs.Ytheljldoboiekaa.Hd
