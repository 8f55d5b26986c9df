/-
  A slice of texts that came in. Condition: what the form says of what is read.
-/
import Derived.Test.YtcnipjmeillfeaaDoorHdByts
import Derived.Test.YtcnipjmeillfeaaDoorTokMath
import Derived.SliceStrings
namespace Go.Proofs.YtcnipjmeillfeaaDoor.Hd
open Go.RowKit Go.Proofs.YtcnipjmeillfeaaDoor.Tk Go.ChangeShapes Go.WideShapes
set_option linter.unusedVariables false

/-- A slice that reads as these texts. -/
def Strs (w : World) (v : Value) (ls : List ByteArray) : Prop :=
  (ls = [] ∧ ∃ a cap, v = .slice a 0 cap) ∨ ∃ b off cap, v = .slice (some ⟨b, off, none⟩) ls.length cap ∧ b < w.heap.size ∧ ∀ j (hj : j < ls.length), w.cell? ⟨b, off + j, none⟩ = some (.string ls[j])
theorem Strs.below {B : Nat} {w w' : World} {v : Value} {ls : List ByteArray} (h : Strs w v ls) (hb : Below B w w') (hB : w.heap.size ≤ B) : Strs w' v ls := by
  rcases h with h | ⟨b, off, cap, hv, hlt, hh⟩
  · exact .inl h
  · exact .inr ⟨b, off, cap, hv, Nat.lt_of_lt_of_le hlt hb.size, fun j hj => by rw [hb.cell (p := ⟨b, off + j, none⟩) (by show b < B; omega)]; exact hh j hj⟩
theorem Strs.shape {w : World} {v : Value} {ls : List ByteArray} (h : Strs w v ls) : ∃ a cap, v = .slice a ls.length cap := by
  rcases h with ⟨rfl, a, cap, hv⟩ | ⟨b, off, cap, hv, _⟩
  · exact ⟨a, cap, hv⟩
  · exact ⟨_, cap, hv⟩
theorem cellsStr : Tryd.prog.cellsOf 9 = 1 := by kernel_rfl
set_option maxRecDepth 100000 in
theorem open_texts {H : Type} {enc : TypeId × Value → H} {W : World} {base : Nat} {v : Value} {d : DataW H} {p : List MemPlace} (hv : Value.okWide Tryd.prog W .any base 23 v)
    (h : DataW.Trod enc Tryd.prog W 0 (fun _ => true) true 23 v d p) (hw : ∀ n ∈ d.weights Tryd.prog 23, n ≤ reachBytes) :
    ∃ ls : List ByteArray, Strs W v ls ∧ ls.length ≤ maxLen ∧ ∀ s ∈ ls, s.size ≤ maxLen := by
  obtain ⟨a0, len0, cap0, rfl⟩ := okWide_slice Tryd.underlying23 hv
  obtain ⟨fuel, hf⟩ := h
  rcases open_strings Tryd.underlying23 Tryd.underlying9 cellsStr hf with ⟨hcs, _⟩ | ⟨a, len, cap, ss, hcs, _, hl, hm, hz, hx, hcell, hws⟩
  · simp [Value.cells] at hcs
    obtain ⟨rfl, rfl, rfl⟩ := hcs
    exact ⟨[], .inl ⟨rfl, _, _, rfl⟩, by simp, fun s hs => by simp at hs⟩
  · simp [Value.cells] at hcs
    obtain ⟨rfl, rfl, rfl⟩ := hcs
    simp only [if_true] at hz
    by_cases h0 : len0 = 0
    · subst h0; exact ⟨[], .inl ⟨rfl, _, _, rfl⟩, by simp, fun s hs => by simp at hs⟩
    · obtain ⟨b, off, spot⟩ := a
      have hc0 := hcell 0 (by omega)
      have hspot : spot = none := by simpa [Addr.add] using World.cell?_spot hc0
      subst hspot
      have hlen : (ss.take len0).length = len0 := by rw [List.length_take]; omega
      refine ⟨ss.take len0, .inr ⟨b, off, cap0, by rw [hlen], ?_, fun j hj => ?_⟩, by rw [hlen]; omega, fun s hs => hws s (List.mem_of_mem_take hs)⟩
      · rw [Addr.add_lit] at hc0
        exact World.block_lt_of_cell? W _ hc0
      · rw [hlen] at hj
        have hcj := hcell j (by omega)
        rw [Addr.add_lit] at hcj
        have hjz : j < ss.length := by omega
        rw [hcj, List.getD, List.getElem?_eq_getElem hjz]
        simp [List.getElem_take]
end Go.Proofs.YtcnipjmeillfeaaDoor.Hd
