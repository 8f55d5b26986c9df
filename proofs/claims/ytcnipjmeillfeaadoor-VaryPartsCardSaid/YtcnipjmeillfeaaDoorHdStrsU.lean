/-
  A slice of texts that came in, with the form's reach as its bound. Condition: what the form says of what is read.
-/
import Derived.Test.YtcnipjmeillfeaaDoorHdStrs
import Derived.Test.YtcnipjmeillfeaaDoorFdOpen
namespace Go.Proofs.YtcnipjmeillfeaaDoor.Hd
open Go.RowKit Go.Proofs.YtcnipjmeillfeaaDoor.Tk Go.ChangeShapes Go.WideShapes
set_option linter.unusedVariables false

set_option maxRecDepth 100000 in
theorem open_textsU {H : Type} {enc : TypeId × Value → H} {W : World} {base : Nat} {v : Value} {d : DataW H} {p : List MemPlace} (hv : Value.okWide Tryd.prog W .any base 23 v)
    (h : DataW.Trod enc Tryd.prog W 0 (fun _ => true) true 23 v d p) (hw : ∀ n ∈ d.weights Tryd.prog 23, n ≤ reachBytes) :
    ∃ ls : List ByteArray, Strs W v ls ∧ ls.length ≤ 140737488355328 ∧ ∀ s ∈ ls, s.size ≤ 140737488355328 := by
  obtain ⟨a0, len0, cap0, rfl⟩ := okWide_slice Tryd.underlying23 hv
  obtain ⟨fuel, hf⟩ := h
  rcases open_strings Tryd.underlying23 Tryd.underlying9 cellsStr hf with ⟨hcs, _⟩ | ⟨a, len, cap, ss, hcs, _, hl, hm, hz, hx, hcell, hws⟩
  · simp [Value.cells] at hcs
    obtain ⟨rfl, rfl, rfl⟩ := hcs
    exact ⟨[], .inl ⟨rfl, _, _, rfl⟩, by simp, fun s hs => by simp at hs⟩
  · simp [Value.cells] at hcs
    obtain ⟨rfl, rfl, rfl⟩ := hcs
    simp only [if_true] at hz
    have hd : d = .slice (strs (ss.take len0)) (strs (ss.drop len0)) := congrArg Prod.fst hx
    by_cases h0 : len0 = 0
    · subst h0; exact ⟨[], .inl ⟨rfl, _, _, rfl⟩, by simp, fun s hs => by simp at hs⟩
    · obtain ⟨b, off, spot⟩ := a
      have hc0 := hcell 0 (by omega)
      have hspot : spot = none := by simpa [Addr.add] using World.cell?_spot hc0
      subst hspot
      have hlen : (ss.take len0).length = len0 := by rw [List.length_take]; omega
      have hlb : len0 * 16 ≤ reachBytes := by
        have h1 : ((strs (ss.take len0) : List (DataW H)).length + (strs (ss.drop len0) : List (DataW H)).length) * Tryd.prog.bytesOf 9 ∈ d.weights Tryd.prog 23 := by
          rw [hd, DataW.weights, Tryd.underlying23]
          simp
        have h2 := hw _ h1
        have h3 : Tryd.prog.bytesOf 9 = 16 := by kernel_rfl
        rw [h3] at h2
        have h4 : (strs (ss.take len0) : List (DataW H)).length = len0 := by unfold strs; rw [List.length_map, hlen]
        rw [h4] at h2
        exact Nat.le_trans (Nat.mul_le_mul_right _ (by omega)) h2
      unfold reachBytes at hlb
      refine ⟨ss.take len0, .inr ⟨b, off, cap0, by rw [hlen], ?_, fun j hj => ?_⟩, by rw [hlen]; omega, fun s hs => ?_⟩
      · rw [Addr.add_lit] at hc0
        exact World.block_lt_of_cell? W _ hc0
      · rw [hlen] at hj
        have hcj := hcell j (by omega)
        rw [Addr.add_lit] at hcj
        have hjz : j < ss.length := by omega
        rw [hcj, List.getD, List.getElem?_eq_getElem hjz]
        simp [List.getElem_take]
      · have hm1 : (DataW.lit (.string s.data.toList) : DataW H) ∈ strs (ss.take len0) := by
          unfold strs; rw [List.mem_map]
          exact ⟨s, hs, rfl⟩
        have hm2 : s.data.toList.length ∈ d.weights Tryd.prog 23 := by
          rw [hd, DataW.weights, Tryd.underlying23]
          simp only [List.mem_cons, List.mem_append]
          exact .inr (.inl (Fd.weights_in hm1 _ (by simp [DataW.weights])))
        have hm3 := hw _ hm2
        unfold reachBytes at hm3
        rw [Array.length_toList] at hm3
        exact Nat.le_trans (show s.size ≤ _ from hm3) (by decide)
end Go.Proofs.YtcnipjmeillfeaaDoor.Hd
