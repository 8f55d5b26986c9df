/-
  Arguments that are spans, lists of spans and lists of bools, as they read. Condition: what the form says of what is read.
-/
-- cut by strips.py
import Derived.Test.YthhnpdihgoiccaaSpBase
import Derived.Deep.SlicePairs
import Derived.Lib.SmallJoins
import Derived.SizedLaws
import Derived.ProofKit
import Derived.ChangeArms
namespace Go.Proofs.Ythhnpdihgoiccaa.Sn
open Go.RowKit Go.ChangeShapes Go.WideShapes Go.Deep Go.Joins Go.Proofs.Ythhnpdihgoiccaa.Fd
set_option linter.unusedVariables false

def intV : Value → Int
  | .int _ z => z
  | _ => 0
theorem hone : oneCellFields Try.prog #[{ name := "From", type := 3, offset := 0, embedded := false, tag := "", pkgPath := "", byteOffset := 0 }, { name := "To", type := 3, offset := 1, embedded := false, tag := "", pkgPath := "", byteOffset := 8 }] = true := by kernel_rfl

set_option maxRecDepth 100000 in
theorem open_span {H : Type} {enc : TypeId × Value → H} {W : World} {base : Nat} {v : Value} {d : DataW H} {p : List MemPlace} (hv : Value.okWide Try.prog W .any base 31 v)
    (h : DataW.Trod enc Try.prog W 0 (fun _ => true) true 31 v d p) : ∃ s : Sp, v = SV s := by
  obtain ⟨v0, v1, y0, y1, n, rfl, rfl, rfl, g0, g1⟩ := open_agg2 Try.underlying31 hone cellsSpan hv h
  obtain ⟨a, e0, _⟩ := DataW.trod_int Try.underlying3 g0
  obtain ⟨b, e1, _⟩ := DataW.trod_int Try.underlying3 g1
  injection e0 with e0
  injection e1 with e1
  subst e0 e1
  exact ⟨(a, b), rfl⟩

set_option maxRecDepth 100000 in
theorem open_spans {H : Type} {enc : TypeId × Value → H} {W : World} {base : Nat} {v : Value} {d : DataW H} {p : List MemPlace} (hv : Value.okWide Try.prog W .any base 53 v)
    (h : DataW.Trod enc Try.prog W 0 (fun _ => true) true 53 v d p) : ∃ l : List Sp, Spans W v l ∧ l.length ≤ 9223372036854775807 := by
  obtain ⟨a0, len0, cap0, rfl⟩ := okWide_slice Try.underlying53 hv
  obtain ⟨fuel, hf⟩ := h
  rcases open_slice_pairs Try.underlying53 Try.underlying31 cellsSpan rfl rfl cellsInt cellsInt hf with ⟨hcs, _⟩ | ⟨a, len, cap, m, n, V0, V1, D0, D1, P0, P1, hcs, _, hl, hm, hmm, hx, hat⟩
  · simp [Value.cells] at hcs
    obtain ⟨rfl, rfl, rfl⟩ := hcs
    exact ⟨[], .inl ⟨rfl, _, _, rfl⟩, by simp⟩
  · simp [Value.cells] at hcs
    obtain ⟨rfl, rfl, rfl⟩ := hcs
    have hmc : m = cap0 := by simpa using hmm
    have hmx : cap0 ≤ 9223372036854775807 := by unfold maxLen at hm; exact hm
    clear hmm hm
    have each : ∀ i, i < len0 → V0 i = .int .i64 (intV (V0 i)) ∧ V1 i = .int .i64 (intV (V1 i)) := by
      intro i hi
      obtain ⟨_, _, t0, t1⟩ := hat i (by omega)
      obtain ⟨s0, e0, _⟩ := DataW.trod_int Try.underlying3 t0
      obtain ⟨s1, e1, _⟩ := DataW.trod_int Try.underlying3 t1
      injection e0 with e0
      injection e1 with e1
      rw [e0, e1]
      exact ⟨rfl, rfl⟩
    by_cases h0 : len0 = 0
    · subst h0; exact ⟨[], .inl ⟨rfl, _, _, rfl⟩, by simp⟩
    · obtain ⟨b, off, spot⟩ := a
      have hc0 := (hat 0 (by omega)).1
      have hs : spot = none := by simpa [Addr.add] using World.cell?_spot hc0
      subst hs
      refine ⟨(List.range len0).map fun i => (intV (V0 i), intV (V1 i)), .inr ⟨b, off, cap0, by simp, by simpa using hl, hmx, ?_, fun j hj => ?_⟩, by simp; omega⟩
      · rw [Addr.add_lit] at hc0
        exact World.block_lt_of_cell? W _ hc0
      · have hj' : j < len0 := by simpa using hj
        obtain ⟨c0, c1, _, _⟩ := hat j (by omega)
        rw [Addr.add_lit] at c0 c1
        obtain ⟨q0, q1⟩ := each j hj'
        simp only [List.getElem_map, List.getElem_range]
        rw [c0, q0, Nat.add_assoc, c1, q1]
        exact ⟨by simp [intV], by simp [intV]⟩
/-- A slice value that reads as these bools. -/
def Bools (w : World) (v : Value) (l : List Bool) : Prop :=
  (l = [] ∧ ∃ a cap, v = .slice a 0 cap) ∨ ∃ b off cap, v = .slice (some ⟨b, off, none⟩) l.length cap ∧ b < w.heap.size ∧ ∀ j (hj : j < l.length), w.cell? ⟨b, off + j, none⟩ = some (.bool l[j])
theorem cellsBool : Try.prog.cellsOf 4 = 1 := by kernel_rfl
end Go.Proofs.Ythhnpdihgoiccaa.Sn
