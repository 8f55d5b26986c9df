/-
  Arguments that are spans, lists of spans and lists of bools, as they read. Condition: what the form says of what is read.
-/
-- cut by strips.py
import Derived.Test.YthhnpdihgoiccaaDoorSpBase
import Derived.Deep.SlicePairs
import Derived.Lib.SmallJoins
import Derived.SizedLaws
import Derived.ProofKit
import Derived.ChangeArms
namespace Go.Proofs.YthhnpdihgoiccaaDoor.Sn
open Go.RowKit Go.ChangeShapes Go.WideShapes Go.Deep Go.Joins Go.Proofs.YthhnpdihgoiccaaDoor.Fd
set_option linter.unusedVariables false

def intV : Value → Int
  | .int _ z => z
  | _ => 0
theorem hone : oneCellFields Tryd.prog #[{ name := "From", type := 3, offset := 0, embedded := false, tag := "", pkgPath := "", byteOffset := 0 }, { name := "To", type := 3, offset := 1, embedded := false, tag := "", pkgPath := "", byteOffset := 8 }] = true := by kernel_rfl

set_option maxRecDepth 100000 in
theorem open_span {H : Type} {enc : TypeId × Value → H} {W : World} {base : Nat} {v : Value} {d : DataW H} {p : List MemPlace} (hv : Value.okWide Tryd.prog W .any base 23 v)
    (h : DataW.Trod enc Tryd.prog W 0 (fun _ => true) true 23 v d p) : ∃ s : Sp, v = SV s := by
  obtain ⟨v0, v1, y0, y1, n, rfl, rfl, rfl, g0, g1⟩ := open_agg2 Tryd.underlying23 hone cellsSpan hv h
  obtain ⟨a, e0, _⟩ := DataW.trod_int Tryd.underlying3 g0
  obtain ⟨b, e1, _⟩ := DataW.trod_int Tryd.underlying3 g1
  injection e0 with e0
  injection e1 with e1
  subst e0 e1
  exact ⟨(a, b), rfl⟩

/-- A slice value that reads as these bools. -/
def Bools (w : World) (v : Value) (l : List Bool) : Prop :=
  (l = [] ∧ ∃ a cap, v = .slice a 0 cap) ∨ ∃ b off cap, v = .slice (some ⟨b, off, none⟩) l.length cap ∧ b < w.heap.size ∧ ∀ j (hj : j < l.length), w.cell? ⟨b, off + j, none⟩ = some (.bool l[j])
theorem cellsBool : Tryd.prog.cellsOf 4 = 1 := by kernel_rfl
end Go.Proofs.YthhnpdihgoiccaaDoor.Sn
