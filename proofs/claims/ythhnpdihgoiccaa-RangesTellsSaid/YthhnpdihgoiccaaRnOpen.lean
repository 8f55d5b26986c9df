/-
  Arguments that are wanted ranges, as they read. Condition: what the form says of what is read.
-/
import Derived.Test.YthhnpdihgoiccaaSpOpen
namespace Go.Proofs.Ythhnpdihgoiccaa.Rn
open Go.RowKit Go.ChangeShapes Go.WideShapes Go.Deep Go.Joins Go.Proofs.Ythhnpdihgoiccaa.Fd Go.Proofs.Ythhnpdihgoiccaa.Sn
set_option linter.unusedVariables false
theorem cellsWant : Try.prog.cellsOf 23 = 2 := by kernel_rfl
set_option maxRecDepth 100000 in
theorem open_want {H : Type} {enc : TypeId × Value → H} {W : World} {base : Nat} {v : Value} {d : DataW H} {p : List MemPlace} (hv : Value.okWide Try.prog W .any base 23 v)
    (h : DataW.Trod enc Try.prog W 0 (fun _ => true) true 23 v d p) : ∃ s : Sp, v = SV s := by
  obtain ⟨v0, v1, y0, y1, n, rfl, rfl, rfl, g0, g1⟩ := open_agg2 Try.underlying23 hone cellsWant hv h
  obtain ⟨a, e0, _⟩ := DataW.trod_int Try.underlying3 g0
  obtain ⟨b, e1, _⟩ := DataW.trod_int Try.underlying3 g1
  injection e0 with e0
  injection e1 with e1
  subst e0 e1
  exact ⟨(a, b), rfl⟩
end Go.Proofs.Ythhnpdihgoiccaa.Rn
