/-
  A field as the model lays it. No condition.
-/
import Derived.Test.YtcnipjmeillfeaaDoorKit
namespace Go.Proofs.YtcnipjmeillfeaaDoor.Fd
open Go.RowKit

theorem infoField : (Tryd.prog.info? 37).map (fun i => (i.zero, i.size, i.bytes)) = some (some (.agg #[.string ⟨#[]⟩, .string ⟨#[]⟩]), 2, 32) := by kernel_rfl
theorem infoFieldSize : (Tryd.prog.info? 37).map (·.size) = some 2 := by kernel_rfl
theorem cellsField : Tryd.prog.cellsOf 37 = 2 := by kernel_rfl
end Go.Proofs.YtcnipjmeillfeaaDoor.Fd
