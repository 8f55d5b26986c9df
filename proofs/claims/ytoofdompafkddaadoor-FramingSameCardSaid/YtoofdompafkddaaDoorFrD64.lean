/-
  What the contract of strconv.FormatInt asks of a table of math/bits: one cell. No condition.
-/
import Derived.Test.YtoofdompafkddaaDoorRows
import Derived.Below
import Derived.WalkKit
namespace Go.Proofs.YtoofdompafkddaaDoor.Fr
open Go.RowKit
/-- The table's sixteenth cell. -/
def D64 (w : World) : Prop := w.cell? ⟨4, 15, none⟩ = some (.int .u8 4)
theorem D64.lt {w : World} (h : D64 w) : 4 < w.heap.size := World.block_lt_of_cell? w _ h
theorem D64.below {B : Nat} {w w' : World} (h : D64 w) (hb : Below B w w') (hB : 4 < B) : D64 w' := by
  unfold D64
  rw [hb.cell (p := ⟨4, 15, none⟩) hB]
  exact h
end Go.Proofs.YtoofdompafkddaaDoor.Fr
