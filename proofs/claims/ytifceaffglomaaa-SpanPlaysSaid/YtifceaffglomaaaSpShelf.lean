/-
  The library's contract of sort.Search, at this translation. No condition but what it states.
-/
import Derived.Shelf.SlSorted.Search
import Derived.Test.YtifceaffglomaaaProg
namespace Go.Proofs.Ytifceaffglomaaa.Sn
open Go.RowKit Go.Sort Go.Shelf
def laysSearch_ren : Go.Shelf.Ren := ⟨fun | 16 => 34 | n => n, fun | 3 => 3 | 35 => 48 | 4 => 4 | 38 => 52 | n => n, fun | n => n⟩
theorem laysSearch : Go.Proofs.SlLaysO.n16 Try.prog laysSearch_ren := {
  mixed := by kernel_rfl
  f16 := Try.func34.trans (congrArg some (by kernel_rfl))
  t3 := Try.underlying3
  a3 := Try.isAgg3
  z3 := Try.sizeOf3
  v3 := Try.zeroValue3
  t4 := Try.underlying4
  a4 := Try.isAgg4
  z4 := Try.sizeOf4
  v4 := Try.zeroValue4
  t35 := Try.underlying48
  a35 := Try.isAgg48
  z35 := Try.sizeOf48
  v35 := Try.zeroValue48
  t38 := Try.underlying52
  a38 := Try.isAgg52
  z38 := Try.sizeOf52
  v38 := Try.zeroValue52 }

end Go.Proofs.Ytifceaffglomaaa.Sn
