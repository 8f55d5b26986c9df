/-
  What the rows' lists give of the listed variables, and a world that holds them. No condition.
-/
import Derived.Test.YthhnpdihgoiccaaDoorCards
import Derived.Test.YthhnpdihgoiccaaDoorTie
import Derived.Test.YthhnpdihgoiccaaDoorKit
import Derived.LaidLaws
import Derived.Lib.LaidTab
import Derived.Lib.ItoaNum
import Derived.ProofKit
import Derived.OpenShut
import Derived.ShutString
import Derived.Deep.DeepHandedRow
namespace Go.Proofs.YthhnpdihgoiccaaDoor.Tb
open Go.ChangeShapes Go.WideShapes Go.ChangeAt Go.RowKit

theorem own : ownKnob Tryd.prog.godebug = none := by kernel_rfl
theorem laidOut : laidOutB Tryd.prog = true := by kernel_rfl
/-- A list's part behind its head. -/
theorem tail {P : Program} {x : String × DataW Unit} {r : List (String × DataW Unit)} {w : World} (h : laidMet P (x :: r) w) : laidMet P r w := by
  obtain ⟨ps, ⟨g, t, cs, fuel, p, q, hg, ht, hv, hd, hr, rfl⟩, hn, hall⟩ := h
  exact ⟨q, hr, (List.nodup_append.1 hn).2.1, fun b off hb => hall b off (List.mem_append_right _ hb)⟩

theorem gPT : Tryd.prog.globalNamed "internal/strconv.uint64pow10" = some 1 := by kernel_rfl
theorem gPTt : (Tryd.prog.globals[1]?).map (·.type) = some 66 := by kernel_rfl
theorem cU64 : Tryd.prog.cellsOf 56 = 1 := by kernel_rfl
theorem cPT : Tryd.prog.cellsOf 66 = 20 := by kernel_rfl
abbrev P10 (w : World) : Prop := Lib.TabIs Tryd.prog w "internal/strconv.uint64pow10" .u64 Lib.pow10Tab
theorem pow_eq : (Rows.laid_internal_strconv_uint64pow10 : DataW Unit) = Lib.tabData .u64 Lib.pow10Tab := by kernel_rfl
theorem p10_of_head {W : World} {rest : List (String × DataW Unit)} (h : laidMet Tryd.prog (("internal/strconv.uint64pow10", Rows.laid_internal_strconv_uint64pow10) :: rest) W) : P10 W := by
  rw [pow_eq] at h
  exact Lib.tabIs_of_head gPT gPTt Tryd.underlying66 Tryd.underlying56 cU64 cPT h

/-- The settled world, each listed variable's block holding what its initialiser lays. -/
def litCell : DataW Unit → List Value
  | .lit (.int k z) => [Value.int k z]
  | .lit (.bool b) => [Value.bool b]
  | .lit (.string b) => [Value.string ⟨b.toArray⟩]
  | _ => [undef]
def dataCells (d : DataW Unit) : Array Value := match d with
  | .agg ds => (ds.flatMap fun
    | .agg es => es.flatMap litCell
    | x => litCell x).toArray
  | _ => #[]
def lay (g : Nat) (cs : Array Value) (h : Array Obj) : Array Obj := h.modify g fun
  | .cells _ t frozen => .cells cs t frozen
  | o => o
noncomputable def laidWorld (os : Os) : World :=
  { World.holding Tryd.prog os ⟨#[], #[], []⟩ with heap := lay 2 (dataCells Rows.laid_math_bits_deBruijn32tab) (lay 3 (dataCells Rows.laid_math_bits_deBruijn64tab) (lay 1 (dataCells Rows.laid_internal_strconv_uint64pow10) ((World.holding Tryd.prog os ⟨#[], #[], []⟩).heap))) }
end Go.Proofs.YthhnpdihgoiccaaDoor.Tb
