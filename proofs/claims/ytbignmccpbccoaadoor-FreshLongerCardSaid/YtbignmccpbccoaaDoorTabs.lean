/-
  What the rows' lists give of the listed variables, and a world that holds them. No condition.
-/
import Derived.Test.YtbignmccpbccoaaDoorCards
import Derived.Test.YtbignmccpbccoaaDoorTie
import Derived.Test.YtbignmccpbccoaaDoorFhHeur
import Derived.LaidLaws
import Derived.Lib.LaidTab
import Derived.Lib.ItoaNum
import Derived.ProofKit
import Derived.OpenShut
import Derived.ShutString
import Derived.Deep.DeepHandedRow
namespace Go.Proofs.YtbignmccpbccoaaDoor.Tb
open Go.ChangeShapes Go.WideShapes Go.ChangeAt Go.RowKit

theorem own : ownKnob Tryd.prog.godebug = none := by kernel_rfl
theorem laidOut : laidOutB Tryd.prog = true := by kernel_rfl
/-- A list's part behind its head. -/
theorem tail {P : Program} {x : String × DataW Unit} {r : List (String × DataW Unit)} {w : World} (h : laidMet P (x :: r) w) : laidMet P r w := by
  obtain ⟨ps, ⟨g, t, cs, fuel, p, q, hg, ht, hv, hd, hr, rfl⟩, hn, hall⟩ := h
  exact ⟨q, hr, (List.nodup_append.1 hn).2.1, fun b off hb => hall b off (List.mem_append_right _ hb)⟩

theorem gKept : Tryd.prog.globalNamed "gatepost/fresh.kept" = some 0 := by kernel_rfl
theorem gKeptT : (Tryd.prog.globals[0]?).map (·.type) = some 40 := by kernel_rfl
theorem cKeptE : Tryd.prog.cellsOf 3 = 1 := by kernel_rfl
theorem cKept : Tryd.prog.cellsOf 40 = 12 := by kernel_rfl
theorem kept_eq : (Rows.laid_gatepost_fresh_kept : DataW Unit) = Lib.tabData .i64 Fh.codes := by kernel_rfl
theorem kept_of_head {W : World} {rest : List (String × DataW Unit)} (h : laidMet Tryd.prog (("gatepost/fresh.kept", Rows.laid_gatepost_fresh_kept) :: rest) W) : Fh.Codes W := by
  rw [kept_eq] at h
  have h2 := Lib.tabIs_of_head gKept gKeptT Tryd.underlying40 Tryd.underlying3 cKeptE cKept h
  exact fun n hn => Lib.TabIs.cell h2 gKept n hn

/-- The settled world, each listed variable's block holding what its initialiser lays. -/
def litCell : DataW Unit → List Value
  | .lit (.int k z) => [Value.int k z]
  | .lit (.bool b) => [Value.bool b]
  | .lit (.string b) => [Value.string ⟨b.toArray⟩]
  | _ => [undef]
def dataCells (d : DataW Unit) : Array Value := match d with
  | .agg ds => (ds.flatMap fun
    | .agg es => es.flatMap litCell
    | x => litCell x).toArray
  | _ => #[]
def lay (g : Nat) (cs : Array Value) (h : Array Obj) : Array Obj := h.modify g fun
  | .cells _ t frozen => .cells cs t frozen
  | o => o
noncomputable def laidWorld (os : Os) : World :=
  { World.holding Tryd.prog os ⟨#[], #[], []⟩ with heap := lay 0 (dataCells Rows.laid_gatepost_fresh_kept) ((World.holding Tryd.prog os ⟨#[], #[], []⟩).heap) }
end Go.Proofs.YtbignmccpbccoaaDoor.Tb
