/-
  What a Cache-Control says, and what is known of a response, as plain structures. No program, no condition.
-/
import Derived.WalkKit
namespace Go.Proofs.YtbignmccpbccoaaDoor.Ct

/-- What is said: seven flags, six numbers (-1: nothing). -/
structure Con where
  (ns nc pr pu mu px oc : Bool)
  (ag sh wh ie mf ms : Int)
def Con.zero : Con := ⟨false, false, false, false, false, false, false, -1, -1, -1, -1, -1, -1⟩
/-- What is known of a response. -/
structure Mta where
  code : Int
  con : Con
  date : Int
  exp : Int
  mod : Int
  age : Int
  ask : Int
  got : Int
  tag : ByteArray
end Go.Proofs.YtbignmccpbccoaaDoor.Ct
