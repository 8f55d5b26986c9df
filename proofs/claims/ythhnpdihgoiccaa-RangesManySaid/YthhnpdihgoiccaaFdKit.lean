/-
  A field as the model lays it. No condition.
-/
-- cut by strips.py
import Derived.Test.YthhnpdihgoiccaaKit
namespace Go.Proofs.Ythhnpdihgoiccaa.Fd
open Go.RowKit

end Go.Proofs.Ythhnpdihgoiccaa.Fd
