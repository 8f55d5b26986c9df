/-
  In a seat that has token.Value, too: token.Is stands in TokIs. No condition.
-/
import Derived.Test.YtlnlihkljnkhiaaDoorTokIs
import Derived.Test.YtlnlihkljnkhiaaDoorTokValue
