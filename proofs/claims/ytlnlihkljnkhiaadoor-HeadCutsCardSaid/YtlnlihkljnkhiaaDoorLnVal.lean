/-
  What line's functions answer, as values. No condition.
-/
import Derived.Test.YtlnlihkljnkhiaaDoorRows
import Derived.Test.YtlnlihkljnkhiaaDoorLnMath
namespace Go.Proofs.YtlnlihkljnkhiaaDoor.Ln

/-- What Request answers. -/
def reqVal (s : ByteArray) : Value :=
  if 1024 < s.size then .tuple #[.string ⟨#[]⟩, .string ⟨#[]⟩, .int .i64 0, .int .i64 3]
  else if reqOk s.data.toList then .tuple #[.string ⟨(fst s.data.toList).toArray⟩, .string ⟨(fst (rst s.data.toList)).toArray⟩, .int .i64 (minorOf (rst (rst s.data.toList))), .int .i64 0]
  else .tuple #[.string ⟨#[]⟩, .string ⟨#[]⟩, .int .i64 0, .int .i64 30]
/-- What Status answers. -/
def stVal (s : ByteArray) : Value :=
  if 1024 < s.size then .tuple #[.int .i64 0, .int .i64 0, .string ⟨#[]⟩, .int .i64 3]
  else if stOk s.data.toList then .tuple #[.int .i64 (minorOf (fst s.data.toList)), .int .i64 (codeOf (fst (rst s.data.toList))), .string ⟨(rst (rst s.data.toList)).toArray⟩, .int .i64 0]
  else .tuple #[.int .i64 0, .int .i64 0, .string ⟨#[]⟩, .int .i64 30]
end Go.Proofs.YtlnlihkljnkhiaaDoor.Ln
