/-
  The library contract of strings.CutSuffix, at this translation: one application. No condition but what it states.
-/
import Derived.Shelf.LaysM
import Derived.Shelf.Small.Wraps
import Derived.Test.YtledjiikpajdaaaProg
namespace Go.Proofs.Ytledjiikpajdaaa.Vd
open Go.Shelf Go.RowKit
def lays104_ren : Go.Shelf.Ren := ⟨fun | 104 => 10 | 211 => 14 | 207 => 17 | n => n, fun | 9 => 9 | 4 => 4 | 24 => 31 | 3 => 3 | n => n, fun | n => n⟩
theorem lays104 : Go.Proofs.Lays.n104 Try.prog lays104_ren := {
  mixed := by kernel_rfl
  f104 := Try.func10.trans (congrArg some (by kernel_rfl))
  f207 := Try.func17.trans (congrArg some (by kernel_rfl))
  f211 := Try.func14.trans (congrArg some (by kernel_rfl))
  t3 := Try.underlying3
  a3 := Try.isAgg3
  z3 := Try.sizeOf3
  v3 := Try.zeroValue3
  t4 := Try.underlying4
  a4 := Try.isAgg4
  z4 := Try.sizeOf4
  v4 := Try.zeroValue4
  t9 := Try.underlying9
  a9 := Try.isAgg9
  z9 := Try.sizeOf9
  v9 := Try.zeroValue9
  t24 := Try.underlying31
  a24 := Try.isAgg31
  z24 := Try.sizeOf31
  v24 := Try.zeroValue31 }
open Go.RowKit in
theorem strings_CutSuffix (s p : ByteArray) (w : World) (hs : s.size ≤ 9223372036854775807) :
    Calls Try.prog 10 #[.string s, .string p] w fun e w' => e = .returned (.tuple #[.string ⟨(Lib.trimSuffix s.data.toList p.data.toList).toArray⟩, .bool (Lib.hasSuffix s.data.toList p.data.toList)]) ∧ w' = w := Any.strings_CutSuffix lays104 s p w hs
end Go.Proofs.Ytledjiikpajdaaa.Vd
