/-
  strings.Cut at "=" and strings.Clone, as the library's own text has them: what each returns. Condition: a text of at most 2^47 bytes.
-/
import Derived.Test.YtmnnbefigepgfaaDoorRows
import Derived.Test.YtmnnbefigepgfaaDoorTokTrim
import Derived.Test.YtmnnbefigepgfaaDoorTokPairMath
import Derived.WalkKit
import Derived.WalkLawsBesides
import Derived.WalkSpells
import Derived.Outline
import Derived.Lib.Hide
import Derived.Lib.Bytealg
import Derived.Lib.BufferWrite
import Derived.Lib.UnsafeStr
import Derived.Laws.CopyOwn
import Derived.Deep.QuietTactic
import Derived.BigQuiet
namespace Go.Proofs.YtmnnbefigepgfaaDoor.Tk
open Go.RowKit

theorem run_idx (args : Array Value) (w : World) : (callFunc 64 args).run Tryd.prog w = ((Extern.BytealgIndexByte.indexByte args).run Tryd.prog w).andThen fun v w' => .ok (.value v) w' :=
  run_callFunc_extern Tryd.func64 (by kernel_rfl) (by kernel_rfl) (by kernel_rfl) (e := Extern.BytealgIndexByte.indexByte) (by kernel_rfl) args w

theorem indexByte_any (s : ByteArray) (c : UInt8) (w : World) :
    Calls Tryd.prog 60 #[.string s, .int .u8 (c.toNat : Int)] w fun e w' => e = .returned (.int .i64 (Lib.indexByte s.data.toList c)) ∧ w = w' := by
  have hc : ((c.toNat : Int).toNat).toUInt8 = c := by simp
  go_enter Tryd.func60, Tryd.ntmps60
  go_wp2
  rw [run_idx, Lib.run_indexByteString, hc]
  simp only [Result.andThen]
  rw [Oper.upon_value]
  go_wp2
  go_ret
  exact ⟨rfl, rfl⟩

theorem eq_text_ne {s : ByteArray} (h : s ≠ ⟨#[61]⟩) : (([61] : List UInt8) == s.toList) = false := by
  rw [beq_eq_false_iff_ne, ByteArray.toList_eq]; intro e; apply h
  cases s with
  | mk d => cases d with
    | mk l => simp at e; subst e; rfl

set_option maxHeartbeats 1000000 in
theorem index_any (s : ByteArray) (w : World) :
    Calls Tryd.prog 58 #[.string s, .string ⟨#[61]⟩] w fun e w' => e = .returned (.int .i64 (Lib.indexByte s.data.toList 61)) ∧ w = w' := by
  by_cases he : s = ⟨#[61]⟩
  · have h1 : (([61] : List UInt8) == s.toList) = true := by rw [he]; simp
    have HV := Lib.hid (show Lib.indexByte s.data.toList 61 = 0 from by rw [he]; rfl)
    clear he
    go_enter Tryd.func58, Tryd.ntmps58
    go_wp2_with fail
    go_ret
    exact ⟨by rw [HV.out]; rfl, rfl⟩
  · have h1 := eq_text_ne he
    clear he
    go_enter Tryd.func58, Tryd.ntmps58
    go_wp2_with fail
    refine (indexByte_any s 61 _).mono ?_
    rintro e w' ⟨rfl, rfl⟩
    go_wp2_with fail
    go_ret
    exact ⟨rfl, rfl⟩

/-- What Cut at "=" answers. -/
def cutVal (s : ByteArray) : Value :=
  if eqIdx s.data.toList < s.size then .tuple #[.string (s.extract 0 (eqIdx s.data.toList)), .string (s.extract (eqIdx s.data.toList + 1) s.size), .bool true]
  else .tuple #[.string s, .string ⟨#[]⟩, .bool false]

set_option maxHeartbeats 1000000 in
theorem cutLite_any (s : ByteArray) (w : World) (hs : s.size ≤ maxLen) :
    Calls Tryd.prog 49 #[.string s, .string ⟨#[61]⟩] w fun e w' => e = .returned (cutVal s) ∧ ∃ n, w' = w.drewN n := by
  unfold maxLen at hs
  have hlen : s.data.toList.length = s.size := by simp
  obtain ⟨k, hk⟩ : ∃ k, k = eqIdx s.data.toList := ⟨_, rfl⟩
  by_cases h : k < s.size
  · have HV := Lib.hid (show cutVal s = .tuple #[.string (s.extract 0 k), .string (s.extract (k + 1) s.size), .bool true] from by unfold cutVal; rw [← hk, if_pos h])
    have HI := Lib.hid (show Lib.indexByte s.data.toList 61 = (k : Int) from by rw [indexByte_eq, ← hk, if_pos (by omega)])
    clear hk hlen
    go_enter Tryd.func49, Tryd.ntmps49
    go_wp2_with fail
    refine (index_any s _).mono ?_
    rintro e w' ⟨rfl, rfl⟩
    rw [HI.out]
    go_wp2_with fail
    go_quiet (fail)
    go_wp2_with fail
    go_ret3
    exact ⟨by rw [HV.out]; rfl, _, rfl⟩
  · have HV := Lib.hid (show cutVal s = .tuple #[.string s, .string ⟨#[]⟩, .bool false] from by unfold cutVal; rw [← hk, if_neg h])
    have HI := Lib.hid (show Lib.indexByte s.data.toList 61 = -1 from by rw [indexByte_eq, ← hk, if_neg (by omega)])
    clear hk hlen
    go_enter Tryd.func49, Tryd.ntmps49
    go_wp2_with fail
    refine (index_any s _).mono ?_
    rintro e w' ⟨rfl, rfl⟩
    rw [HI.out]
    go_wp2_with fail
    go_ret3
    exact ⟨by rw [HV.out]; rfl, 0, rfl⟩
end Go.Proofs.YtmnnbefigepgfaaDoor.Tk
