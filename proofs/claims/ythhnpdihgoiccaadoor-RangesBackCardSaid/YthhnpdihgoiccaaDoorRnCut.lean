/-
  strings.Cut at "-", as the library's own text has them: what each returns. Condition: a text of at most 2^47 bytes.
-/
import Derived.Test.YthhnpdihgoiccaaDoorRows
import Derived.Test.YthhnpdihgoiccaaDoorRgMath
import Derived.WalkKit
import Derived.WalkLawsBesides
import Derived.WalkSpells
import Derived.Outline
import Derived.Lib.Hide
import Derived.Lib.Bytealg
import Derived.Lib.BufferWrite
import Derived.Lib.UnsafeStr
import Derived.Laws.CopyOwn
import Derived.Deep.QuietTactic
import Derived.BigQuiet
namespace Go.Proofs.YthhnpdihgoiccaaDoor.Rc45
open Go.RowKit Go.Proofs.YthhnpdihgoiccaaDoor.Rm Go.Proofs.YthhnpdihgoiccaaDoor.Tk

/-- The library's index of a byte is ours. -/
theorem indexByte_eq (l : Bs) : Lib.indexByte l 45 = if ix 45 l < l.length then (ix 45 l : Int) else -1 := by
  induction l with
  | nil => simp [Lib.indexByte, ix]
  | cons c r ih =>
    unfold Lib.indexByte ix
    by_cases hc : c = 45
    · simp [hc]
    · have hc' : (c == 45) = false := by simpa using hc
      simp only [hc', hc, if_false, ih, List.length_cons, Bool.false_eq_true]
      by_cases h : ix 45 r < r.length
      · have h2 : ix 45 r + 1 < r.length + 1 := by omega
        have h3 : (((ix 45 r : Nat) : Int) == -1) = false := beq_eq_false_iff_ne.2 (by omega)
        simp only [h, h2, if_true, h3, Bool.false_eq_true, if_false]; omega
      · have h2 : ¬ ix 45 r + 1 < r.length + 1 := by omega
        simp [h, h2]

theorem run_idx (args : Array Value) (w : World) : (callFunc 46 args).run Tryd.prog w = ((Extern.BytealgIndexByte.indexByte args).run Tryd.prog w).andThen fun v w' => .ok (.value v) w' :=
  run_callFunc_extern Tryd.func46 (by kernel_rfl) (by kernel_rfl) (by kernel_rfl) (e := Extern.BytealgIndexByte.indexByte) (by kernel_rfl) args w

set_option maxRecDepth 100000 in
theorem indexByte_any (s : ByteArray) (c : UInt8) (w : World) :
    Calls Tryd.prog 37 #[.string s, .int .u8 (c.toNat : Int)] w fun e w' => e = .returned (.int .i64 (Lib.indexByte s.data.toList c)) ∧ w = w' := by
  have hc : ((c.toNat : Int).toNat).toUInt8 = c := by simp
  go_enter Tryd.func37, Tryd.ntmps37
  go_wp2
  rw [run_idx, Lib.run_indexByteString, hc]
  simp only [Result.andThen]
  rw [Oper.upon_value]
  go_wp2
  go_ret
  exact ⟨rfl, rfl⟩

theorem eq_text_ne {s : ByteArray} (h : s ≠ ⟨#[45]⟩) : (([45] : List UInt8) == s.toList) = false := by
  rw [beq_eq_false_iff_ne, ByteArray.toList_eq]; intro e; apply h
  cases s with
  | mk d => cases d with
    | mk l => simp at e; subst e; rfl

set_option maxHeartbeats 1000000 in
theorem index_any (s : ByteArray) (w : World) :
    Calls Tryd.prog 29 #[.string s, .string ⟨#[45]⟩] w fun e w' => e = .returned (.int .i64 (Lib.indexByte s.data.toList 45)) ∧ w = w' := by
  by_cases he : s = ⟨#[45]⟩
  · have h1 : (([45] : List UInt8) == s.toList) = true := by rw [he]; simp
    have HV := Lib.hid (show Lib.indexByte s.data.toList 45 = 0 from by rw [he]; rfl)
    clear he
    go_enter Tryd.func29, Tryd.ntmps29
    go_wp2_with fail
    go_ret
    exact ⟨by rw [HV.out]; rfl, rfl⟩
  · have h1 := eq_text_ne he
    clear he
    go_enter Tryd.func29, Tryd.ntmps29
    go_wp2_with fail
    refine (indexByte_any s 45 _).mono ?_
    rintro e w' ⟨rfl, rfl⟩
    go_wp2_with fail
    go_ret
    exact ⟨rfl, rfl⟩

/-- What Cut at "-" answers. -/
def cutVal (s : ByteArray) : Value :=
  if ix 45 s.data.toList < s.size then .tuple #[.string (s.extract 0 (ix 45 s.data.toList)), .string (s.extract (ix 45 s.data.toList + 1) s.size), .bool true]
  else .tuple #[.string s, .string ⟨#[]⟩, .bool false]

set_option maxHeartbeats 1000000 in
theorem cutLite_any (s : ByteArray) (w : World) (hs : s.size ≤ maxLen) :
    Calls Tryd.prog 23 #[.string s, .string ⟨#[45]⟩] w fun e w' => e = .returned (cutVal s) ∧ ∃ n, w' = w.drewN n := by
  unfold maxLen at hs
  have hlen : s.data.toList.length = s.size := by simp
  obtain ⟨k, hk⟩ : ∃ k, k = ix 45 s.data.toList := ⟨_, rfl⟩
  by_cases h : k < s.size
  · have HV := Lib.hid (show cutVal s = .tuple #[.string (s.extract 0 k), .string (s.extract (k + 1) s.size), .bool true] from by unfold cutVal; rw [← hk, if_pos h])
    have HI := Lib.hid (show Lib.indexByte s.data.toList 45 = (k : Int) from by rw [indexByte_eq, ← hk, if_pos (by omega)])
    clear hk hlen
    go_enter Tryd.func23, Tryd.ntmps23
    go_wp2_with fail
    refine (index_any s _).mono ?_
    rintro e w' ⟨rfl, rfl⟩
    rw [HI.out]
    go_wp2_with fail
    go_quiet (fail)
    go_wp2_with fail
    go_ret3
    exact ⟨by rw [HV.out]; rfl, _, rfl⟩
  · have HV := Lib.hid (show cutVal s = .tuple #[.string s, .string ⟨#[]⟩, .bool false] from by unfold cutVal; rw [← hk, if_neg h])
    have HI := Lib.hid (show Lib.indexByte s.data.toList 45 = -1 from by rw [indexByte_eq, ← hk, if_neg (by omega)])
    clear hk hlen
    go_enter Tryd.func23, Tryd.ntmps23
    go_wp2_with fail
    refine (index_any s _).mono ?_
    rintro e w' ⟨rfl, rfl⟩
    rw [HI.out]
    go_wp2_with fail
    go_ret3
    exact ⟨by rw [HV.out]; rfl, 0, rfl⟩
theorem cut_any (s : ByteArray) (w : World) (hs : s.size ≤ maxLen) :
    Calls Tryd.prog 15 #[.string s, .string ⟨#[45]⟩] w fun e w' => e = .returned (cutVal s) ∧ ∃ n, w' = w.drewN n := by
  obtain ⟨a, b, c, hv⟩ : ∃ a b c, cutVal s = .tuple #[.string a, .string b, .bool c] := by
    unfold cutVal; split
    · exact ⟨_, _, _, rfl⟩
    · exact ⟨_, _, _, rfl⟩
  have HV := Lib.hid hv
  clear hv
  go_enter Tryd.func15, Tryd.ntmps15
  go_wp2_with fail
  refine (cutLite_any s _ hs).mono ?_
  rintro e w' ⟨rfl, n, hw⟩
  have HW := Lib.hid hw
  clear hw
  rw [HV.out]
  go_wp2_with fail
  go_ret3
  exact ⟨by rw [HV.out]; rfl, n, HW.out⟩
end Go.Proofs.YthhnpdihgoiccaaDoor.Rc45
