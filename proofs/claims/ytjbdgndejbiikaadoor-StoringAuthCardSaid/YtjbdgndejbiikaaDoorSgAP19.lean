/-
  Texts that the laws' proofs stand on, 3 of them in one file; each one's head says what it proves and under which condition.
-/
import Derived.Test.YtjbdgndejbiikaaDoorRows
import Derived.Test.YtjbdgndejbiikaaDoorSgAP1
import Derived.Test.YtjbdgndejbiikaaDoorSgAP7
import Derived.WalkKit
import Derived.WalkLawsBesides
import Derived.WalkSpells
import Derived.Outline
import Derived.Lib.Hide
import Derived.Lib.Bytealg
import Derived.Lib.BufferWrite
import Derived.Lib.UnsafeStr
import Derived.Laws.CopyOwn
import Derived.Deep.QuietTactic
import Derived.BigQuiet
import Derived.Test.YtjbdgndejbiikaaDoorSgAP2
/-
  strings.Cut at "=" and strings.Clone, as the library's own text has them: what each returns. Condition: a text of at most 2^47 bytes.
-/
namespace Go.Proofs.YtjbdgndejbiikaaDoor.Tk
open Go.RowKit
set_option maxRecDepth 100000

theorem run_idx (args : Array Value) (w : World) : (callFunc 93 args).run Tryd.prog w = ((Extern.BytealgIndexByte.indexByte args).run Tryd.prog w).andThen fun v w' => .ok (.value v) w' :=
  run_callFunc_extern Tryd.func93 (by kernel_rfl) (by kernel_rfl) (by kernel_rfl) (e := Extern.BytealgIndexByte.indexByte) (by kernel_rfl) args w

theorem indexByte_any (s : ByteArray) (c : UInt8) (w : World) :
    Calls Tryd.prog 88 #[.string s, .int .u8 (c.toNat : Int)] w fun e w' => e = .returned (.int .i64 (Lib.indexByte s.data.toList c)) ∧ w = w' := by
  have hc : ((c.toNat : Int).toNat).toUInt8 = c := by simp
  go_enter Tryd.func88, Tryd.ntmps88
  go_wp2
  rw [run_idx, Lib.run_indexByteString, hc]
  simp only [Result.andThen]
  rw [Oper.upon_value]
  go_wp2
  go_ret
  exact ⟨rfl, rfl⟩

theorem eq_text_ne {s : ByteArray} (h : s ≠ ⟨#[61]⟩) : (([61] : List UInt8) == s.toList) = false := by
  rw [beq_eq_false_iff_ne, ByteArray.toList_eq]; intro e; apply h
  cases s with
  | mk d => cases d with
    | mk l => simp at e; subst e; rfl

set_option maxHeartbeats 1000000 in
theorem index_any (s : ByteArray) (w : World) :
    Calls Tryd.prog 84 #[.string s, .string ⟨#[61]⟩] w fun e w' => e = .returned (.int .i64 (Lib.indexByte s.data.toList 61)) ∧ w = w' := by
  by_cases he : s = ⟨#[61]⟩
  · have h1 : (([61] : List UInt8) == s.toList) = true := by rw [he]; simp
    have HV := Lib.hid (show Lib.indexByte s.data.toList 61 = 0 from by rw [he]; rfl)
    clear he
    go_enter Tryd.func84, Tryd.ntmps84
    go_wp2_with fail
    go_ret
    exact ⟨by rw [HV.out]; rfl, rfl⟩
  · have h1 := eq_text_ne he
    clear he
    go_enter Tryd.func84, Tryd.ntmps84
    go_wp2_with fail
    refine (indexByte_any s 61 _).mono ?_
    rintro e w' ⟨rfl, rfl⟩
    go_wp2_with fail
    go_ret
    exact ⟨rfl, rfl⟩

/-- What Cut at "=" answers. -/
def cutVal (s : ByteArray) : Value :=
  if eqIdx s.data.toList < s.size then .tuple #[.string (s.extract 0 (eqIdx s.data.toList)), .string (s.extract (eqIdx s.data.toList + 1) s.size), .bool true]
  else .tuple #[.string s, .string ⟨#[]⟩, .bool false]

set_option maxHeartbeats 1000000 in
theorem cutLite_any (s : ByteArray) (w : World) (hs : s.size ≤ maxLen) :
    Calls Tryd.prog 70 #[.string s, .string ⟨#[61]⟩] w fun e w' => e = .returned (cutVal s) ∧ ∃ n, w' = w.drewN n := by
  unfold maxLen at hs
  have hlen : s.data.toList.length = s.size := by simp
  obtain ⟨k, hk⟩ : ∃ k, k = eqIdx s.data.toList := ⟨_, rfl⟩
  by_cases h : k < s.size
  · have HV := Lib.hid (show cutVal s = .tuple #[.string (s.extract 0 k), .string (s.extract (k + 1) s.size), .bool true] from by unfold cutVal; rw [← hk, if_pos h])
    have HI := Lib.hid (show Lib.indexByte s.data.toList 61 = (k : Int) from by rw [indexByte_eq, ← hk, if_pos (by omega)])
    clear hk hlen
    go_enter Tryd.func70, Tryd.ntmps70
    go_wp2_with fail
    refine (index_any s _).mono ?_
    rintro e w' ⟨rfl, rfl⟩
    rw [HI.out]
    go_wp2_with fail
    go_quiet (fail)
    go_wp2_with fail
    go_ret3
    exact ⟨by rw [HV.out]; rfl, _, rfl⟩
  · have HV := Lib.hid (show cutVal s = .tuple #[.string s, .string ⟨#[]⟩, .bool false] from by unfold cutVal; rw [← hk, if_neg h])
    have HI := Lib.hid (show Lib.indexByte s.data.toList 61 = -1 from by rw [indexByte_eq, ← hk, if_neg (by omega)])
    clear hk hlen
    go_enter Tryd.func70, Tryd.ntmps70
    go_wp2_with fail
    refine (index_any s _).mono ?_
    rintro e w' ⟨rfl, rfl⟩
    rw [HI.out]
    go_wp2_with fail
    go_ret3
    exact ⟨by rw [HV.out]; rfl, 0, rfl⟩
end Go.Proofs.YtjbdgndejbiikaaDoor.Tk
/-
  strings.Clone: what it returns. Condition: a text of at most 2^47 bytes.
-/
namespace Go.Proofs.YtjbdgndejbiikaaDoor.Tk
open Go.RowKit

theorem infoByte : (Tryd.prog.info? 5).map (fun i => (i.zero, i.size, i.bytes)) = some (some (.int .u8 0), 1, 1) := by kernel_rfl
theorem infoByteSize : (Tryd.prog.info? 5).map (·.size) = some 1 := by kernel_rfl
theorem cellsByte : Tryd.prog.cellsOf 5 = 1 := by kernel_rfl

/-- What Clone does to memory: a new row, the bytes copied over, the row frozen. -/
theorem clone_runs (s : ByteArray) (w : World) (h0 : 0 < s.size) (hs : s.size ≤ 140737488355328) : ∃ (M : Array Value) (W2 W3 : World),
    (Instr.makeSlice 77 (.int .i64 (s.size : Int)) (.int .i64 (s.size : Int))).run Tryd.prog w = .ok (.slice (some ⟨w.heap.size, 0, none⟩) s.size s.size) (w.alloc (.cells M 5)) ∧
    (∀ ty, (Builtin.copy_ #[77, 9] ty #[.slice (some ⟨w.heap.size, 0, none⟩) s.size s.size, .string s]).run Tryd.prog (w.alloc (.cells M 5)) = .ok (goInt s.size) W2) ∧
    (∀ ty, (Builtin.unsafeString_ #[107, 3] ty #[.pointer (some ⟨w.heap.size, 0, none⟩), .int .i64 (s.size : Int)]).run Tryd.prog W2 = .ok (.string s) W3) ∧
    Below w.heap.size w W3 := by
  obtain ⟨i0, hi, hz0, hz1, hz2⟩ := info_parts infoByte
  have hlen : s.data.toList.length = s.size := by simp
  have hmk := run_make (P := Tryd.prog) w 77 5 i0 (.int .u8 0) Tryd.underlying77 hi hz0 .i64 .i64 (s.size : Int) (s.size : Int) (by omega) (by omega) (by rw [hz2]; omega) (by omega)
  rw [hz1, Int.toNat_natCast, Nat.mul_one] at hmk
  obtain ⟨M, hM⟩ : ∃ M, M = madeCells (Value.int .u8 0).cells s.size := ⟨_, rfl⟩
  have hMs : M.size = s.size := by rw [hM, size_madeCells]
  rw [← hM] at hmk
  have hg : (w.alloc (.cells M 5)).heap[w.heap.size]? = some (.cells M 5 (0, 0)) := by show (w.heap.push _)[w.heap.size]? = _; simp
  have hcp := fun ty => Lib.run_copy_row_string (P := Tryd.prog) (w.alloc (.cells M 5)) 77 9 ty 5 w.heap.size 0 s.size s.size s M 5 Tryd.underlying77 infoByteSize hg (Nat.le_refl _) (by omega)
  have hR : (M.toList.take 0 ++ Lib.byteCells s.data.toList ++ M.toList.drop (0 + s.size)).toArray = (Lib.byteCells s.data.toList).toArray := by
    rw [List.take_zero, List.nil_append, List.drop_eq_nil_of_le (by simp; omega), List.append_nil]
  rw [hR] at hcp
  have hb2 : Below w.heap.size w ((w.alloc (.cells M 5)).setRow w.heap.size (Lib.byteCells s.data.toList).toArray) :=
    below_setRow ((Below.refl _ _).alloc (Nat.le_refl _) _) (Nat.le_refl _) _
  have hg2 := setRow_heap (w.alloc (.cells M 5)) w.heap.size M (Lib.byteCells s.data.toList).toArray 5 (0, 0) hg
  have hus := fun ty => Lib.run_unsafeString_row (P := Tryd.prog) (w := (w.alloc (.cells M 5)).setRow w.heap.size (Lib.byteCells s.data.toList).toArray) 107 3 ty 5 Tryd.underlying107 cellsByte w.heap.size s.size
    (by unfold World.shape?; rw [hg2]; simp [Lib.byteCells]) s.data.toList (by intro e; rw [e] at hlen; simp at hlen; omega) (by omega) (by omega) (by
      intro j x hx
      rw [Addr.add_lit, Nat.zero_add]
      have hj : j < s.data.toList.length := (List.getElem?_eq_some_iff.1 hx).1
      simp only [World.cell?, hg2]
      simp [Lib.byteCells, hx])
  rw [hlen] at hus
  exact ⟨M, _, _, hmk, hcp, fun ty => hus ty, Lib.below_freeze hb2 (Nat.le_refl _) _⟩

set_option maxHeartbeats 1000000 in
theorem cloneLite_any (s : ByteArray) (w : World) (hs : s.size ≤ 140737488355328) :
    Calls Tryd.prog 52 #[.string s] w fun e w' => e = .returned (.string s) ∧ Below w.heap.size w w' := by
  by_cases h0 : s.size = 0
  · have h1 : ((s.size : Int) == 0) = true := by rw [h0]; rfl
    have HE := Lib.hid (show s = ⟨#[]⟩ from by
      have := nil_of_size h0
      cases s with
      | mk d => cases d with
        | mk l => simp at this; subst this; rfl)
    clear h0
    go_enter Tryd.func52, Tryd.ntmps52
    go_wp2_with fail
    go_ret
    exact ⟨by rw [HE.out]; rfl, Below.refl _ _⟩
  · have h1 : ((s.size : Int) == 0) = false := beq_eq_false_iff_ne.2 (by omega)
    have hp : 0 < s.size := by omega
    obtain ⟨M, W2, W3, hmk, hcp, hus, hb⟩ := clone_runs s w hp hs
    clear h0
    go_enter Tryd.func52, Tryd.ntmps52
    go_wp2_with fail
    go_ret
    exact ⟨rfl, hb⟩

theorem clone_any (s : ByteArray) (w : World) (hs : s.size ≤ 140737488355328) :
    Calls Tryd.prog 37 #[.string s] w fun e w' => e = .returned (.string s) ∧ Below w.heap.size w w' := by
  go_enter Tryd.func37, Tryd.ntmps37
  go_wp2_with fail
  refine (cloneLite_any s _ hs).mono ?_
  rintro e w' ⟨rfl, hb⟩
  go_wp2_with fail
  go_ret
  exact ⟨rfl, hb⟩
end Go.Proofs.YtjbdgndejbiikaaDoor.Tk
/-
  strings.Cut at "=": what it returns. Condition: a text of at most 2^47 bytes.
-/
namespace Go.Proofs.YtjbdgndejbiikaaDoor.Tk
open Go.RowKit

theorem cut_any (s : ByteArray) (w : World) (hs : s.size ≤ maxLen) :
    Calls Tryd.prog 59 #[.string s, .string ⟨#[61]⟩] w fun e w' => e = .returned (cutVal s) ∧ ∃ n, w' = w.drewN n := by
  obtain ⟨a, b, c, hv⟩ : ∃ a b c, cutVal s = .tuple #[.string a, .string b, .bool c] := by
    unfold cutVal; split
    · exact ⟨_, _, _, rfl⟩
    · exact ⟨_, _, _, rfl⟩
  have HV := Lib.hid hv
  clear hv
  go_enter Tryd.func59, Tryd.ntmps59
  go_wp2_with fail
  refine (cutLite_any s _ hs).mono ?_
  rintro e w' ⟨rfl, n, hw⟩
  have HW := Lib.hid hw
  clear hw
  rw [HV.out]
  go_wp2_with fail
  go_ret3
  exact ⟨by rw [HV.out]; rfl, n, HW.out⟩
end Go.Proofs.YtjbdgndejbiikaaDoor.Tk
