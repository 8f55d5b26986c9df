/-
  strings.Clone: what it returns. Condition: a text of at most 2^47 bytes.
-/
import Derived.Test.YtledjiikpajdaaaRows
import Derived.Test.YtledjiikpajdaaaTokIsMath
import Derived.WalkKit
import Derived.WalkLawsBesides
import Derived.WalkSpells
import Derived.Outline
import Derived.Lib.Hide
import Derived.Lib.Bytealg
import Derived.Lib.BufferWrite
import Derived.Lib.UnsafeStr
import Derived.Laws.CopyOwn
namespace Go.Proofs.Ytledjiikpajdaaa.Tk
open Go.RowKit

theorem infoByte : (Try.prog.info? 5).map (fun i => (i.zero, i.size, i.bytes)) = some (some (.int .u8 0), 1, 1) := by kernel_rfl
theorem infoByteSize : (Try.prog.info? 5).map (·.size) = some 1 := by kernel_rfl
theorem cellsByte : Try.prog.cellsOf 5 = 1 := by kernel_rfl

/-- What Clone does to memory: a new row, the bytes copied over, the row frozen. -/
theorem clone_runs (s : ByteArray) (w : World) (h0 : 0 < s.size) (hs : s.size ≤ 140737488355328) : ∃ (M : Array Value) (W2 W3 : World),
    (Instr.makeSlice 35 (.int .i64 (s.size : Int)) (.int .i64 (s.size : Int))).run Try.prog w = .ok (.slice (some ⟨w.heap.size, 0, none⟩) s.size s.size) (w.alloc (.cells M 5)) ∧
    (∀ ty, (Builtin.copy_ #[35, 9] ty #[.slice (some ⟨w.heap.size, 0, none⟩) s.size s.size, .string s]).run Try.prog (w.alloc (.cells M 5)) = .ok (goInt s.size) W2) ∧
    (∀ ty, (Builtin.unsafeString_ #[36, 3] ty #[.pointer (some ⟨w.heap.size, 0, none⟩), .int .i64 (s.size : Int)]).run Try.prog W2 = .ok (.string s) W3) ∧
    Below w.heap.size w W3 := by
  obtain ⟨i0, hi, hz0, hz1, hz2⟩ := info_parts infoByte
  have hlen : s.data.toList.length = s.size := by simp
  have hmk := run_make (P := Try.prog) w 35 5 i0 (.int .u8 0) Try.underlying35 hi hz0 .i64 .i64 (s.size : Int) (s.size : Int) (by omega) (by omega) (by rw [hz2]; omega) (by omega)
  rw [hz1, Int.toNat_natCast, Nat.mul_one] at hmk
  obtain ⟨M, hM⟩ : ∃ M, M = madeCells (Value.int .u8 0).cells s.size := ⟨_, rfl⟩
  have hMs : M.size = s.size := by rw [hM, size_madeCells]
  rw [← hM] at hmk
  have hg : (w.alloc (.cells M 5)).heap[w.heap.size]? = some (.cells M 5 (0, 0)) := by show (w.heap.push _)[w.heap.size]? = _; simp
  have hcp := fun ty => Lib.run_copy_row_string (P := Try.prog) (w.alloc (.cells M 5)) 35 9 ty 5 w.heap.size 0 s.size s.size s M 5 Try.underlying35 infoByteSize hg (Nat.le_refl _) (by omega)
  have hR : (M.toList.take 0 ++ Lib.byteCells s.data.toList ++ M.toList.drop (0 + s.size)).toArray = (Lib.byteCells s.data.toList).toArray := by
    rw [List.take_zero, List.nil_append, List.drop_eq_nil_of_le (by simp; omega), List.append_nil]
  rw [hR] at hcp
  have hb2 : Below w.heap.size w ((w.alloc (.cells M 5)).setRow w.heap.size (Lib.byteCells s.data.toList).toArray) :=
    below_setRow ((Below.refl _ _).alloc (Nat.le_refl _) _) (Nat.le_refl _) _
  have hg2 := setRow_heap (w.alloc (.cells M 5)) w.heap.size M (Lib.byteCells s.data.toList).toArray 5 (0, 0) hg
  have hus := fun ty => Lib.run_unsafeString_row (P := Try.prog) (w := (w.alloc (.cells M 5)).setRow w.heap.size (Lib.byteCells s.data.toList).toArray) 36 3 ty 5 Try.underlying36 cellsByte w.heap.size s.size
    (by unfold World.shape?; rw [hg2]; simp [Lib.byteCells]) s.data.toList (by intro e; rw [e] at hlen; simp at hlen; omega) (by omega) (by omega) (by
      intro j x hx
      rw [Addr.add_lit, Nat.zero_add]
      have hj : j < s.data.toList.length := (List.getElem?_eq_some_iff.1 hx).1
      simp only [World.cell?, hg2]
      simp [Lib.byteCells, hx])
  rw [hlen] at hus
  exact ⟨M, _, _, hmk, hcp, fun ty => hus ty, Lib.below_freeze hb2 (Nat.le_refl _) _⟩

set_option maxHeartbeats 1000000 in
theorem cloneLite_any (s : ByteArray) (w : World) (hs : s.size ≤ 140737488355328) :
    Calls Try.prog 15 #[.string s] w fun e w' => e = .returned (.string s) ∧ Below w.heap.size w w' := by
  by_cases h0 : s.size = 0
  · have h1 : ((s.size : Int) == 0) = true := by rw [h0]; rfl
    have HE := Lib.hid (show s = ⟨#[]⟩ from by
      have := nil_of_size h0
      cases s with
      | mk d => cases d with
        | mk l => simp at this; subst this; rfl)
    clear h0
    go_enter Try.func15, Try.ntmps15
    go_wp2_with fail
    go_ret
    exact ⟨by rw [HE.out]; rfl, Below.refl _ _⟩
  · have h1 : ((s.size : Int) == 0) = false := beq_eq_false_iff_ne.2 (by omega)
    have hp : 0 < s.size := by omega
    obtain ⟨M, W2, W3, hmk, hcp, hus, hb⟩ := clone_runs s w hp hs
    clear h0
    go_enter Try.func15, Try.ntmps15
    go_wp2_with fail
    go_ret
    exact ⟨rfl, hb⟩

theorem clone_any (s : ByteArray) (w : World) (hs : s.size ≤ 140737488355328) :
    Calls Try.prog 12 #[.string s] w fun e w' => e = .returned (.string s) ∧ Below w.heap.size w w' := by
  go_enter Try.func12, Try.ntmps12
  go_wp2_with fail
  refine (cloneLite_any s _ hs).mono ?_
  rintro e w' ⟨rfl, hb⟩
  go_wp2_with fail
  go_ret
  exact ⟨rfl, hb⟩
end Go.Proofs.Ytledjiikpajdaaa.Tk
