/-
  Masks; bytes made of a text. No condition.
-/
import Derived.Test.YtoofdompafkddaaDoorHdByts
import Derived.WalkKit
import Derived.WalkLawsBesides
import Derived.Lib.SlBytesConst
namespace Go.Proofs.YtoofdompafkddaaDoor.Hd
open Go.RowKit Go.Proofs.YtoofdompafkddaaDoor.Tk
set_option linter.unusedVariables false

theorem mask (a : Int) (m : Nat) (hm : m < 9223372036854775808) : 0 ≤ bits .and .i64 a (m : Int) ∧ bits .and .i64 a (m : Int) ≤ (m : Int) := by
  have h1 : (BitVec.ofInt 64 a &&& BitVec.ofInt 64 (m : Int)).toNat ≤ m := by
    rw [BitVec.toNat_and, BitVec.ofInt_natCast, BitVec.toNat_ofNat]
    exact Nat.le_trans Nat.and_le_right (Nat.mod_le _ _)
  have h2 : bits .and .i64 a (m : Int) = IntKind.i64.wrap ((BitVec.ofInt 64 a &&& BitVec.ofInt 64 (m : Int)).toNat : Int) := rfl
  rw [h2, IntKind.wrap_i64]
  omega
theorem mask_nat (a : Int) (m : Nat) (hm : m < 9223372036854775808) : ∃ r : Nat, bits .and .i64 a (m : Int) = (r : Int) ∧ r ≤ m := by
  obtain ⟨h0, h1⟩ := mask a m hm
  exact ⟨(bits .and .i64 a (m : Int)).toNat, by omega, by omega⟩
/-- What '[]byte(s)' lays. -/
theorem byts_new (w : World) (s : ByteArray) (c : Nat) (fr : Nat × Nat) (hc : s.size ≤ c) (hm : c ≤ maxLen) : Byts (w.drew.alloc (.cells (bytesRow s c) 5 fr)) (.slice (some ⟨w.heap.size, 0, none⟩) s.size c) s.data.toList := by
  have hl : s.data.toList.length = s.size := by simp
  refine .inr ⟨w.heap.size, 0, c, by rw [hl], by rw [hl]; exact hc, hm, by simp, ?_⟩
  exact Tk.holds_new w.drew s c _ fr
theorem run_bytes (W : World) (s : ByteArray) : (convert 9 22 (.string s)).run Tryd.prog W = .ok (.slice (some ⟨W.heap.size, 0, none⟩) s.size (grownCap W s.size 0 5))
      (W.drew.alloc (.cells (bytesRow s (grownCap W s.size 0 5)) 5 ((bytesRow s (grownCap W s.size 0 5)).size, (bytesRow s (grownCap W s.size 0 5)).size + 1))) :=
  run_bytes_of_string (P := Tryd.prog) W 9 22 5 s Tryd.underlying9 Tryd.underlying22 Tryd.underlying5
end Go.Proofs.YtoofdompafkddaaDoor.Hd
