/-
  One byte of a text, cut out as a text. No condition.
-/
import Derived.Test.YthhnpdihgoiccaaRows
import Derived.Test.YthhnpdihgoiccaaTokMath
import Derived.WalkKit
import Derived.WalkLawsBesides
namespace Go.Proofs.Ythhnpdihgoiccaa.Tk
open Go.RowKit

theorem one_byte (s : ByteArray) (k : Nat) (hk : k < s.size) : (s.extract k (k + 1)).data.toList = [s[k]] := by
  have h : k < s.data.toList.length := by simpa using hk
  simp [ByteArray.data_extract, List.drop_eq_getElem_cons h]
  rfl
set_option maxRecDepth 100000 in
theorem run_one (s : ByteArray) (k : Nat) (hk : k < s.size) (W : World) :
    (Instr.slice 9 (.string s) (some (.int .i64 (k : Int))) (some (.int .i64 ((k : Int) + 1))) none).run Try.prog W = .ok (.string (s.extract k (k + 1))) W := by
  have h := run_slice_string (P := Try.prog) W 9 s .i64 .i64 (k : Int) ((k : Int) + 1) Try.underlying9 (by omega) (by omega) (by omega)
  rw [h]
  have e : ((k : Int) + 1).toNat = k + 1 := by omega
  rw [e]; rfl
set_option maxRecDepth 100000 in
theorem run_two (s : ByteArray) (k : Nat) (hk : k + 1 < s.size) (W : World) :
    (Instr.slice 9 (.string s) (some (.int .i64 ((k : Int) + 1))) (some (.int .i64 ((k : Int) + 1 + 1))) none).run Try.prog W = .ok (.string (s.extract (k + 1) (k + 1 + 1))) W := by
  have h := run_one s (k + 1) hk W
  have e : (((k + 1 : Nat) : Int)) = (k : Int) + 1 := by omega
  rwa [e] at h
set_option maxRecDepth 100000 in
/-- A text's one byte, as a text. -/
theorem piece (s : ByteArray) (k : Nat) (hk : k < s.size) : ∃ E : ByteArray, E = s.extract k (k + 1) ∧ E.size = 1 ∧ ∀ X : ByteArray, (X ++ E).data.toList = X.data.toList ++ [s[k]] := by
  refine ⟨_, rfl, by simp; omega, fun X => ?_⟩
  have : (X ++ s.extract k (k + 1)).data.toList = X.data.toList ++ (s.extract k (k + 1)).data.toList := by simp
  rw [this, one_byte s k hk]
end Go.Proofs.Ythhnpdihgoiccaa.Tk
