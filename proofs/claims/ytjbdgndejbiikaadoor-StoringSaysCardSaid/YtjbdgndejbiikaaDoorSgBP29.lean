/-
  Texts that the laws' proofs stand on, 3 of them in one file; each one's head says what it proves and under which condition.
-/
import Derived.Test.YtjbdgndejbiikaaDoorRows
import Derived.Test.YtjbdgndejbiikaaDoorSgBP1
import Derived.WalkKit
import Derived.WalkLawsBesides
import Derived.Test.YtjbdgndejbiikaaDoorSgBP22
import Derived.Test.YtjbdgndejbiikaaDoorSgBP2
import Derived.Test.YtjbdgndejbiikaaDoorSgBP26
import Derived.Test.YtjbdgndejbiikaaDoorSgBP28
/-
  One byte of a text, cut out as a text. No condition.
-/
namespace Go.Proofs.YtjbdgndejbiikaaDoor.Tk
open Go.RowKit

theorem one_byte (s : ByteArray) (k : Nat) (hk : k < s.size) : (s.extract k (k + 1)).data.toList = [s[k]] := by
  have h : k < s.data.toList.length := by simpa using hk
  simp [ByteArray.data_extract, List.drop_eq_getElem_cons h]
  rfl
set_option maxRecDepth 100000 in
theorem run_one (s : ByteArray) (k : Nat) (hk : k < s.size) (W : World) :
    (Instr.slice 9 (.string s) (some (.int .i64 (k : Int))) (some (.int .i64 ((k : Int) + 1))) none).run Tryd.prog W = .ok (.string (s.extract k (k + 1))) W := by
  have h := run_slice_string (P := Tryd.prog) W 9 s .i64 .i64 (k : Int) ((k : Int) + 1) Tryd.underlying9 (by omega) (by omega) (by omega)
  rw [h]
  have e : ((k : Int) + 1).toNat = k + 1 := by omega
  rw [e]; rfl
set_option maxRecDepth 100000 in
theorem run_two (s : ByteArray) (k : Nat) (hk : k + 1 < s.size) (W : World) :
    (Instr.slice 9 (.string s) (some (.int .i64 ((k : Int) + 1))) (some (.int .i64 ((k : Int) + 1 + 1))) none).run Tryd.prog W = .ok (.string (s.extract (k + 1) (k + 1 + 1))) W := by
  have h := run_one s (k + 1) hk W
  have e : (((k + 1 : Nat) : Int)) = (k : Int) + 1 := by omega
  rwa [e] at h
set_option maxRecDepth 100000 in
/-- A text's one byte, as a text. -/
theorem piece (s : ByteArray) (k : Nat) (hk : k < s.size) : ∃ E : ByteArray, E = s.extract k (k + 1) ∧ E.size = 1 ∧ ∀ X : ByteArray, (X ++ E).data.toList = X.data.toList ++ [s[k]] := by
  refine ⟨_, rfl, by simp; omega, fun X => ?_⟩
  have : (X ++ s.extract k (k + 1)).data.toList = X.data.toList ++ (s.extract k (k + 1)).data.toList := by simp
  rw [this, one_byte s k hk]
end Go.Proofs.YtjbdgndejbiikaaDoor.Tk
/-
  gatepostref01.Split: what it returns. Condition: a text of at most 2^32 bytes.
-/
-- cut by strips.py
namespace Go.Proofs.YtjbdgndejbiikaaDoor.Tk
open Go.RowKit

theorem get_eq (s : ByteArray) (k : Nat) (hk : k < s.size) : s.data.toList[k]'(by simpa using hk) = s[k] := rfl
theorem empty_text {T : ByteArray} {x : Bs} (h : T = ⟨x.toArray⟩) (hx : x = []) : T.toList = [] := by
  rw [ByteArray.toList_eq, h]; simpa using hx
theorem full_text {T : ByteArray} {x : Bs} (h : T = ⟨x.toArray⟩) (hx : x ≠ []) : T.toList.isEmpty = false := by
  rw [ByteArray.toList_eq, h]
  cases x with
  | nil => exact absurd rfl hx
  | cons => rfl

/-- What the loop of the reference's Split keeps. -/
def Kept (w : World) (s : ByteArray) (o ow q v : Value) (wr : World) : Prop :=
  ∃ (k : Nat) (ls : List Bs) (X : ByteArray) (qb : Bool), v = .int .i64 (k : Int) ∧ ow = .string X ∧ q = .bool qb ∧ k ≤ s.size ∧ X.size ≤ k ∧ ls.length ≤ k ∧
    wr.ownsRow w.heap.size 9 1 o ls.length (ls.map S) ∧ Below w.heap.size w wr ∧ Left s.data.toList ls qb X.data.toList k

end Go.Proofs.YtjbdgndejbiikaaDoor.Tk
/-
  gatepostref04.Names: what it returns. Conditions: fields of at most 2^20 bytes in all.
-/
-- cut by strips.py
namespace Go.Proofs.YtjbdgndejbiikaaDoor.Fd
open Go.RowKit Tk
set_option linter.unusedVariables false

theorem infoText : (Tryd.prog.info? 9).map (fun i => (i.zero, i.size, i.bytes)) = some (some (.string ⟨#[]⟩), 1, 16) := by kernel_rfl
theorem news_one {w : World} {g : Nat} {x : Value} {t : TypeId} (h : w.heap[g]? = some (.cells #[x] t (0, 0))) : ∀ j u, [x][j]? = some u → w.cell? ((⟨g, 0, none⟩ : Addr).add j) = some u := by
  intro j u hu
  match j, hu with
  | 0, hu =>
    simp at hu; subst hu
    show w.cell? ⟨g, 0, none⟩ = _
    rw [Lib.cell_of_heap h]; rfl
theorem one_text (x : ByteArray) : ∀ u ∈ [Value.string x], u.oneCell' = true := by intro u hu; simp at hu; subst hu; rfl
theorem lowers_next (ls : List Bs) (k : Nat) (h : k < ls.length) : (ls.take (k + 1)).map lower = (ls.take k).map lower ++ [lower ls[k]] := by rw [take_next ls k h, List.map_append]; rfl

end Go.Proofs.YtjbdgndejbiikaaDoor.Fd
