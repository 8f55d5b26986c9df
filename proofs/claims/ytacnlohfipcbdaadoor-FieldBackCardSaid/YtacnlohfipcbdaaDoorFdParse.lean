/-
  field.isField, Line and Parse: what each returns. Conditions: texts of at most 2^46 bytes; the table of token bytes.
-/
import Derived.Test.YtacnlohfipcbdaaDoorRows
import Derived.Test.YtacnlohfipcbdaaDoorFdMath
import Derived.Test.YtacnlohfipcbdaaDoorFdCut
import Derived.Test.YtacnlohfipcbdaaDoorFdKit
import Derived.Test.YtacnlohfipcbdaaDoorTokIs
import Derived.Test.YtacnlohfipcbdaaDoorTokValue
import Derived.Test.YtacnlohfipcbdaaDoorTokCloneA
import Derived.WalkKit
import Derived.WalkLawsBesides
import Derived.WalkSpells
import Derived.Outline
import Derived.Lib.Hide
import Derived.Laws.ResultCell
import Derived.Laws.Rows
namespace Go.Proofs.YtacnlohfipcbdaaDoor.Fd
open Go.RowKit Tk
set_option linter.unusedVariables false

/-- A field as the model has it. -/
def FV (n v : ByteArray) : Value := .agg #[.string n, .string v]
def isFld (n v : Bs) : Bool := isTok n && isVal v

set_option maxHeartbeats 1000000 in
theorem isField_any (n v : ByteArray) (w : World) (hn : n.size ≤ maxLen) (hv : v.size ≤ maxLen) (hT : Tab w) :
    Calls Tryd.prog 30 #[.agg #[.string n, .string v]] w fun e w' => e = .returned (.bool (isFld n.data.toList v.data.toList)) ∧ Below w.heap.size w w' := by
  have HT := Lib.hid (hT.below ((Below.refl w.heap.size w).alloc (Nat.le_refl _) (.cells #[.string n, .string v] 23)) hT.lt)
  clear hT
  cases hh : isTok n.data.toList with
  | true =>
    have HH := Lib.hid hh
    have HV := Lib.hid (show isFld n.data.toList v.data.toList = isVal v.data.toList from by unfold isFld; rw [hh]; rfl)
    clear hh
    go_enter Tryd.func30, Tryd.ntmps30
    go_wp2_with fail
    refine (is_any n _ hn HT.out).mono ?_
    rintro e w1 ⟨rfl, rfl⟩
    rw [HH.out]
    go_wp2_with fail
    refine (value_any v _ hv).mono ?_
    rintro e w2 ⟨rfl, rfl⟩
    go_wp2_with fail
    go_ret
    exact ⟨by rw [HV.out]; rfl, (Below.refl _ _).alloc (Nat.le_refl _) _⟩
  | false =>
    have HH := Lib.hid hh
    have HV := Lib.hid (show isFld n.data.toList v.data.toList = false from by unfold isFld; rw [hh]; rfl)
    clear hh
    go_enter Tryd.func30, Tryd.ntmps30
    go_wp2_with fail
    refine (is_any n _ hn HT.out).mono ?_
    rintro e w1 ⟨rfl, rfl⟩
    rw [HH.out]
    go_wp2_with fail
    go_ret
    exact ⟨by rw [HV.out]; rfl, (Below.refl _ _).alloc (Nat.le_refl _) _⟩

/-- What Line answers. -/
def lineVal (n v : ByteArray) : Value :=
  if isFld n.data.toList v.data.toList then .tuple #[.string (n ++ ⟨#[58, 32]⟩ ++ v), .int .i64 0] else .tuple #[.string ⟨#[]⟩, .int .i64 31]

theorem lineVal_yes {n v : ByteArray} (h : isFld n.data.toList v.data.toList = true) : lineVal n v = .tuple #[.string (n ++ ⟨#[58, 32]⟩ ++ v), .int .i64 0] := by unfold lineVal; rw [h, if_pos rfl]
theorem lineVal_no {n v : ByteArray} (h : isFld n.data.toList v.data.toList = false) : lineVal n v = .tuple #[.string ⟨#[]⟩, .int .i64 31] := by unfold lineVal; rw [h, if_neg (by simp)]

set_option maxHeartbeats 1000000 in
theorem line_any (n v : ByteArray) (w : World) (hn : n.size ≤ 70368744177664) (hv : v.size ≤ 70368744177664) (hT : Tab w) :
    Calls Tryd.prog 11 #[.agg #[.string n, .string v]] w fun e w' => e = .returned (lineVal n v) ∧ Below w.heap.size w w' := by
  have HT := Lib.hid (hT.below ((Below.refl w.heap.size w).alloc (Nat.le_refl _) (.cells #[.string n, .string v] 23)) hT.lt)
  clear hT
  cases hh : isFld n.data.toList v.data.toList with
  | true =>
    have HH := Lib.hid hh
    have HV := Lib.hid (lineVal_yes hh)
    clear hh
    go_enter Tryd.func11, Tryd.ntmps11
    go_wp2_with fail
    refine (isField_any n v _ (by unfold maxLen; omega) (by unfold maxLen; omega) HT.out).mono ?_
    rintro e w1 ⟨rfl, hb1⟩
    rw [HH.out]
    have c0 := hb1.cell (p := ⟨w.heap.size, 0, none⟩) (by simp)
    have c1 := hb1.cell (p := ⟨w.heap.size, 1, none⟩) (by simp)
    go_wp2_with fail
    go_ret2
    exact ⟨by rw [HV.out]; rfl, ((Below.refl _ _).alloc (Nat.le_refl _) _).trans (hb1.mono (by simp))⟩
  | false =>
    have HH := Lib.hid hh
    have HV := Lib.hid (lineVal_no hh)
    clear hh
    go_enter Tryd.func11, Tryd.ntmps11
    go_wp2_with fail
    refine (isField_any n v _ (by unfold maxLen; omega) (by unfold maxLen; omega) HT.out).mono ?_
    rintro e w1 ⟨rfl, hb1⟩
    rw [HH.out]
    go_wp2_with fail
    go_ret2
    exact ⟨by rw [HV.out]; rfl, ((Below.refl _ _).alloc (Nat.le_refl _) _).trans (hb1.mono (by simp))⟩
end Go.Proofs.YtacnlohfipcbdaaDoor.Fd
