/-
  field.isField: what it returns. Conditions: texts that a string can hold; the table of token bytes.
-/
import Derived.Test.YtoofdompafkddaaDoorRows
import Derived.Test.YtoofdompafkddaaDoorFdMath
import Derived.Test.YtoofdompafkddaaDoorFdCut
import Derived.Test.YtoofdompafkddaaDoorFdKit
import Derived.Test.YtoofdompafkddaaDoorTokIs
import Derived.Test.YtoofdompafkddaaDoorTokValue
import Derived.Test.YtoofdompafkddaaDoorTokCloneA
import Derived.WalkKit
import Derived.WalkLawsBesides
import Derived.WalkSpells
import Derived.Outline
import Derived.Lib.Hide
import Derived.Laws.ResultCell
import Derived.Laws.Rows
namespace Go.Proofs.YtoofdompafkddaaDoor.Fd
open Go.RowKit Tk
set_option linter.unusedVariables false

/-- A field as the model has it. -/
def FV (n v : ByteArray) : Value := .agg #[.string n, .string v]
def isFld (n v : Bs) : Bool := isTok n && isVal v

set_option maxHeartbeats 1000000 in
theorem isField_any (n v : ByteArray) (w : World) (hn : n.size ≤ maxLen) (hv : v.size ≤ maxLen) (hT : Tab w) :
    Calls Tryd.prog 129 #[.agg #[.string n, .string v]] w fun e w' => e = .returned (.bool (isFld n.data.toList v.data.toList)) ∧ Below w.heap.size w w' := by
  have HT := Lib.hid (hT.below ((Below.refl w.heap.size w).alloc (Nat.le_refl _) (.cells #[.string n, .string v] 56)) hT.lt)
  clear hT
  cases hh : isTok n.data.toList with
  | true =>
    have HH := Lib.hid hh
    have HV := Lib.hid (show isFld n.data.toList v.data.toList = isVal v.data.toList from by unfold isFld; rw [hh]; rfl)
    clear hh
    go_enter Tryd.func129, Tryd.ntmps129
    go_wp2_with fail
    refine (is_any n _ hn HT.out).mono ?_
    rintro e w1 ⟨rfl, rfl⟩
    rw [HH.out]
    go_wp2_with fail
    refine (value_any v _ hv).mono ?_
    rintro e w2 ⟨rfl, rfl⟩
    go_wp2_with fail
    go_ret
    exact ⟨by rw [HV.out]; rfl, (Below.refl _ _).alloc (Nat.le_refl _) _⟩
  | false =>
    have HH := Lib.hid hh
    have HV := Lib.hid (show isFld n.data.toList v.data.toList = false from by unfold isFld; rw [hh]; rfl)
    clear hh
    go_enter Tryd.func129, Tryd.ntmps129
    go_wp2_with fail
    refine (is_any n _ hn HT.out).mono ?_
    rintro e w1 ⟨rfl, rfl⟩
    rw [HH.out]
    go_wp2_with fail
    go_ret
    exact ⟨by rw [HV.out]; rfl, (Below.refl _ _).alloc (Nat.le_refl _) _⟩

end Go.Proofs.YtoofdompafkddaaDoor.Fd
