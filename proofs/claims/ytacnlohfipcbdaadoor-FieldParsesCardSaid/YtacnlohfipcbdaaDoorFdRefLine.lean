/-
  gatepostref04.Line: what it returns. Conditions: texts of at most 2^46 bytes.
-/
import Derived.Test.YtacnlohfipcbdaaDoorFdParse
namespace Go.Proofs.YtacnlohfipcbdaaDoor.Fd
open Go.RowKit Tk
set_option linter.unusedVariables false

set_option maxHeartbeats 1000000 in
theorem refLine_any (n v : ByteArray) (w : World) (hn : n.size ≤ 70368744177664) (hv : v.size ≤ 70368744177664) :
    Calls Tryd.prog 12 #[.agg #[.string n, .string v]] w fun e w' => e = .returned (lineVal n v) ∧ Below w.heap.size w w' := by
  cases h1 : isTok n.data.toList with
  | true =>
    cases h2 : isVal v.data.toList with
    | true =>
      have H1 := Lib.hid h1
      have H2 := Lib.hid h2
      have HV := Lib.hid (lineVal_yes (n := n) (v := v) (by unfold isFld; rw [h1, h2]; rfl))
      clear h1 h2
      go_enter Tryd.func12, Tryd.ntmps12
      go_wp2_with fail
      refine (refIs_any n _ (by unfold maxLen; omega)).mono ?_
      rintro e w1 ⟨rfl, rfl⟩
      rw [H1.out]
      go_wp2_with fail
      refine (refValue_any v _ (by unfold maxLen; omega)).mono ?_
      rintro e w2 ⟨rfl, rfl⟩
      rw [H2.out]
      go_wp2_with fail
      go_ret2
      exact ⟨by rw [HV.out]; rfl, (Below.refl _ _).alloc (Nat.le_refl _) _⟩
    | false =>
      have H1 := Lib.hid h1
      have H2 := Lib.hid h2
      have HV := Lib.hid (lineVal_no (n := n) (v := v) (by unfold isFld; rw [h1, h2]; rfl))
      clear h1 h2
      go_enter Tryd.func12, Tryd.ntmps12
      go_wp2_with fail
      refine (refIs_any n _ (by unfold maxLen; omega)).mono ?_
      rintro e w1 ⟨rfl, rfl⟩
      rw [H1.out]
      go_wp2_with fail
      refine (refValue_any v _ (by unfold maxLen; omega)).mono ?_
      rintro e w2 ⟨rfl, rfl⟩
      rw [H2.out]
      go_wp2_with fail
      go_ret2
      exact ⟨by rw [HV.out]; rfl, (Below.refl _ _).alloc (Nat.le_refl _) _⟩
  | false =>
    have H1 := Lib.hid h1
    have HV := Lib.hid (lineVal_no (n := n) (v := v) (by unfold isFld; rw [h1]; rfl))
    clear h1
    go_enter Tryd.func12, Tryd.ntmps12
    go_wp2_with fail
    refine (refIs_any n _ (by unfold maxLen; omega)).mono ?_
    rintro e w1 ⟨rfl, rfl⟩
    rw [H1.out]
    go_wp2_with fail
    go_ret2
    exact ⟨by rw [HV.out]; rfl, (Below.refl _ _).alloc (Nat.le_refl _) _⟩
end Go.Proofs.YtacnlohfipcbdaaDoor.Fd
