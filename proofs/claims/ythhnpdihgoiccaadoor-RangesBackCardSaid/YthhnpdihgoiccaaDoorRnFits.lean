/-
  ranges.fits and gatepostref14.right: what they return. No condition.
-/
import Derived.Test.YthhnpdihgoiccaaDoorRnTold
import Derived.Test.YthhnpdihgoiccaaDoorRgBack
namespace Go.Proofs.YthhnpdihgoiccaaDoor.Rn
open Go.RowKit Go.Proofs.YthhnpdihgoiccaaDoor.Fd Go.Proofs.YthhnpdihgoiccaaDoor.Sn Go.Proofs.YthhnpdihgoiccaaDoor.Rm
set_option maxRecDepth 100000
set_option linter.unusedVariables false
set_option linter.unusedSimpArgs false

theorem right_iff {x y long : Int} : rightR (x, y) long = true ↔ -1 ≤ long ∧ long ≤ 1048576 ∧ 0 ≤ x ∧ x ≤ y ∧ y ≤ 1048576 ∧ (0 ≤ long → y ≤ long) ∧ (x < y ∨ 0 ≤ long) := by
  unfold rightR; rw [decide_eq_true_iff]; rfl
set_option maxHeartbeats 4000000 in
theorem fits_told (x y long : Int) (w : World) (hne : long ≠ -1) :
    Calls Tryd.prog 10 #[.agg #[.int .i64 x, .int .i64 y], .int .i64 long] w fun e w' => e = .returned (.bool (rightR (x, y) long)) ∧ Below w.heap.size w w' := by
  have HB := Lib.hid ((Below.refl w.heap.size w).alloc (Nat.le_refl _) (.cells #[.int .i64 x, .int .i64 y] 23))
  have h1 : (long == -1) = false := by rw [beq_eq_false_iff_ne]; exact hne
  by_cases hl : longB long = true
  · have HL := Lib.hid hl
    have hb := of_decide_eq_true hl
    have HR := Lib.hid (show rightR (x, y) long = (decide (0 ≤ x) && decide (x ≤ y) && decide (y ≤ long)) from by
      rw [Bool.eq_iff_iff, right_iff]; simp only [Bool.and_eq_true, decide_eq_true_iff]; omega)
    clear hl hb hne
    go_enter Tryd.func10, Tryd.ntmps10
    go_wp2_with (go_at_call 19; refine (long_any _ _).mono ?_; rintro e w' ⟨rfl, rfl⟩; rw [HL.out])
    all_goals
      go_ret
      refine ⟨?_, HB.out⟩
      rw [HR.out]; simp [*] <;> omega
  · have hl : longB long = false := Bool.eq_false_iff.2 hl
    have HL := Lib.hid hl
    have HR := Lib.hid (show rightR (x, y) long = false from by
      rw [Bool.eq_false_iff, ne_eq, right_iff]; have := of_decide_eq_false hl; omega)
    clear hl hne
    go_enter Tryd.func10, Tryd.ntmps10
    go_wp2_with (go_at_call 19; refine (long_any _ _).mono ?_; rintro e w' ⟨rfl, rfl⟩; rw [HL.out])
    go_ret
    exact ⟨by rw [HR.out]; rfl, HB.out⟩
set_option maxHeartbeats 4000000 in
theorem fits_any (x y long : Int) (w : World) :
    Calls Tryd.prog 10 #[.agg #[.int .i64 x, .int .i64 y], .int .i64 long] w fun e w' => e = .returned (.bool (rightR (x, y) long)) ∧ Below w.heap.size w w' := by
  by_cases hne : long = -1
  · subst hne
    have hb := (Below.refl w.heap.size w).alloc (Nat.le_refl _) (.cells #[.int .i64 x, .int .i64 y] 23)
    by_cases hxy : x < y
    · have HR := Lib.hid (show rightR (x, y) (-1) = rightR (x, y) 1048576 from by
        rw [Bool.eq_iff_iff, right_iff, right_iff]; omega)
      have HF := Lib.hid (fun V => fits_told x y 1048576 V (by decide))
      go_enter Tryd.func10, Tryd.ntmps10
      go_wp2_with fail
      refine (HF.out _).mono ?_
      rintro e w2 ⟨rfl, hb2⟩
      have HB2 := Lib.hid (Bl.next hb hb2)
      clear hb hb2
      go_wp2_with fail
      go_ret
      exact ⟨by rw [HR.out]; rfl, HB2.out⟩
    · have HR := Lib.hid (show rightR (x, y) (-1) = false from by
        rw [Bool.eq_false_iff, ne_eq, right_iff]; omega)
      go_enter Tryd.func10, Tryd.ntmps10
      go_wp2_with fail
      go_ret
      exact ⟨by rw [HR.out]; rfl, hb⟩
  · exact fits_told x y long w hne
set_option maxHeartbeats 8000000 in
theorem right_any (x y long : Int) (w : World) :
    Calls Tryd.prog 12 #[.agg #[.int .i64 x, .int .i64 y], .int .i64 long] w fun e w' => e = .returned (.bool (rightR (x, y) long)) ∧ Below w.heap.size w w' := by
  have HB := Lib.hid ((Below.refl w.heap.size w).alloc (Nat.le_refl _) (.cells #[.int .i64 x, .int .i64 y] 23))
  by_cases hbad : long < -1 ∨ 1048576 < long ∨ x < 0 ∨ y < x ∨ 1048576 < y ∨ (0 ≤ long ∧ long < y)
  · have HQ := Lib.hid hbad
    have HR := Lib.hid (show rightR (x, y) long = false from by rw [Bool.eq_false_iff, ne_eq, right_iff]; omega)
    clear hbad
    go_enter Tryd.func12, Tryd.ntmps12
    go_wp2_with fail
    all_goals first
      | (exfalso; have hq := HQ.out; omega)
      | (go_ret; exact ⟨by rw [HR.out]; rfl, HB.out⟩)
  · have a1 : ¬ long < -1 := by omega
    have a2 : ¬ 1048576 < long := by omega
    have a3 : ¬ x < 0 := by omega
    have a4 : ¬ y < x := by omega
    have a5 : ¬ 1048576 < y := by omega
    have HQ := Lib.hid hbad
    have HR := Lib.hid (show rightR (x, y) long = (decide (x < y) || decide (0 ≤ long)) from by
      rw [Bool.eq_iff_iff, right_iff]; simp only [Bool.or_eq_true, decide_eq_true_iff]; omega)
    clear hbad
    go_enter Tryd.func12, Tryd.ntmps12
    go_wp2_with fail
    all_goals first
      | (exfalso; have hq := HQ.out; omega)
      | (go_ret; refine ⟨?_, HB.out⟩; rw [HR.out]; simp [*] <;> omega)
end Go.Proofs.YthhnpdihgoiccaaDoor.Rn
