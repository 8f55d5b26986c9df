/-
  ranges.told and its closure, isLong, and the answer of a Want's span as a value. No condition.
-/
import Derived.Test.YthhnpdihgoiccaaDoorRgMath
import Derived.Test.YthhnpdihgoiccaaDoorSpBase
import Derived.Deep.RegionWith
import Derived.Laws.EntriesVeiled
import Derived.Laws.ResultCell
namespace Go.Proofs.YthhnpdihgoiccaaDoor.Rn
open Go.RowKit Go.Proofs.YthhnpdihgoiccaaDoor.Fd Go.Proofs.YthhnpdihgoiccaaDoor.Sn Go.Proofs.YthhnpdihgoiccaaDoor.Rm
set_option maxRecDepth 100000
set_option linter.unusedVariables false

def endB (n : Int) : Bool := decide (-1 ≤ n ∧ n ≤ 1099511627776)
theorem end_any (n : Int) (w : World) : Calls Tryd.prog 26 #[.int .i64 n] w fun e w' => e = .returned (.bool (endB n)) ∧ w = w' := by
  by_cases h1 : -1 ≤ n
  · by_cases h2 : n ≤ 1099511627776
    · have HR := Lib.hid (show endB n = true from by simp [endB, h1, h2])
      go_enter Tryd.func26, Tryd.ntmps26
      go_wp2_with fail
      go_ret
      exact ⟨by rw [HR.out]; rfl, rfl⟩
    · have HR := Lib.hid (show endB n = false from by simp [endB, h2])
      go_enter Tryd.func26, Tryd.ntmps26
      go_wp2_with fail
      go_ret
      exact ⟨by rw [HR.out]; rfl, rfl⟩
  · have HR := Lib.hid (show endB n = false from by simp [endB, h1])
    go_enter Tryd.func26, Tryd.ntmps26
    go_wp2_with fail
    go_ret
    exact ⟨by rw [HR.out]; rfl, rfl⟩
def longB (n : Int) : Bool := decide (0 ≤ n ∧ n ≤ 1048576)
theorem long_any (n : Int) (w : World) : Calls Tryd.prog 19 #[.int .i64 n] w fun e w' => e = .returned (.bool (longB n)) ∧ w = w' := by
  by_cases h1 : 0 ≤ n
  · by_cases h2 : n ≤ 1048576
    · have HR := Lib.hid (show longB n = true from by simp [longB, h1, h2])
      go_enter Tryd.func19, Tryd.ntmps19
      go_wp2_with fail
      go_ret
      exact ⟨by rw [HR.out]; rfl, rfl⟩
    · have HR := Lib.hid (show longB n = false from by simp [longB, h2])
      go_enter Tryd.func19, Tryd.ntmps19
      go_wp2_with fail
      go_ret
      exact ⟨by rw [HR.out]; rfl, rfl⟩
  · have HR := Lib.hid (show longB n = false from by simp [longB, h1])
    go_enter Tryd.func19, Tryd.ntmps19
    go_wp2_with fail
    go_ret
    exact ⟨by rw [HR.out]; rfl, rfl⟩
theorem fine_ends {x y : Int} : fine (x, y) = (decide (¬ (x = -1 ∧ y = -1)) && endB x && endB y && (decide (y = -1) || decide (x ≤ y))) := by
  unfold fine endB
  rw [Bool.eq_iff_iff]
  simp only [Bool.and_eq_true, Bool.or_eq_true, decide_eq_true_iff]
  have e : mostT = 1099511627776 := rfl
  omega
set_option maxHeartbeats 2000000 in
theorem told_any (x y : Int) (w : World) :
    Calls Tryd.prog 20 #[.agg #[.int .i64 x, .int .i64 y]] w fun e w' => e = .returned (.bool (fine (x, y))) ∧ Below w.heap.size w w' := by
  have HB := Lib.hid ((Below.refl w.heap.size w).alloc (Nat.le_refl _) (.cells #[.int .i64 x, .int .i64 y] 32))
  have HF := Lib.hid (fine_ends (x := x) (y := y))
  obtain ⟨bx, hx⟩ : ∃ b, endB x = b := ⟨_, rfl⟩
  obtain ⟨b2, hy⟩ : ∃ b, endB y = b := ⟨_, rfl⟩
  have HX := Lib.hid hx
  have HY := Lib.hid hy
  have H1 := Lib.hid (show endB (-1) = true from rfl)
  clear hx hy
  cases bx <;> cases b2
  all_goals
    go_enter Tryd.func20, Tryd.ntmps20
    go_wp2_with (go_at_call 26; refine (end_any _ _).mono ?_; rintro e w' ⟨rfl, rfl⟩; first | rw [HX.out] | rw [HY.out] | rw [H1.out])
    all_goals
      go_ret
      refine ⟨?_, ?_⟩
      · rw [HF.out, HX.out, HY.out]; first | (simp [*]; done) | (exfalso; have h3 := HX.out; rw [show x = -1 from by assumption] at h3; cases h3) | (exfalso; have h3 := HY.out; rw [show y = -1 from by assumption] at h3; cases h3)
      · subst_vars; exact HB.out
end Go.Proofs.YthhnpdihgoiccaaDoor.Rn
