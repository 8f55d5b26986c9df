/-
  validator.Strong and Weak: what each returns of two tags. No condition.
-/
import Derived.Test.YtledjiikpajdaaaVdTag
namespace Go.Proofs.Ytledjiikpajdaaa.Vd
open Go.RowKit Go.Proofs.Ytledjiikpajdaaa.Tk Go.Proofs.Ytledjiikpajdaaa.Fd
set_option maxRecDepth 100000
set_option linter.unusedVariables false

theorem two_below (w : World) (cs ds : Array Value) (u v : TypeId) : Below w.heap.size w ((w.alloc (.cells cs u)).alloc (.cells ds v)) := ((Below.refl w.heap.size w).alloc (Nat.le_refl _) _).alloc (by simp) _
set_option maxHeartbeats 4000000 in
theorem weak_any (x y : Tag) (w : World) :
    Calls Try.prog 7 #[TV x, TV y] w fun e w' => e = .returned (.bool (weakT x y)) ∧ Below w.heap.size w w' := by
  obtain ⟨a, s⟩ := x
  obtain ⟨b, t⟩ := y
  unfold TV
  by_cases hs : s = t
  · subst hs
    go_enter Try.func7, Try.ntmps7
    go_wp2_with fail
    go_ret
    exact ⟨by rw [show weakT (a, s) (b, s) = true from by unfold weakT; simp]; rfl, two_below _ _ _ _ _⟩
  · go_enter Try.func7, Try.ntmps7
    go_wp2_with fail
    go_ret
    exact ⟨by rw [show weakT (a, s) (b, t) = false from by unfold weakT; simp [hs]]; rfl, two_below _ _ _ _ _⟩
set_option maxHeartbeats 4000000 in
theorem strong_any (x y : Tag) (w : World) :
    Calls Try.prog 8 #[TV x, TV y] w fun e w' => e = .returned (.bool (strongT x y)) ∧ Below w.heap.size w w' := by
  obtain ⟨a, s⟩ := x
  obtain ⟨b, t⟩ := y
  unfold TV
  by_cases hs : s = t
  · subst hs
    by_cases hb : a = b
    · subst hb
      go_enter Try.func8, Try.ntmps8
      go_wp2_with fail
      go_ret
      exact ⟨by rw [show strongT (a, s) (a, s) = !a from by unfold strongT; simp]; rfl, two_below _ _ _ _ _⟩
    · go_enter Try.func8, Try.ntmps8
      go_wp2_with fail
      go_ret
      exact ⟨by rw [show strongT (a, s) (b, s) = false from by unfold strongT; cases a <;> cases b <;> first | rfl | exact absurd rfl hb]; rfl, two_below _ _ _ _ _⟩
  · have HN := Lib.hid (show strongT (a, s) (b, t) = false from by unfold strongT; simp [hs])
    go_enter Try.func8, Try.ntmps8
    go_wp2_with fail
    all_goals
      go_ret
      exact ⟨by rw [HN.out]; rfl, two_below _ _ _ _ _⟩
end Go.Proofs.Ytledjiikpajdaaa.Vd
