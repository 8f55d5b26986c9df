/-
  fresh.start, guess, young, old: what each returns. No condition.
-/
import Derived.Test.YtbignmccpbccoaaDoorFhSt
import Derived.IntWalk
namespace Go.Proofs.YtbignmccpbccoaaDoor.Fh
open Go.RowKit Go.Proofs.YtbignmccpbccoaaDoor.Ct Go.Proofs.YtbignmccpbccoaaDoor.Fd
set_option linter.unusedVariables false

theorem bel_met (w : World) (m : Mta) : Below w.heap.size w (w.alloc (.cells (mcells m) 25)) := (Below.refl _ _).alloc (Nat.le_refl _) _
theorem bel_con (w : World) (c : Con) : Below w.heap.size w (w.alloc (.cells (cells c) 23)) := (Below.refl _ _).alloc (Nat.le_refl _) _
theorem bel_con2 (w : World) (c d : Con) : Below w.heap.size w ((w.alloc (.cells (cells c) 23)).alloc (.cells (cells d) 23)) := (bel_con w c).alloc (by simp) _
set_option maxRecDepth 100000 in
set_option maxHeartbeats 4000000 in
theorem start_any (m : Mta) (w : World) : Calls Tryd.prog 22 #[.agg (mcells m)] w fun e w' => e = .returned (.int .i64 (fromT m)) ∧ Below w.heap.size w w' := by
  have HB := Lib.hid (bel_met w m)
  unfold mcells at HB ⊢
  by_cases h : 0 ≤ m.date
  · have d : decide (0 ≤ m.date) = true := by simp; exact h
    go_enter Tryd.func22, Tryd.ntmps22
    go_wp2_with (go_at_call 21; refine (told_any _ _).mono ?_; rintro e w2 ⟨rfl, rfl⟩)
    go_ret
    exact ⟨ret_int (by unfold fromT; rw [if_neg (by omega)]), HB.out⟩
  · have d : decide (0 ≤ m.date) = false := by simp; omega
    go_enter Tryd.func22, Tryd.ntmps22
    go_wp2_with (go_at_call 21; refine (told_any _ _).mono ?_; rintro e w2 ⟨rfl, rfl⟩)
    all_goals
      go_ret
      exact ⟨ret_int (by unfold fromT; rw [if_pos (by omega)]; split <;> omega), HB.out⟩
set_option maxRecDepth 100000 in
set_option maxHeartbeats 4000000 in
theorem guess_any (m : Mta) (w : World) : Calls Tryd.prog 23 #[.agg (mcells m)] w fun e w' => e = .returned (.int .i64 (atMost (lessT m.date m.mod / 10) 86400)) ∧ Below w.heap.size w w' := by
  have HB := Lib.hid (bel_met w m)
  have bx := lessT_bd m.date m.mod
  obtain ⟨x, hx⟩ : ∃ x, lessT m.date m.mod = x := ⟨_, rfl⟩
  rw [hx] at bx
  rw [hx]
  have HX := Lib.hid hx
  unfold mostT at bx
  clear hx
  unfold mcells at HB ⊢
  go_enter Tryd.func23, Tryd.ntmps23
  go_wp2_with fail
  refine (between_any _ _ _).mono ?_
  rintro e w2 ⟨rfl, hb⟩
  rw [HX.out]
  have HB2 := Lib.hid (Bl.next HB.out hb)
  clear hb
  go_wp2_with fail
  all_goals
    go_ret
    exact ⟨ret_int (by unfold atMost; (repeat' split) <;> omega), HB2.out⟩
def youngT (left : Int) (r : Con) : Int := if left < r.mf then 2 else 0
def oldT (late : Int) (c r : Con) : Int := if c.mu = true ∨ c.px = true ∨ 0 ≤ c.sh then 2 else if late ≤ r.ms then 0 else if late < c.wh ∧ r.mf ≤ 0 then 1 else 2
set_option maxRecDepth 100000 in
set_option maxHeartbeats 4000000 in
theorem young_any (left : Int) (r : Con) (w : World) : Calls Tryd.prog 24 #[.int .i64 left, .agg (cells r)] w fun e w' => e = .returned (.int .i64 (youngT left r)) ∧ Below w.heap.size w w' := by
  have HB := Lib.hid (bel_con w r)
  unfold cells at HB ⊢
  go_enter Tryd.func24, Tryd.ntmps24
  go_wp2_with fail
  all_goals
    go_ret
    exact ⟨ret_int (by unfold youngT; split <;> omega), HB.out⟩
set_option maxRecDepth 100000 in
set_option maxHeartbeats 4000000 in
theorem old_any (late : Int) (c r : Con) (w : World) : Calls Tryd.prog 25 #[.int .i64 late, .agg (cells c), .agg (cells r)] w fun e w' => e = .returned (.int .i64 (oldT late c r)) ∧ Below w.heap.size w w' := by
  have HB := Lib.hid (bel_con2 w c r)
  unfold cells at HB ⊢
  by_cases h : c.mu = true ∨ c.px = true ∨ 0 ≤ c.sh
  · have HO := Lib.hid (show oldT late c r = 2 from by unfold oldT; rw [if_pos h])
    rw [HO.out]
    cases hm : c.mu with
    | true =>
      go_enter Tryd.func25, Tryd.ntmps25
      go_wp2_with fail
      go_ret
      exact ⟨rfl, by have := HB.out; rw [hm] at this; exact this⟩
    | false =>
      cases hp : c.px with
      | true =>
        go_enter Tryd.func25, Tryd.ntmps25
        go_wp2_with fail
        go_ret
        exact ⟨rfl, by have := HB.out; rw [hm, hp] at this; exact this⟩
      | false =>
        have hs : decide (0 ≤ c.sh) = true := by rw [hm, hp] at h; simpa using h
        clear h
        go_enter Tryd.func25, Tryd.ntmps25
        go_wp2_with (go_at_call 21; refine (told_any _ _).mono ?_; rintro e w2 ⟨rfl, rfl⟩)
        go_ret
        exact ⟨rfl, by have := HB.out; rw [hm, hp] at this; exact this⟩
  · have hm : c.mu = false := by cases hc : c.mu <;> simp_all
    have hp : c.px = false := by cases hc : c.px <;> simp_all
    have hs : decide (0 ≤ c.sh) = false := by simp; omega
    have HO := Lib.hid (show oldT late c r = if late ≤ r.ms then 0 else if late < c.wh ∧ r.mf ≤ 0 then 1 else 2 from by unfold oldT; rw [if_neg h])
    have HB3 := HB.out
    rw [hm, hp] at HB3
    have HB4 := Lib.hid HB3
    clear h HB3 HB
    go_enter Tryd.func25, Tryd.ntmps25
    go_wp2_with (go_at_call 21; refine (told_any _ _).mono ?_; rintro e w2 ⟨rfl, rfl⟩)
    all_goals
      go_ret
      exact ⟨ret_int (by rw [HO.out]; (repeat' split) <;> omega), HB4.out⟩
end Go.Proofs.YtbignmccpbccoaaDoor.Fh
