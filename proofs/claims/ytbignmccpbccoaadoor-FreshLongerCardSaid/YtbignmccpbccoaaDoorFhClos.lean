/-
  fresh.told, fresh.within and its closure, fresh.between: what each returns. No condition but what each states.
-/
import Derived.Test.YtbignmccpbccoaaDoorFhMath
import Derived.Test.YtbignmccpbccoaaDoorApMeta
import Derived.Test.YtbignmccpbccoaaDoorKit
import Derived.Deep.RegionWith
import Derived.Deep.QuietTactic
import Derived.BigQuiet
import Derived.WalkLawsBesides
import Derived.Laws.EntriesVeiled
namespace Go.Proofs.YtbignmccpbccoaaDoor.Fh
open Go.RowKit Go.Proofs.YtbignmccpbccoaaDoor.Ct Go.Proofs.YtbignmccpbccoaaDoor.Fd
set_option linter.unusedVariables false

/-- A variable of one int. -/
def IVar (w : World) (b : Nat) (n : Int) : Prop := w.heap[b]? = some (.cells #[.int .i64 n] 3 (0, 0))
theorem IVar.cell {w : World} {b : Nat} {n : Int} (h : IVar w b n) : w.cell? ⟨b, 0, none⟩ = some (.int .i64 n) := by rw [Lib.cell_of_heap h]; rfl
theorem IVar.more {w w' : World} {b : Nat} {n : Int} (h : IVar w b n) {B : Nat} (hb : Below B w w') (hl : b < B) : IVar w' b n := Bl.old hb hl h
/-- What brings a number into a range: the closure, by its two variables. -/
def clo (b0 b1 : Nat) : Value := .func (.func 26) #[] #[.pointer (some ⟨b0, 0, none⟩), .pointer (some ⟨b1, 0, none⟩)]
def clampT (l m n : Int) : Int := if (if n < l then l else n) < m then (if n < l then l else n) else m

theorem ret_int {k : IntKind} {a b : Int} (h : a = b) : Ending.returned (.int k a) = .returned (.int k b) := by rw [h]
theorem told_any (n : Int) (w : World) : Calls Tryd.prog 21 #[.int .i64 n] w fun e w' => e = .returned (.bool (decide (0 ≤ n))) ∧ w = w' := by
  go_enter Tryd.func21, Tryd.ntmps21
  go_wp2_with fail
  go_ret
  exact ⟨rfl, rfl⟩
theorem within_any (l m : Int) (w : World) : Calls Tryd.prog 16 #[.int .i64 l, .int .i64 m] w fun e w' => e = .returned (clo w.heap.size (w.heap.size + 1)) ∧ (w.alloc (.cells #[.int .i64 l] 3)).alloc (.cells #[.int .i64 m] 3) = w' := by
  go_enter Tryd.func16, Tryd.ntmps16
  go_wp2_with fail
  go_ret
  exact ⟨rfl, rfl⟩
theorem clos_any (b0 b1 : Nat) (l m n : Int) (w : World) (h0 : IVar w b0 l) (h1 : IVar w b1 m) : Calls Tryd.prog 26 #[.int .i64 n, .pointer (some ⟨b0, 0, none⟩), .pointer (some ⟨b1, 0, none⟩)] w fun e w' => e = .returned (.int .i64 (clampT l m n)) ∧ w = w' := by
  have c0 := h0.cell
  have c1 := h1.cell
  clear h0 h1
  go_enter Tryd.func26, Tryd.ntmps26
  go_wp2_with fail
  all_goals
    go_ret
    exact ⟨ret_int (by unfold clampT; repeat' split
                       all_goals omega), rfl⟩
theorem clamp_told (n : Int) : clampT 0 mostT n = toldT n := by
  unfold clampT toldT cutT
  have h5 : mostT = 1099511627776 := rfl
  repeat' split
  all_goals omega
theorem clamp_age {n : Int} (h : 0 ≤ n) : clampT 0 mostA n = atMost n mostA := by
  unfold clampT atMost
  have h5 : mostA = 2147483648 := rfl
  repeat' split
  all_goals omega
theorem clamp_bd (l m n : Int) (h : l ≤ m) : l ≤ clampT l m n ∧ clampT l m n ≤ m := by
  unfold clampT
  repeat' split
  all_goals omega
/-- A second, brought into its range: not told, or at most mostT. -/
def secT (n : Int) : Int := clampT (-1) mostT n
theorem secT_bd (n : Int) : -1 ≤ secT n ∧ secT n ≤ 1099511627776 := clamp_bd _ _ _ (by decide)
theorem secT_of {n : Int} (h : 0 ≤ n) : secT n = cutT n := by
  unfold secT clampT cutT
  have h5 : mostT = 1099511627776 := rfl
  repeat' split
  all_goals omega
theorem secT_neg {n : Int} (h : n < 0) : secT n = -1 := by
  unfold secT clampT
  have h5 : mostT = 1099511627776 := rfl
  repeat' split
  all_goals omega
theorem less_neg {a b : Int} (h : secT a < 0 ∨ secT b < 0) : lessT a b = 0 := by
  unfold lessT
  rw [if_pos]
  rcases h with h | h
  · by_cases ha : a < 0
    · exact .inl ha
    · rw [secT_of (by omega)] at h; have := cutT_bd (n := a) (by omega); omega
  · by_cases ha : b < 0
    · exact .inr (.inl ha)
    · rw [secT_of (by omega)] at h; have := cutT_bd (n := b) (by omega); omega
theorem less_told {a b : Int} (h : 0 ≤ secT a) (h2 : 0 ≤ secT b) : lessT a b = if secT a - secT b < 0 then 0 else secT a - secT b := by
  have ha : 0 ≤ a := by
    rcases (show a < 0 ∨ 0 ≤ a by omega) with g | g
    · rw [secT_neg g] at h; omega
    · exact g
  have hb : 0 ≤ b := by
    rcases (show b < 0 ∨ 0 ≤ b by omega) with g | g
    · rw [secT_neg g] at h2; omega
    · exact g
  rw [secT_of ha, secT_of hb]
  unfold lessT
  repeat' split
  all_goals omega

set_option maxHeartbeats 1000000 in
theorem between_any (a b : Int) (w : World) : Calls Tryd.prog 17 #[.int .i64 b, .int .i64 a] w fun e w' => e = .returned (.int .i64 (lessT a b)) ∧ Below w.heap.size w w' := by
  have ha := secT_bd a
  have hb := secT_bd b
  obtain ⟨x, hx⟩ : ∃ x, secT a = x := ⟨_, rfl⟩
  obtain ⟨y, hy⟩ : ∃ y, secT b = y := ⟨_, rfl⟩
  have HL1 := Lib.hid (show x < 0 ∨ y < 0 → lessT a b = 0 from fun h => less_neg (by rw [hx, hy]; exact h))
  have HL2 := Lib.hid (show 0 ≤ x → 0 ≤ y → lessT a b = if x - y < 0 then 0 else x - y from fun h h2 => by rw [less_told (by rw [hx]; exact h) (by rw [hy]; exact h2), hx, hy])
  rw [hx] at ha
  rw [hy] at hb
  have HX := Lib.hid (show clampT (-1) 1099511627776 a = x from hx)
  have HY := Lib.hid (show clampT (-1) 1099511627776 b = y from hy)
  have HB := Lib.hid (show Below w.heap.size w ((w.alloc (.cells #[.int .i64 (-1)] 3)).alloc (.cells #[.int .i64 1099511627776] 3)) from ((Below.refl _ _).alloc (Nat.le_refl _) _).alloc (by simp) _)
  have H0 := Lib.hid (show IVar ((w.alloc (.cells #[.int .i64 (-1)] 3)).alloc (.cells #[.int .i64 1099511627776] 3)) w.heap.size (-1) from (old_block _ _ (by simp)).trans (new_block _ _))
  have H1 := Lib.hid (show IVar ((w.alloc (.cells #[.int .i64 (-1)] 3)).alloc (.cells #[.int .i64 1099511627776] 3)) (w.heap.size + 1) 1099511627776 from new_block' _ _ (by simp))
  clear hx hy
  go_enter Tryd.func17, Tryd.ntmps17
  go_wp2_with fail
  refine (within_any _ _ _).mono ?_
  rintro e w1 ⟨rfl, hw1⟩
  rw [hw1] at HB H0 H1
  clear hw1
  unfold clo
  go_wp2_with fail
  refine (clos_any _ _ _ _ _ _ H0.out H1.out).mono ?_
  rintro e w2 ⟨rfl, rfl⟩
  rw [HY.out]
  go_wp2_with fail
  refine (clos_any _ _ _ _ _ _ H0.out H1.out).mono ?_
  rintro e w2 ⟨rfl, rfl⟩
  rw [HX.out]
  by_cases hy0 : 0 ≤ y
  · have dy : decide (0 ≤ y) = true := by simp; omega
    by_cases hx0 : 0 ≤ x
    · have dx : decide (0 ≤ x) = true := by simp; omega
      go_wp2_with (go_at_call 21; refine (told_any _ _).mono ?_; rintro e w2 ⟨rfl, rfl⟩)
      all_goals
        go_ret
        exact ⟨ret_int (by rw [HL2.out hx0 hy0]; split <;> omega), HB.out⟩
    · have dx : decide (0 ≤ x) = false := by simp; omega
      go_wp2_with (go_at_call 21; refine (told_any _ _).mono ?_; rintro e w2 ⟨rfl, rfl⟩)
      go_ret
      exact ⟨ret_int (by rw [HL1.out (.inl (by omega))]), HB.out⟩
  · have dy : decide (0 ≤ y) = false := by simp; omega
    go_wp2_with (go_at_call 21; refine (told_any _ _).mono ?_; rintro e w2 ⟨rfl, rfl⟩)
    go_ret
    exact ⟨ret_int (by rw [HL1.out (.inr (by omega))]), HB.out⟩
end Go.Proofs.YtbignmccpbccoaaDoor.Fh
