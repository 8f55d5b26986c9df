/-
  The program's made, isClass, sizes, Sizes, and its closures of Alloc: what each returns. No condition.
-/
import Derived.Test.YtheljldoboiekaaSlPAt
import Derived.Laws.EntriesVeiled
import Derived.Laws.ResultCell
namespace Go.Proofs.Ytheljldoboiekaa.Sl
open Go.RowKit Go.Proofs.Ytheljldoboiekaa.Fd
set_option maxRecDepth 100000
set_option linter.unusedVariables false
set_option linter.unusedSimpArgs false

theorem made_yes (p : Nat) (w : World) (h : w.cell? ⟨p, 0, none⟩ = some (.int .i64 64)) : Calls Try.prog 32 #[.pointer (some ⟨p, 0, none⟩)] w fun e w' => e = .returned (.bool true) ∧ w = w' := by
  go_enter Try.func32, Try.ntmps32
  go_wp2_with fail
  go_ret
  exact ⟨rfl, rfl⟩
theorem made_zero (p : Nat) (w : World) (h : w.cell? ⟨p, 0, none⟩ = some (.int .i64 0)) : Calls Try.prog 32 #[.pointer (some ⟨p, 0, none⟩)] w fun e w' => e = .returned (.bool false) ∧ w = w' := by
  go_enter Try.func32, Try.ntmps32
  go_wp2_with fail
  go_ret
  exact ⟨rfl, rfl⟩
theorem made_nil (w : World) : Calls Try.prog 32 #[.pointer none] w fun e w' => e = .returned (.bool false) ∧ w = w' := by
  go_enter Try.func32, Try.ntmps32
  go_wp2_with fail
  go_ret
  exact ⟨rfl, rfl⟩
def inB (c : Int) : Bool := decide (0 ≤ c ∧ c ≤ 3)
theorem isClass_any (c : Int) (w : World) : Calls Try.prog 31 #[.int .i64 c] w fun e w' => e = .returned (.bool (inB c)) ∧ w = w' := by
  by_cases h1 : 0 ≤ c
  · by_cases h2 : c < 4
    · have HR := Lib.hid (show inB c = true from by simp [inB]; omega)
      go_enter Try.func31, Try.ntmps31
      go_wp2_with fail
      go_ret
      exact ⟨by rw [HR.out]; rfl, rfl⟩
    · have HR := Lib.hid (show inB c = false from by simp [inB]; omega)
      go_enter Try.func31, Try.ntmps31
      go_wp2_with fail
      go_ret
      exact ⟨by rw [HR.out]; rfl, rfl⟩
  · have HR := Lib.hid (show inB c = false from by simp [inB]; omega)
    go_enter Try.func31, Try.ntmps31
    go_wp2_with fail
    go_ret
    exact ⟨by rw [HR.out]; rfl, rfl⟩
def sizesV : Value := .agg #[.int .i64 64, .int .i64 256, .int .i64 1024, .int .i64 4096]
theorem infoArr : (Try.prog.info? 22).map (·.size) = some 4 := by kernel_rfl
theorem sizesV_any (w : World) : Calls Try.prog 30 #[] w fun e w' => e = .returned sizesV ∧ Below w.heap.size w w' := by
  go_enter Try.func30, Try.ntmps30
  go_wp2_with fail
  exact bodyPost_ret (results_one rfl _ _ w.heap.size 22 _ (0, 0) _ rfl (new_block w _) Try.underlying22 rfl infoArr) rfl ⟨rfl, (Below.refl _ _).alloc (Nat.le_refl _) _⟩
theorem idx0 (w : World) : (Instr.index 22 (.agg #[.int .i64 64, .int .i64 256, .int .i64 1024, .int .i64 4096]) (.int .i64 0)).run Try.prog w = .ok (.int .i64 64) w := by kernel_rfl
theorem idx1 (w : World) : (Instr.index 22 (.agg #[.int .i64 64, .int .i64 256, .int .i64 1024, .int .i64 4096]) (.int .i64 1)).run Try.prog w = .ok (.int .i64 256) w := by kernel_rfl
theorem idx2 (w : World) : (Instr.index 22 (.agg #[.int .i64 64, .int .i64 256, .int .i64 1024, .int .i64 4096]) (.int .i64 2)).run Try.prog w = .ok (.int .i64 1024) w := by kernel_rfl
theorem idx3 (w : World) : (Instr.index 22 (.agg #[.int .i64 64, .int .i64 256, .int .i64 1024, .int .i64 4096]) (.int .i64 3)).run Try.prog w = .ok (.int .i64 4096) w := by kernel_rfl
theorem sizesP_any (c : Int) (w : World) : Calls Try.prog 10 #[.int .i64 c] w fun e w' => e = .returned (.int .i64 (sizesI c)) ∧ Below w.heap.size w w' := by
  by_cases hc : 0 ≤ c ∧ c ≤ 3
  · have HI := Lib.hid (show inB c = true from by unfold inB; rw [decide_eq_true hc])
    rcases (by omega : c = 0 ∨ c = 1 ∨ c = 2 ∨ c = 3) with rfl | rfl | rfl | rfl
    all_goals
      go_enter Try.func10, Try.ntmps10
      go_wp2_with fail
      refine (isClass_any _ _).mono ?_
      rintro e w1 ⟨rfl, rfl⟩
      rw [HI.out]
      go_wp2_with fail
      refine (sizesV_any _).mono ?_
      rintro e w1 ⟨rfl, hb⟩
      unfold sizesV
      have x0 := idx0
      have x1 := idx1
      have x2 := idx2
      have x3 := idx3
      go_wp2_with fail
      go_ret
      exact ⟨rfl, hb⟩
  · have HI := Lib.hid (show inB c = false from by unfold inB; rw [decide_eq_false hc])
    have HV := Lib.hid (show sizesI c = 0 from by unfold sizesI; rw [if_neg hc])
    go_enter Try.func10, Try.ntmps10
    go_wp2_with fail
    refine (isClass_any _ _).mono ?_
    rintro e w1 ⟨rfl, rfl⟩
    rw [HI.out]
    go_wp2_with fail
    go_ret
    exact ⟨by rw [HV.out]; rfl, Below.refl _ _⟩
/-- The search's closures. -/
theorem free_any (x y z v : Value) (h : Int) (w : World) : Calls Try.prog 36 #[.agg #[x, y, z, .int .i64 h, v]] w fun e w' => e = .returned (.bool (h == 0)) ∧ Below w.heap.size w w' := by
  have HB := Lib.hid ((Below.refl w.heap.size w).alloc (Nat.le_refl _) (.cells #[x, y, z, .int .i64 h, v] 77))
  go_enter Try.func36, Try.ntmps36
  go_wp2_with fail
  go_ret
  exact ⟨rfl, HB.out⟩
theorem fitc_any (g : Nat) (n s : Int) (v : Value) (w : World) (hl : g < w.heap.size) (hg : w.cell? ⟨g, 0, none⟩ = some (.int .i64 n)) : Calls Try.prog 34 #[.agg #[.int .i64 s, v], .pointer (some ⟨g, 0, none⟩)] w fun e w' => e = .returned (.bool (decide (n ≤ s))) ∧ Below w.heap.size w w' := by
  have hB := (Below.refl w.heap.size w).alloc (Nat.le_refl _) (.cells #[.int .i64 s, v] 56)
  have hg2 := (hB.cell (p := ⟨g, 0, none⟩) hl).trans hg
  have HB := Lib.hid hB
  clear hB
  by_cases h : n ≤ s
  · have HR := Lib.hid (decide_eq_true h)
    go_enter Try.func34, Try.ntmps34
    go_wp2_with fail
    go_ret
    exact ⟨by rw [HR.out]; rfl, HB.out⟩
  · have HR := Lib.hid (decide_eq_false h)
    go_enter Try.func34, Try.ntmps34
    go_wp2_with fail
    go_ret
    exact ⟨by rw [HR.out]; rfl, HB.out⟩
end Go.Proofs.Ytheljldoboiekaa.Sl
