/-
  gatepostref14.Resolve: what it returns. No condition.
-/
import Derived.Test.YthhnpdihgoiccaaRnRes
import Derived.Deep.DeepCutAuto
namespace Go.Proofs.Ythhnpdihgoiccaa.Rn
open Go.RowKit Go.Proofs.Ythhnpdihgoiccaa.Fd Go.Proofs.Ythhnpdihgoiccaa.Sn Go.Proofs.Ythhnpdihgoiccaa.Rm
set_option maxRecDepth 100000
set_option linter.unusedVariables false
set_option linter.unusedSimpArgs false

theorem res_is (x y n : Int) : Rm.resolve (x, y) n = if n < 0 ∨ 1048576 < n ∨ x < -1 ∨ y < -1 ∨ 1099511627776 < x ∨ 1099511627776 < y ∨ (x = -1 ∧ y = -1) ∨ (0 ≤ x ∧ 0 ≤ y ∧ y < x) then none
    else if x = -1 then (if y = 0 ∨ n = 0 then none else some (if y < n then n - y else 0, n))
    else if n ≤ x then none else if y = -1 ∨ n ≤ y then some (x, n) else some (x, y + 1) := by
  by_cases hl : longB n = true
  · by_cases hf : fine (x, y) = true
    · have h1 := long_bd hl
      have h2 := fine_bd hf
      rw [res_ok hl hf, if_neg (c := n < 0 ∨ _) (by omega)]
    · have h2 := of_decide_eq_false (Bool.eq_false_iff.2 hf)
      have e : mostT = 1099511627776 := rfl
      rw [res_fine (Bool.eq_false_iff.2 hf), if_pos (by simp only at h2; omega)]
  · have h2 := of_decide_eq_false (Bool.eq_false_iff.2 hl)
    rw [res_long (Bool.eq_false_iff.2 hl), if_pos (by omega)]

set_option maxHeartbeats 8000000 in
theorem refResolve_any (x y long : Int) (w : World) :
    Calls Try.prog 9 #[.agg #[.int .i64 x, .int .i64 y], .int .i64 long] w fun e w' => e = .returned (resV (Rm.resolve (x, y) long)) ∧ Below w.heap.size w w' := by
  obtain ⟨W, hW⟩ : ∃ W, W = (w.alloc (.cells #[.int .i64 x, .int .i64 y] 30)).alloc (.cells #[.int .i64 0, .int .i64 0] 31) := ⟨_, rfl⟩
  have hk0 := new_block w (.cells #[.int .i64 x, .int .i64 y] 30)
  have hk : W.heap[w.heap.size]? = some (.cells #[.int .i64 x, .int .i64 y] 30 (0, 0)) := by rw [hW, old_block _ _ (by simp)]; exact hk0
  have hr : W.heap[w.heap.size + 1]? = some (.cells #[.int .i64 0, .int .i64 0] 31 (0, 0)) := by rw [hW]; exact new_block' _ _ (by simp)
  have HB := Lib.hid (show Below w.heap.size w W from by rw [hW]; exact ((Below.refl _ _).alloc (Nat.le_refl _) _).alloc (by simp) _)
  have c0 := two0 hk
  have c1 := two1 hk
  have r0 := two0 hr
  have r1 := two1 hr
  have f0 := free hr 0
  have f1 := free hr 1
  have HRR := Lib.hid hr
  have HV := Lib.hid (res_is x y long)
  clear hk hr hk0
  by_cases hbad : long < 0 ∨ 1048576 < long ∨ x < -1 ∨ y < -1 ∨ 1099511627776 < x ∨ 1099511627776 < y ∨ (x = -1 ∧ y = -1) ∨ (0 ≤ x ∧ 0 ≤ y ∧ y < x)
  · have HQ := Lib.hid hbad
    have HN := Lib.hid (show Rm.resolve (x, y) long = none from by rw [HV.out, if_pos hbad])
    clear hbad HV
    go_enter Try.func9, Try.ntmps9
    go_upto_region 1 with fail
    rw [← hW]
    clear hW
    go_wp2_with fail
    all_goals first
      | (refine bodyPost_ret (ret_span rfl _ _ (w.heap.size + 1) _ _ rfl (put2 HRR.out _ _)) rfl ?_
         exact ⟨by rw [HN.out]; rfl, put2_below HB.out (Nat.le_succ _) _ _⟩)
      | (exfalso; have := HQ.out; omega)
  · have HV2 := Lib.hid (show Rm.resolve (x, y) long = _ from by rw [HV.out, if_neg hbad])
    have a1 : ¬ long < 0 := fun h => hbad (.inl h)
    have a2 : ¬ 1048576 < long := by omega
    have a3 : ¬ x < -1 := by omega
    have a4 : ¬ y < -1 := by omega
    have a5 : ¬ 1099511627776 < x := by omega
    have a6 : ¬ 1099511627776 < y := by omega
    have HQ := Lib.hid hbad
    clear hbad HV
    go_enter Try.func9, Try.ntmps9
    go_upto_region 1 with fail
    rw [← hW]
    clear hW
    go_wp2_with fail
    all_goals
      refine bodyPost_ret (ret_span rfl _ _ (w.heap.size + 1) _ _ rfl (put2 HRR.out _ _)) rfl ?_
      refine ⟨?_, put2_below HB.out (Nat.le_succ _) _ _⟩
      subst_vars
      first
        | (exfalso; have hq := HQ.out; omega)
        | (exfalso; have hq := HQ.out; simp at hq; done)
        | (rw [HV2.out]
           have hq := HQ.out
           simp only [beq_iff_eq, bne_iff_ne, beq_eq_false_iff_ne, bne_eq_false_iff_eq, ne_eq] at *
           repeat' split
           all_goals first
             | rfl
             | (exfalso; omega)
             | (exfalso; simp_all; done)
             | (exfalso; simp_all; omega)
             | (refine val_eq ?_ ?_ <;> (repeat' split) <;> omega))
end Go.Proofs.Ythhnpdihgoiccaa.Rn
