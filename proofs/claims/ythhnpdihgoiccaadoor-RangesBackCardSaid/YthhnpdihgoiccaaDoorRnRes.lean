/-
  ranges.Resolve: what it returns. No condition.
-/
import Derived.Test.YthhnpdihgoiccaaDoorRnTold
namespace Go.Proofs.YthhnpdihgoiccaaDoor.Rn
open Go.RowKit Go.Proofs.YthhnpdihgoiccaaDoor.Fd Go.Proofs.YthhnpdihgoiccaaDoor.Sn Go.Proofs.YthhnpdihgoiccaaDoor.Rm
set_option maxRecDepth 100000
set_option linter.unusedVariables false
set_option linter.unusedSimpArgs false

/-- A span, and whether there is one. -/
def resV (o : Option Rm.W) : Value := match o with
  | some s => .tuple #[SV s, .bool true]
  | none => .tuple #[SV (0, 0), .bool false]
theorem infoSpanSize (x y : Value) : (Tryd.prog.info? 23).map (·.size) = some #[x, y].size := by
  have h : (Tryd.prog.info? 23).map (·.size) = some 2 := by kernel_rfl
  exact h
theorem ret_span {fn : Func} {p u : Tmp} (h : fn.results = #[.cell p 23, .tmp u]) (tmps : Array Value) (w : World) (g : Nat) (x y : Value)
    (hp : tmps.getD p undef = .pointer (some ⟨g, 0, none⟩)) (hg : w.heap[g]? = some (.cells #[x, y] 23 (0, 0))) :
    (results fn tmps).run Tryd.prog w = .ok (.tuple #[.agg #[x, y], tmps.getD u undef]) w :=
  results_pair h _ _ g 23 _ (0, 0) _ hp hg Tryd.underlying23 rfl (infoSpanSize x y)
theorem long_iff {n : Int} : longB n = true ↔ ¬ (n < 0 ∨ Rm.mostB < n) := by
  have e : Rm.mostB = 1048576 := rfl
  unfold longB
  rw [decide_eq_true_iff]; omega
theorem res_long {w : Rm.W} {n : Int} (h : longB n = false) : Rm.resolve w n = none := by
  have e : Rm.mostB = 1048576 := rfl
  have h := of_decide_eq_false h
  unfold Rm.resolve
  rw [if_pos (by omega)]
theorem res_fine {w : Rm.W} {n : Int} (h : fine w = false) : Rm.resolve w n = none := by
  unfold Rm.resolve
  rw [if_pos (.inr (.inr h))]
theorem res_ok {w : Rm.W} {n : Int} (h : longB n = true) (hf : fine w = true) : Rm.resolve w n = if w.1 = -1 then (if w.2 = 0 ∨ n = 0 then none else some (if w.2 < n then n - w.2 else 0, n))
  else if n ≤ w.1 then none
  else if w.2 = -1 ∨ n ≤ w.2 then some (w.1, n)
  else some (w.1, w.2 + 1) := by
  have h := long_iff.1 h
  unfold Rm.resolve
  rw [if_neg (by rw [hf]; intro q; rcases q with q | q | q; exact h (.inl q); exact h (.inr q); cases q)]
theorem val_eq {a b c d : Int} (h1 : a = c) (h2 : b = d) : Ending.returned (.tuple #[.agg #[.int .i64 a, .int .i64 b], .bool true]) = .returned (resV (some (c, d))) := by subst h1; subst h2; rfl
theorem fine_bd {x y : Int} (h : fine (x, y) = true) : -1 ≤ x ∧ -1 ≤ y ∧ x ≤ 1099511627776 ∧ y ≤ 1099511627776 ∧ ¬ (x = -1 ∧ y = -1) ∧ ¬ (0 ≤ x ∧ 0 ≤ y ∧ y < x) := of_decide_eq_true h
theorem long_bd {n : Int} (h : longB n = true) : 0 ≤ n ∧ n ≤ 1048576 := of_decide_eq_true h

set_option maxHeartbeats 4000000 in
theorem resolve_any (x y long : Int) (w : World) :
    Calls Tryd.prog 9 #[.agg #[.int .i64 x, .int .i64 y], .int .i64 long] w fun e w' => e = .returned (resV (Rm.resolve (x, y) long)) ∧ Below w.heap.size w w' := by
  obtain ⟨W, hW⟩ : ∃ W, W = (w.alloc (.cells #[.int .i64 x, .int .i64 y] 32)).alloc (.cells #[.int .i64 0, .int .i64 0] 23) := ⟨_, rfl⟩
  have hk := new_block w (.cells #[.int .i64 x, .int .i64 y] 32)
  have hz : W.heap.size = w.heap.size + 2 := by rw [hW]; simp
  have hk : W.heap[w.heap.size]? = some (.cells #[.int .i64 x, .int .i64 y] 32 (0, 0)) := by rw [hW, old_block _ _ (by simp)]; exact hk
  have hr : W.heap[w.heap.size + 1]? = some (.cells #[.int .i64 0, .int .i64 0] 23 (0, 0)) := by rw [hW]; exact new_block' _ _ (by simp)
  have hB : Below w.heap.size w W := by rw [hW]; exact ((Below.refl _ _).alloc (Nat.le_refl _) _).alloc (by simp) _
  have c0 := two0 hk
  have c1 := two1 hk
  have r0 := two0 hr
  have r1 := two1 hr
  have f0 := free hr 0
  have f1 := free hr 1
  cases hl : longB long with
  | false =>
    have HV := Lib.hid (show Rm.resolve (x, y) long = none from res_long hl)
    have HL := Lib.hid hl
    clear hl
    go_enter Tryd.func9, Tryd.ntmps9
    go_wp2_with fail
    rw [← hW]
    clear hW
    refine (long_any _ _).mono ?_
    rintro e w' ⟨rfl, rfl⟩
    rw [HL.out]
    go_wp2_with fail
    refine bodyPost_ret (ret_span rfl _ _ (w.heap.size + 1) _ _ rfl (put2 hr _ _)) rfl ?_
    exact ⟨by rw [HV.out]; rfl, put2_below hB (Nat.le_succ _) _ _⟩
  | true =>
    have HL := Lib.hid hl
    clear hl
    go_enter Tryd.func9, Tryd.ntmps9
    go_wp2_with fail
    rw [← hW]
    clear hW
    refine (long_any _ _).mono ?_
    rintro e w' ⟨rfl, rfl⟩
    rw [HL.out]
    go_wp2_with fail
    refine (told_any x y _).mono ?_
    rintro e w2 ⟨rfl, hb2⟩
    replace hk := Bl.old hb2 (block_lt hk) hk
    replace hr := Bl.old hb2 (block_lt hr) hr
    replace hB := Bl.next hB hb2
    have hz2 : w.heap.size + 2 ≤ w2.heap.size := by have := hb2.size; omega
    clear hb2 c0 c1 r0 r1 f0 f1
    have c0 := two0 hk
    have c1 := two1 hk
    have r0 := two0 hr
    have r1 := two1 hr
    have f0 := free hr 0
    have f1 := free hr 1
    cases hf : fine (x, y) with
    | false =>
      have HV := Lib.hid (show Rm.resolve (x, y) long = none from res_fine hf)
      clear hf
      go_wp2_with fail
      refine bodyPost_ret (ret_span rfl _ _ (w.heap.size + 1) _ _ rfl (put2 hr _ _)) rfl ?_
      exact ⟨by rw [HV.out]; rfl, put2_below hB (Nat.le_succ _) _ _⟩
    | true =>
      have HV := Lib.hid (res_ok HL.out hf)
      have hfb := fine_bd hf
      have hlb := long_bd HL.out
      clear hf
      have HR : ∀ a b : Int, (w2.alloc (.cells #[.int .i64 a, .int .i64 b] 23)).heap[w.heap.size + 1]? = some (.cells #[.int .i64 0, .int .i64 0] 23 (0, 0)) := fun a b => by rw [old_block _ _ (by omega)]; exact hr
      have HK : ∀ a b : Int, (w2.alloc (.cells #[.int .i64 a, .int .i64 b] 23)).heap[w.heap.size]? = some (.cells #[.int .i64 x, .int .i64 y] 32 (0, 0)) := fun a b => by rw [old_block _ _ (by omega)]; exact hk
      have HBB := Lib.hid (show ∀ a b : Int, Below w.heap.size w (w2.alloc (.cells #[.int .i64 a, .int .i64 b] 23)) from fun a b => hB.alloc (by omega) _)
      have d0 := fun a b => two0 (HK a b)
      have d1 := fun a b => two1 (HK a b)
      have q0 := fun a b => two0 (HR a b)
      have q1 := fun a b => two1 (HR a b)
      have g0 := fun a b => free (HR a b) 0
      have g1 := fun a b => free (HR a b) 1
      have HRR := Lib.hid HR
      clear HR HK
      go_wp2_with fail
      all_goals
        refine bodyPost_ret (ret_span rfl _ _ (w.heap.size + 1) _ _ rfl (put2 (HRR.out _ _) _ _)) rfl ?_
        refine ⟨?_, put2_below (HBB.out _ _) (Nat.le_succ _) _ _⟩
        rw [HV.out]
        simp only [beq_iff_eq, bne_iff_ne, beq_eq_false_iff_ne, bne_eq_false_iff_eq, ne_eq] at *
        repeat' split
        all_goals first
          | rfl
          | (exfalso; repeat' split at *
             all_goals omega)
          | (refine val_eq ?_ ?_ <;> (repeat' split) <;> omega)
end Go.Proofs.YthhnpdihgoiccaaDoor.Rn
