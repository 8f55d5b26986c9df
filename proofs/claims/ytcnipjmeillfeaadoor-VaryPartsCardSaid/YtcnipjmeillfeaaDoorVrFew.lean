/-
  gatepostlaw11.few: what it returns. Conditions: none beyond the lengths that slices and texts can have.
-/
import Derived.Test.YtcnipjmeillfeaaDoorFdFlds
import Derived.Test.YtcnipjmeillfeaaDoorFdMath
import Derived.Deep.QuietTactic
import Derived.BigQuiet
namespace Go.Proofs.YtcnipjmeillfeaaDoor.Vr
open Go.RowKit Go.Proofs.YtcnipjmeillfeaaDoor.Tk Go.Proofs.YtcnipjmeillfeaaDoor.Fd
set_option maxRecDepth 100000
set_option linter.unusedVariables false

def fewL (fs : List Fl) : Bool := decide (tot fs + 19 * fs.length < 3000)
theorem few_less (fs : List Fl) (k n : Nat) (hk : k ≤ fs.length) (h : n + k = 20 * fs.length + tot (fs.take k)) : n ≤ tot fs + 19 * fs.length := by
  have h1 := tot_append (fs.take k) (fs.drop k)
  rw [List.take_append_drop] at h1
  have h2 := tot_len (fs.drop k)
  rw [List.length_drop] at h2
  omega
theorem fewL_tot {fs : List Fl} (h : fewL fs = true) : tot fs < 3000 := by
  unfold fewL at h
  have := of_decide_eq_true h
  omega

set_option maxHeartbeats 2000000 in
theorem fewL_any (v : Value) (fs : List Fl) (w : World) (hf : Flds w v fs) (hl : fs.length ≤ 140737488355328) (hz : ∀ f ∈ fs, f.1.size ≤ 140737488355328 ∧ f.2.size ≤ 140737488355328) :
    Calls Tryd.prog 6 #[v] w fun e w' => e = .returned (.bool (fewL fs)) ∧ ∃ n, w' = w.drewN n := by
  rcases hf with ⟨rfl, a, cap, rfl⟩ | ⟨b, off, cap, rfl, hlt, hc⟩
  · go_enter Tryd.func6, Tryd.ntmps6
    go_wp2_with fail
    refine wp_loop_rounds 1 ?_
    rw [rounds_succ]
    go_wp2_with fail
    go_ret
    exact ⟨rfl, 0, rfl⟩
  · have HC := Lib.hid hc
    have HZ := Lib.hid hz
    clear hc hz
    go_enter Tryd.func6, Tryd.ntmps6
    go_wp2_with fail
    go_loopw [3, 4] (fun m i wr => ∃ k n : Nat, k ≤ fs.length ∧ n ≤ 3377699720527872 ∧ i = .int .i64 (k : Int) ∧ m = .int .i64 (n : Int) ∧ n + k = 20 * fs.length + tot (fs.take k) ∧ ∃ q, wr = w.drewN q) (fun _ i _ => fs.length - (intOf i).toNat)
    case atStart => exact ⟨0, 20 * fs.length, Nat.zero_le _, by omega, rfl, by go_num, by simp [tot], 0, rfl⟩
    case round =>
      obtain ⟨k, n, hk, hn, rfl, rfl, hsum, q, hw⟩ := hrel
      have HS := Lib.hid hsum
      have HW := Lib.hid hw
      clear hsum
      by_cases h4 : n < 3000
      · have d4 : decide ((n : Int) < 3000) = true := by simpa using (by omega : (n : Int) < 3000)
        by_cases hlt2 : k < fs.length
        · have hnx := HZ.out fs[k] (List.getElem_mem hlt2)
          have c1 : wr.cell? ⟨b, off + k * 2, none⟩ = some (.string fs[k].1) := by rw [hw]; exact (HC.out k hlt2).1
          have c2 : wr.cell? ⟨b, off + k * 2 + 1, none⟩ = some (.string fs[k].2) := by rw [hw]; exact (HC.out k hlt2).2
          have HT := Lib.hid (show tot (fs.take (k + 1)) = tot (fs.take k) + (fs[k].1.size + fs[k].2.size + 1) from by rw [take_next fs k hlt2, tot_append]; simp [tot])
          obtain ⟨x, hx⟩ : ∃ x, x = fs[k].1 := ⟨_, rfl⟩
          obtain ⟨y, hy⟩ : ∃ y, y = fs[k].2 := ⟨_, rfl⟩
          rw [← hx] at c1 hnx HT
          rw [← hy] at c2 hnx HT
          obtain ⟨hx1, hy1⟩ := hnx
          have w1 : IntKind.i64.wrap ((n : Int) + (x.size : Int)) = (n : Int) + (x.size : Int) := IntWalk.i64_in _ (by omega)
          have w2 : IntKind.i64.wrap ((n : Int) + (x.size : Int) + (y.size : Int)) = (n : Int) + (x.size : Int) + (y.size : Int) := IntWalk.i64_in _ (by omega)
          clear hx hy hw
          go_wp2_with fail
          go_quiet (fail)
          clear w1 w2
          go_wp2_with fail
          go_roundw
          case rel => exact ⟨k + 1, n + x.size + y.size, by omega, by omega, by go_num, by go_num, by rw [HT.out]; have := HS.out; omega, _, by rw [HW.out, World.drewN_drewN]⟩
          case measure => simp [intOf]; omega
        · have HV := Lib.hid (show fewL fs = true from by
            have h := HS.out
            rw [show k = fs.length from by omega, List.take_length] at h
            unfold fewL; rw [decide_eq_true_eq]; omega)
          clear hw
          go_wp2_with fail
          go_ret
          exact ⟨by rw [HV.out]; rfl, _, HW.out⟩
      · have HV := Lib.hid (show fewL fs = false from by
          have h := few_less fs k n hk HS.out
          unfold fewL; rw [decide_eq_false_iff_not]; omega)
        have d4 : decide ((n : Int) < 3000) = false := by rw [decide_eq_false_iff_not]; omega
        clear hw
        by_cases hlt2 : k < fs.length
        all_goals
          go_wp2_with fail
          go_ret
          exact ⟨by rw [HV.out]; rfl, _, HW.out⟩
end Go.Proofs.YtcnipjmeillfeaaDoor.Vr
