/-
  gatepostref04.Same at two slices that read as the same fields: true. Condition: at most 2^40 fields.
-/
import Derived.Test.YtlnlihkljnkhiaaDoorFdFlds
namespace Go.Proofs.YtlnlihkljnkhiaaDoor.Fd
open Go.RowKit Tk
set_option linter.unusedVariables false

set_option maxHeartbeats 2000000 in
theorem sameL_any (v u : Value) (fs : List Fl) (w : World) (hv : Flds w v fs) (hu : Flds w u fs) (hl : fs.length ≤ 1099511627776) :
    Calls Tryd.prog 27 #[v, u] w fun e w' => e = .returned (.bool true) ∧ ∃ n, w' = w.drewN n := by
  by_cases h0 : fs.length = 0
  · obtain rfl : fs = [] := List.length_eq_zero_iff.1 h0
    obtain ⟨a, cap, rfl⟩ := hv.shape
    obtain ⟨b, cap2, rfl⟩ := hu.shape
    clear hv hu h0
    go_enter Tryd.func27, Tryd.ntmps27
    go_wp2_with fail
    refine wp_loop_rounds 1 ?_
    rw [rounds_succ]
    go_wp2_with fail
    go_ret
    exact ⟨rfl, 0, rfl⟩
  · rcases hv with ⟨h, _⟩ | ⟨g, off, cap, rfl, _, hc⟩
    · rw [h] at h0; exact absurd rfl h0
    rcases hu with ⟨h, _⟩ | ⟨g2, off2, cap2, rfl, _, hc2⟩
    · rw [h] at h0; exact absurd rfl h0
    have hne : ((fs.length : Int) != (fs.length : Int)) = false := by simp
    have HC := Lib.hid hc
    have HC2 := Lib.hid hc2
    clear hc hc2 h0
    go_enter Tryd.func27, Tryd.ntmps27
    go_wp2_with fail
    go_loopw [5] (fun i wr => ∃ k : Nat, k ≤ fs.length ∧ i = .int .i64 (k : Int) ∧ ∃ n, wr = w.drewN n) (fun i _ => fs.length - (intOf i).toNat)
    case atStart => exact ⟨0, Nat.zero_le _, rfl, ⟨0, rfl⟩⟩
    case round =>
      obtain ⟨k, hk, rfl, n, hw⟩ := hrel
      have HW := Lib.hid hw
      by_cases hlt : k < fs.length
      · have c1 : wr.cell? ⟨g, off + k * 2, none⟩ = some (.string fs[k].1) := by rw [hw]; exact (HC.out k hlt).1
        have c2 : wr.cell? ⟨g, off + k * 2 + 1, none⟩ = some (.string fs[k].2) := by rw [hw]; exact (HC.out k hlt).2
        have d1 : wr.cell? ⟨g2, off2 + k * 2, none⟩ = some (.string fs[k].1) := by rw [hw]; exact (HC2.out k hlt).1
        have d2 : wr.cell? ⟨g2, off2 + k * 2 + 1, none⟩ = some (.string fs[k].2) := by rw [hw]; exact (HC2.out k hlt).2
        obtain ⟨x, hx⟩ : ∃ x, x = fs[k].1 := ⟨_, rfl⟩
        obtain ⟨y, hy⟩ : ∃ y, y = fs[k].2 := ⟨_, rfl⟩
        rw [← hx] at c1 d1
        rw [← hy] at c2 d2
        have ht : (!(x.toList == x.toList)) = false := by simp
        have hu : (!(y.toList == y.toList)) = false := by simp
        clear hx hy hw
        go_wp2_with fail
        go_quiet (fail)
        go_wp2_with fail
        go_roundw
        case rel => exact ⟨k + 1, by omega, by go_num, _, by rw [HW.out, World.drewN_drewN]⟩
        case measure => simp [intOf]; omega
      · clear hw
        go_wp2_with fail
        go_ret
        exact ⟨rfl, n, HW.out⟩
end Go.Proofs.YtlnlihkljnkhiaaDoor.Fd
