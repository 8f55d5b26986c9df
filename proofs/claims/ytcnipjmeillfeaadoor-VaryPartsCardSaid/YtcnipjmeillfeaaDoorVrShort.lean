/-
  gatepostlaw11.short: what it returns. Conditions: none beyond the lengths that slices and texts can have.
-/
import Derived.Test.YtcnipjmeillfeaaDoorVrKey
import Derived.Deep.QuietTactic
import Derived.BigQuiet
namespace Go.Proofs.YtcnipjmeillfeaaDoor.Vr
open Go.RowKit Go.Proofs.YtcnipjmeillfeaaDoor.Tk Go.Proofs.YtcnipjmeillfeaaDoor.Fd Go.Proofs.YtcnipjmeillfeaaDoor.Hd
set_option linter.unusedVariables false

def shortL (ns : List ByteArray) : Bool := decide (5 * ns.length + (glue ns).length < 300)
theorem glue_size (ns : List ByteArray) (s : ByteArray) (h : s ∈ ns) : s.size ≤ (glue ns).length := by
  obtain ⟨k, hk, rfl⟩ := List.getElem_of_mem h
  have := glue_at ns k hk
  omega
theorem short_bounds {ns : List ByteArray} (h : shortL ns = true) : ns.length ≤ 60 ∧ ∀ s ∈ ns, s.size ≤ 300 := by
  unfold shortL at h
  have h := of_decide_eq_true h
  exact ⟨by omega, fun s hs => by have := glue_size ns s hs; omega⟩

set_option maxHeartbeats 2000000 in
theorem short_any (v : Value) (ns : List ByteArray) (w : World) (hs : Strs w v ns) (hl : ns.length ≤ 140737488355328) (hz : ∀ s ∈ ns, s.size ≤ 140737488355328) :
    Calls Tryd.prog 7 #[v] w fun e w' => e = .returned (.bool (shortL ns)) ∧ w' = w := by
  rcases strs_form hs with ⟨rfl, a, cap, rfl⟩ | ⟨b, off, cap, rfl, h0, hlt, hc⟩
  · clear hs hz hl
    go_enter Tryd.func7, Tryd.ntmps7
    go_wp2_with fail
    refine wp_loop_rounds 1 ?_
    rw [rounds_succ]
    go_wp2_with fail
    go_ret
    exact ⟨rfl, rfl⟩
  · have HC := Lib.hid hc
    have HZ := Lib.hid hz
    clear hs hc hz
    go_enter Tryd.func7, Tryd.ntmps7
    go_wp2_with fail
    go_loopw [3, 4] (fun m i wr => ∃ k n : Nat, k ≤ ns.length ∧ n ≤ 140737488400000 ∧ i = .int .i64 (k : Int) ∧ m = .int .i64 (n : Int) ∧ n = 5 * k + (glue (ns.take k)).length ∧ wr = w) (fun _ i _ => ns.length - (intOf i).toNat)
    case atStart => exact ⟨0, 0, Nat.zero_le _, by omega, rfl, rfl, by simp [glue], rfl⟩
    case round =>
      obtain ⟨k, n, hk, hn, rfl, rfl, hsum, rfl⟩ := hrel
      have HS := Lib.hid hsum
      clear hsum
      by_cases h4 : n < 300
      · have d4 : decide ((n : Int) < 300) = true := by simpa using (by omega : (n : Int) < 300)
        by_cases hlt2 : k < ns.length
        · have c1 : wr.cell? ⟨b, off + k, none⟩ = some (.string ns[k]) := HC.out k hlt2
          have hx2 : ns[k].size ≤ 140737488355328 := HZ.out _ (List.getElem_mem hlt2)
          have HN := Lib.hid (glue_next ns k hlt2)
          have HXL := Lib.hid (size_list ns[k])
          obtain ⟨x, hx⟩ : ∃ x, x = ns[k] := ⟨_, rfl⟩
          rw [← hx] at c1 hx2 HN HXL
          clear hx
          go_wp2_with fail
          go_roundw
          case rel => exact ⟨k + 1, n + 5 + x.size, by omega, by omega, by go_num, by go_num, by rw [HN.out, List.length_append, HXL.out]; have := HS.out; omega, by trivial⟩
          case measure => simp [intOf]; omega
        · have HV := Lib.hid (show shortL ns = true from by
            have h := HS.out
            rw [show k = ns.length from by omega, List.take_length] at h
            unfold shortL; rw [decide_eq_true_eq]; omega)
          go_wp2_with fail
          go_ret
          exact ⟨by rw [HV.out]; rfl, rfl⟩
      · have HV := Lib.hid (show shortL ns = false from by
          have h := HS.out
          have h2 := glue_take ns k
          unfold shortL; rw [decide_eq_false_iff_not]; omega)
        have d4 : decide ((n : Int) < 300) = false := by rw [decide_eq_false_iff_not]; omega
        by_cases hlt2 : k < ns.length
        all_goals
          go_wp2_with fail
          go_ret
          exact ⟨by rw [HV.out]; rfl, rfl⟩
end Go.Proofs.YtcnipjmeillfeaaDoor.Vr
