/-
  The reference's in: what it returns. Condition: at most 2^63 spans.
-/
import Derived.Test.YtifceaffglomaaaSpLw
import Derived.Deep.DeepCutAuto
namespace Go.Proofs.Ytifceaffglomaaa.Sn
open Go.RowKit Go.Proofs.Ytifceaffglomaaa.Fd
set_option maxRecDepth 100000
set_option linter.unusedVariables false

set_option maxHeartbeats 4000000 in
theorem rin_any (v : Value) (l : List Sp) (z : Int) (w : World) (h : Spans w v l) (hl : l.length ≤ 9223372036854775807) :
    Calls Try.prog 38 #[v, .int .i64 z] w fun e w' => e = .returned (.bool (memB l z)) ∧ w' = w := by
  rcases h with ⟨rfl, a, cap, rfl⟩ | ⟨b, off, cap, rfl, _, _, hlt, hs⟩
  · go_enter Try.func38, Try.ntmps38
    go_wp2_with fail
    refine wp_loop_rounds 1 ?_
    rw [rounds_succ]
    go_wp2_with fail
    go_ret
    exact ⟨rfl, rfl⟩
  · have HS := Lib.hid hs
    clear hs
    go_enter Try.func38, Try.ntmps38
    go_wp2_with fail
    go_loopw [5] (fun i wr => ∃ k : Nat, k ≤ l.length ∧ i = .int .i64 (k : Int) ∧ memB l z = memB (l.drop k) z ∧ wr = w) (fun i _ => l.length - (intOf i).toNat)
    case atStart => exact ⟨0, Nat.zero_le _, rfl, rfl, rfl⟩
    case round =>
      obtain ⟨k, hk, rfl, hg, hwr⟩ := hrel
      have hwr := hwr.symm
      subst hwr
      have HG := Lib.hid hg
      clear hg
      by_cases hlt2 : k < l.length
      · have hd := drop_cons l k hlt2
        have c0 := (HS.out k hlt2).1
        have c1 := (HS.out k hlt2).2
        obtain ⟨x, hx⟩ : ∃ x, x = l[k].1 := ⟨_, rfl⟩
        obtain ⟨y, hy⟩ : ∃ y, y = l[k].2 := ⟨_, rfl⟩
        rw [show l[k] = (l[k].1, l[k].2) from rfl, ← hx, ← hy] at hd
        rw [← hx] at c0
        rw [← hy] at c1
        rw [hd, memB_cons] at HG
        clear hx hy hd
        by_cases h1 : x ≤ z
        · by_cases h2 : z < y
          · have HN := Lib.hid (show memB l z = true from by rw [HG.out]; simp [h1, h2])
            go_wp2_with fail
            go_ret
            exact ⟨by rw [HN.out]; rfl, rfl⟩
          · have HN := Lib.hid (show memB l z = memB (l.drop (k + 1)) z from by rw [HG.out]; simp [h2])
            go_wp2_with fail
            go_roundw
            case rel => exact ⟨k + 1, by omega, by go_num, HN.out, trivial⟩
            case measure => simp [intOf]; omega
        · have HN := Lib.hid (show memB l z = memB (l.drop (k + 1)) z from by rw [HG.out]; simp [h1])
          go_wp2_with fail
          go_roundw
          case rel => exact ⟨k + 1, by omega, by go_num, HN.out, trivial⟩
          case measure => simp [intOf]; omega
      · have HN := Lib.hid (show memB l z = false from by rw [HG.out, List.drop_of_length_le (by omega)]; rfl)
        go_wp2_with fail
        go_ret
        exact ⟨by rw [HN.out]; rfl, rfl⟩
end Go.Proofs.Ytifceaffglomaaa.Sn
