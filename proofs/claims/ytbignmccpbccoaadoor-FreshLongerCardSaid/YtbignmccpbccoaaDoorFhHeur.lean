/-
  fresh.Heuristic: what it returns. Condition: the listed table of codes.
-/
import Derived.Test.YtbignmccpbccoaaDoorFhClos
namespace Go.Proofs.YtbignmccpbccoaaDoor.Fh
open Go.RowKit Go.Proofs.YtbignmccpbccoaaDoor.Ct Go.Proofs.YtbignmccpbccoaaDoor.Fd
set_option linter.unusedVariables false

/-- The table of codes that are kept without being told, in memory. -/
def Codes (w : World) : Prop := ∀ n : Nat, n < 12 → w.cell? ⟨0, n, none⟩ = some (.int .i64 (codes.getD n 0))
theorem Codes.below {B : Nat} {w w' : World} (h : Codes w) (hb : Below B w w') (hg : 0 < B) : Codes w' := fun n hn => (hb.cell (p := ⟨0, n, none⟩) hg).trans (h n hn)
theorem Codes.lt {w : World} (h : Codes w) : 0 < w.heap.size := block_lt_of_cell (h 0 (by decide))
def codesArr : Value := .agg #[.int .i64 200, .int .i64 203, .int .i64 204, .int .i64 206, .int .i64 300, .int .i64 301, .int .i64 308, .int .i64 404, .int .i64 405, .int .i64 410, .int .i64 414, .int .i64 501]
theorem idx0 (w : World) : (Instr.index 40 codesArr (.int .i64 0)).run Tryd.prog w = .ok (.int .i64 200) w := by kernel_rfl
theorem idx1 (w : World) : (Instr.index 40 codesArr (.int .i64 1)).run Tryd.prog w = .ok (.int .i64 203) w := by kernel_rfl
theorem idx2 (w : World) : (Instr.index 40 codesArr (.int .i64 2)).run Tryd.prog w = .ok (.int .i64 204) w := by kernel_rfl
theorem idx3 (w : World) : (Instr.index 40 codesArr (.int .i64 3)).run Tryd.prog w = .ok (.int .i64 206) w := by kernel_rfl
theorem idx4 (w : World) : (Instr.index 40 codesArr (.int .i64 4)).run Tryd.prog w = .ok (.int .i64 300) w := by kernel_rfl
theorem idx5 (w : World) : (Instr.index 40 codesArr (.int .i64 5)).run Tryd.prog w = .ok (.int .i64 301) w := by kernel_rfl
theorem idx6 (w : World) : (Instr.index 40 codesArr (.int .i64 6)).run Tryd.prog w = .ok (.int .i64 308) w := by kernel_rfl
theorem idx7 (w : World) : (Instr.index 40 codesArr (.int .i64 7)).run Tryd.prog w = .ok (.int .i64 404) w := by kernel_rfl
theorem idx8 (w : World) : (Instr.index 40 codesArr (.int .i64 8)).run Tryd.prog w = .ok (.int .i64 405) w := by kernel_rfl
theorem idx9 (w : World) : (Instr.index 40 codesArr (.int .i64 9)).run Tryd.prog w = .ok (.int .i64 410) w := by kernel_rfl
theorem idx10 (w : World) : (Instr.index 40 codesArr (.int .i64 10)).run Tryd.prog w = .ok (.int .i64 414) w := by kernel_rfl
theorem idx11 (w : World) : (Instr.index 40 codesArr (.int .i64 11)).run Tryd.prog w = .ok (.int .i64 501) w := by kernel_rfl
theorem idx_any (k : Nat) (hk : k < 12) (w : World) : (Instr.index 40 codesArr (.int .i64 (k : Int))).run Tryd.prog w = .ok (.int .i64 (codes.getD k 0)) w := by
  match k, hk with
  | 0, _ => exact idx0 w
  | 1, _ => exact idx1 w
  | 2, _ => exact idx2 w
  | 3, _ => exact idx3 w
  | 4, _ => exact idx4 w
  | 5, _ => exact idx5 w
  | 6, _ => exact idx6 w
  | 7, _ => exact idx7 w
  | 8, _ => exact idx8 w
  | 9, _ => exact idx9 w
  | 10, _ => exact idx10 w
  | 11, _ => exact idx11 w
def seen (k : Nat) (n : Int) : Bool := (codes.take k).contains n
theorem seen_next (k : Nat) (hk : k < 12) (n : Int) : seen (k + 1) n = (seen k n || decide (n = codes.getD k 0)) := by
  match k, hk with
  | 0, _ | 1, _ | 2, _ | 3, _ | 4, _ | 5, _ | 6, _ | 7, _ | 8, _ | 9, _ | 10, _ | 11, _ => simp [seen, codes, List.take, Bool.or_assoc]
theorem seen_all (n : Int) : seen 12 n = heurOf n := rfl
theorem seen_more (k : Nat) (hk : k < 12) (n : Int) (h : (codes.getD k 0 == n) = true) : heurOf n = true := by
  have hn : codes.getD k 0 = n := beq_iff_eq.1 h
  subst hn
  match k, hk with
  | 0, _ | 1, _ | 2, _ | 3, _ | 4, _ | 5, _ | 6, _ | 7, _ | 8, _ | 9, _ | 10, _ | 11, _ => rfl
set_option maxHeartbeats 1000000 in
theorem heur_any (n : Int) (w : World) (hC : Codes w) : Calls Tryd.prog 14 #[.int .i64 n] w fun e w' => e = .returned (.bool (heurOf n)) ∧ w = w' := by
  have c0 := hC 0 (by decide)
  have c1 := hC 1 (by decide)
  have c2 := hC 2 (by decide)
  have c3 := hC 3 (by decide)
  have c4 := hC 4 (by decide)
  have c5 := hC 5 (by decide)
  have c6 := hC 6 (by decide)
  have c7 := hC 7 (by decide)
  have c8 := hC 8 (by decide)
  have c9 := hC 9 (by decide)
  have c10 := hC 10 (by decide)
  have c11 := hC 11 (by decide)
  simp only [codes, List.getD_cons_zero, List.getD_cons_succ] at c0 c1 c2 c3 c4 c5 c6 c7 c8 c9 c10 c11
  clear hC
  go_enter Tryd.func14, Tryd.ntmps14
  go_wp2_with fail
  clear c0 c1 c2 c3 c4 c5 c6 c7 c8 c9 c10 c11
  go_loop [6] (fun i => ∃ k : Nat, k ≤ 12 ∧ i = .int .i64 (k : Int) ∧ seen k n = false) (fun i => 12 - (intOf i).toNat)
  case atStart => exact ⟨0, by omega, rfl, rfl⟩
  case round =>
    obtain ⟨k, hk, rfl, hs⟩ := hrel
    by_cases hlt : k < 12
    · have hi := idx_any k hlt
      unfold codesArr at hi
      have HN := Lib.hid (seen_next k hlt n)
      have HM := Lib.hid (seen_more k hlt n)
      have HS := Lib.hid hs
      clear hs
      obtain ⟨c, hc⟩ : ∃ c, codes.getD k 0 = c := ⟨_, rfl⟩
      rw [hc] at hi HN HM
      clear hc
      by_cases e : c = n
      · have e1 : (c == n) = true := beq_iff_eq.2 e
        have HT := Lib.hid (HM.out e1)
        clear HN HM e
        go_wp2_with fail
        go_ret
        exact ⟨by rw [HT.out]; rfl, rfl⟩
      · have e1 : (c == n) = false := beq_eq_false_iff_ne.2 e
        have HT := Lib.hid (show seen (k + 1) n = false from by rw [HN.out, HS.out]; simp only [Bool.false_or, decide_eq_false_iff_not]; exact fun h => beq_eq_false_iff_ne.1 e1 h.symm)
        clear HN HM HS e
        go_wp2_with fail
        go_round
        case rel => exact ⟨k + 1, by omega, by go_num, HT.out⟩
        case measure => simp [intOf]; omega
    · obtain rfl : k = 12 := by omega
      rw [seen_all] at hs
      have HS := Lib.hid hs
      clear hs
      go_wp2_with fail
      go_ret
      exact ⟨by rw [HS.out]; rfl, rfl⟩
end Go.Proofs.YtbignmccpbccoaaDoor.Fh
