/-
  The reference's New: what it returns. No condition but numbers of an int.
-/
import Derived.Test.YtheljldoboiekaaSlHold
namespace Go.Proofs.Ytheljldoboiekaa.Sl
open Go.RowKit Go.Proofs.Ytheljldoboiekaa.Fd
set_option maxRecDepth 100000
set_option linter.unusedVariables false
set_option linter.unusedSimpArgs false

def NewR (bl : Nat → Int) (w : World) (e : Ending) (w' : World) : Prop :=
  Below w.heap.size w w' ∧
  (((∃ k, k < 4 ∧ bl k < 0) ∧ e = .returned (.tuple #[.pointer none, .int .i64 2])) ∨
   ((∀ k, k < 4 → 0 ≤ bl k) ∧ (∃ k, k < 4 ∧ 4096 < bl k) ∧ e = .returned (.tuple #[.pointer none, .int .i64 3])) ∨
   ((∀ k, k < 4 → 0 ≤ bl k ∧ bl k ≤ 4096) ∧ ∃ p, e = .returned (.tuple #[.pointer (some ⟨p, 0, none⟩), .int .i64 0]) ∧ RRel w' w.heap.size p (fun c => (bl c).toNat) (newA fun c => (bl c).toNat) 0))
set_option maxHeartbeats 4000000 in
theorem rnew_any (bl : Nat → Int) (w : World) : Calls Try.prog 9 #[.agg #[.int .i64 (bl 0), .int .i64 (bl 1), .int .i64 (bl 2), .int .i64 (bl 3)]] w (NewR bl w) := by
  obtain ⟨w1, hw1⟩ : ∃ w1, w1 = w.alloc (.cells #[.int .i64 (bl 0), .int .i64 (bl 1), .int .i64 (bl 2), .int .i64 (bl 3)] 22) := ⟨_, rfl⟩
  have hB1 : Below w.heap.size w w1 := by rw [hw1]; exact (Below.refl _ _).alloc (Nat.le_refl _) _
  have hbox : w1.heap[w.heap.size]? = some (.cells #[.int .i64 (bl 0), .int .i64 (bl 1), .int .i64 (bl 2), .int .i64 (bl 3)] 22 (0, 0)) := by rw [hw1]; exact new_block _ _
  have HCells := Lib.hid (show ∀ k, k < 4 → w1.cell? ⟨w.heap.size, k, none⟩ = some (.int .i64 (bl k)) from fun k hk => by
    rw [Lib.cell_of_heap hbox]
    rcases (by omega : k = 0 ∨ k = 1 ∨ k = 2 ∨ k = 3) with rfl | rfl | rfl | rfl <;> rfl)
  have hsz1 : w.heap.size < w1.heap.size := block_lt hbox
  have HB1 := Lib.hid hB1
  have HW1 := Lib.hid hw1
  clear hB1 hw1 hbox
  go_enter Try.func9, Try.ntmps9
  go_wp2_with fail
  rw [← HW1.out]
  go_loop [4] (fun j => ∃ k : Nat, k ≤ 4 ∧ j = .int .i64 (k : Int) ∧ ∀ i, i < k → 0 ≤ bl i) (fun j => 4 - (intOf j).toNat)
  case atStart => exact ⟨0, Nat.zero_le _, rfl, fun i hi => by omega⟩
  case round =>
    obtain ⟨k, hk, rfl, hf⟩ := hrel
    have HF := Lib.hid hf
    clear hf
    by_cases hlt : k < 4
    · have d0 := HCells.out k hlt
      by_cases h0 : bl k < 0
      · have H0 := Lib.hid h0
        generalize hbk : bl k = x at d0 h0
        clear hbk
        go_wp2_with fail
        go_ret2
        exact ⟨HB1.out, .inl ⟨⟨k, hlt, H0.out⟩, rfl⟩⟩
      · have HI := Lib.hid (show ∀ i, i < k + 1 → 0 ≤ bl i from fun i hi => by
          by_cases e : i = k
          · subst e; omega
          · exact HF.out i (by omega))
        generalize bl k = x at d0 h0
        go_wp2_with fail
        go_round
        case rel => exact ⟨k + 1, by omega, by go_num, HI.out⟩
        case measure => simp [intOf]; omega
    · obtain rfl : k = 4 := by omega
      go_wp2_with fail
      go_loop [5] (fun j => ∃ k : Nat, k ≤ 4 ∧ j = .int .i64 (k : Int) ∧ ∀ i, i < k → bl i ≤ 4096) (fun j => 4 - (intOf j).toNat)
      case atStart => exact ⟨0, Nat.zero_le _, rfl, fun i hi => by omega⟩
      case round =>
        obtain ⟨k, hk, rfl, hf⟩ := hrel
        have HF2 := Lib.hid hf
        clear hf
        by_cases hlt : k < 4
        · have d0 := HCells.out k hlt
          by_cases h0 : 4096 < bl k
          · have H0 := Lib.hid h0
            generalize hbk : bl k = x at d0 h0
            clear hbk
            go_wp2_with fail
            go_ret2
            exact ⟨HB1.out, .inr (.inl ⟨fun i hi => HF.out i hi, ⟨k, hlt, H0.out⟩, rfl⟩)⟩
          · have HI := Lib.hid (show ∀ i, i < k + 1 → bl i ≤ 4096 from fun i hi => by
              by_cases e : i = k
              · subst e; omega
              · exact HF2.out i (by omega))
            generalize bl k = x at d0 h0
            go_wp2_with fail
            go_round
            case rel => exact ⟨k + 1, by omega, by go_num, HI.out⟩
            case measure => simp [intOf]; omega
        · obtain rfl : k = 4 := by omega
          have d0 := HCells.out 0 (by decide)
          have d1 := HCells.out 1 (by decide)
          have d2 := HCells.out 2 (by decide)
          have d3 := HCells.out 3 (by decide)
          have HN := Lib.hid (show ∀ c, c < 4 → (((bl c).toNat : Nat) : Int) = bl c from fun c hc => by have := HF.out c hc; omega)
          have HR := Lib.hid (show RRel (w1.alloc (.cells #[.int .i64 (bl 0), .int .i64 (bl 1), .int .i64 (bl 2), .int .i64 (bl 3), .slice none 0 0] 70)) w.heap.size w1.heap.size (fun c => (bl c).toNat) (newA fun c => (bl c).toNat) 0 from
            ⟨⟨[], .slice none 0 0, ⟨by
              show _ = some (Obj.cells #[.int .i64 (((bl 0).toNat : Nat) : Int), .int .i64 (((bl 1).toNat : Nat) : Int), .int .i64 (((bl 2).toNat : Nat) : Int), .int .i64 (((bl 3).toNat : Nat) : Int), .slice none 0 0] _ _)
              rw [HN.out 0 (by decide), HN.out 1 (by decide), HN.out 2 (by decide), HN.out 3 (by decide)]; exact new_block _ _, World.ownsRow_nil _ _ _ _, fun x hx => by (cases hx), fun x hx => by (cases hx), List.nodup_nil, ⟨Nat.le_of_lt hsz1, by intro e; cases e⟩⟩, RelR.start _, Nat.le_refl _, fun x hx => by (cases hx)⟩, by decide⟩)
          go_wp2_with fail
          go_ret2
          exact ⟨HB1.out.alloc HB1.out.size _, .inr (.inr ⟨fun k hk => ⟨HF.out k hk, HF2.out k hk⟩, _, rfl, HR.out⟩)⟩
end Go.Proofs.Ytheljldoboiekaa.Sl
