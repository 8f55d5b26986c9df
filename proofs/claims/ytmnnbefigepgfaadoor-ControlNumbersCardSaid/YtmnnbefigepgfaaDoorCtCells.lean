/-
  What is said, in a struct's cells; control.silent, gatepostref08.None, both functions that take the less of two numbers: what each returns. No condition but what each states.
-/
import Derived.Test.YtmnnbefigepgfaaDoorCtMath
import Derived.Test.YtmnnbefigepgfaaDoorFdKit
import Derived.Test.YtmnnbefigepgfaaDoorHdChg
namespace Go.Proofs.YtmnnbefigepgfaaDoor.Ct
open Go.RowKit Go.Proofs.YtmnnbefigepgfaaDoor.Tk Go.Proofs.YtmnnbefigepgfaaDoor.Fd Go.Proofs.YtmnnbefigepgfaaDoor.Hd
set_option linter.unusedVariables false

/-- What is said, in a struct's cells. -/
def cells (c : Con) : Array Value := #[.bool c.ns, .bool c.nc, .bool c.pr, .bool c.pu, .bool c.mu, .bool c.px, .bool c.oc, .int .i64 c.ag, .int .i64 c.sh, .int .i64 c.wh, .int .i64 c.ie, .int .i64 c.mf, .int .i64 c.ms]
/-- A struct of no call. -/
def blank13 : Array Value := #[.bool false, .bool false, .bool false, .bool false, .bool false, .bool false, .bool false, .int .i64 0, .int .i64 0, .int .i64 0, .int .i64 0, .int .i64 0, .int .i64 0]
def ConAt (w : World) (g : Nat) (c : Con) : Prop := w.heap[g]? = some (.cells (cells c) 26 (0, 0))
theorem infoCon : (Tryd.prog.info? 26).map (·.size) = some 13 := by kernel_rfl
theorem infoConZ : (Tryd.prog.info? 26).map (fun i => i.zero) = some (some (.agg blank13)) := by kernel_rfl
theorem cells_size (c : Con) : (cells c).size = 13 := rfl
theorem conAt_cell {w : World} {g : Nat} {c : Con} (h : ConAt w g c) (i : Nat) : w.cell? ⟨g, i, none⟩ = (cells c)[i]? := by rw [Lib.cell_of_heap h]

set_option maxRecDepth 100000 in
theorem silent_any (w : World) : Calls Tryd.prog 12 #[] w fun e w' => e = .returned (.agg #[.bool false, .bool false, .bool false, .bool false, .bool false, .bool false, .bool false, .int .i64 (-1), .int .i64 (-1), .int .i64 (-1), .int .i64 (-1), .int .i64 (-1), .int .i64 (-1)]) ∧ Below w.heap.size w w' := by
  go_enter Tryd.func12, Tryd.ntmps12
  go_wp2_with fail
  refine bodyPost_ret (results_one rfl _ _ w.heap.size 26 _ (0, 0) _ rfl (new_block _ _) Tryd.underlying26 rfl infoCon) rfl ?_
  exact ⟨rfl, (Below.refl _ _).alloc (Nat.le_refl _) _⟩
set_option maxRecDepth 100000 in
theorem none_any (w : World) : Calls Tryd.prog 17 #[] w fun e w' => e = .returned (.agg #[.bool false, .bool false, .bool false, .bool false, .bool false, .bool false, .bool false, .int .i64 (-1), .int .i64 (-1), .int .i64 (-1), .int .i64 (-1), .int .i64 (-1), .int .i64 (-1)]) ∧ Below w.heap.size w w' := by
  go_enter Tryd.func17, Tryd.ntmps17
  go_wp2_with fail
  refine bodyPost_ret (results_one rfl _ _ w.heap.size 26 _ (0, 0) _ rfl (new_block _ _) Tryd.underlying26 rfl infoCon) rfl ?_
  exact ⟨rfl, (Below.refl _ _).alloc (Nat.le_refl _) _⟩

/-- The less of two numbers, of which one may be unsaid. -/
def leastP (a b : Int) : Int := if a = -1 then b else if b = -1 then a else min a b
theorem leastP_least {a b : Int} (ha : -1 ≤ a) (hb : 0 ≤ b) : leastP a b = least a b := by
  unfold leastP least
  by_cases h1 : a = -1
  · rw [if_pos h1, if_pos (by omega)]
  · rw [if_neg h1, if_neg (by omega)]
    split <;> omega
theorem leastP_unsaid {a : Int} (ha : -1 ≤ a) : leastP a (-1) = a := by
  unfold leastP
  by_cases h1 : a = -1
  · rw [if_pos h1, h1]
  · rw [if_neg h1, if_pos rfl]
theorem leastP_bd {a b : Int} (ha : -1 ≤ a) (hb : -1 ≤ b) : -1 ≤ leastP a b := by unfold leastP; split; exact hb; split <;> omega

theorem leastP_any (a b : Int) (w : World) : Calls Tryd.prog 48 #[.int .i64 a, .int .i64 b] w fun e w' => e = .returned (.int .i64 (leastP a b)) ∧ w = w' := by
  by_cases h1 : a = -1
  · subst h1
    have HV := Lib.hid (show leastP (-1) b = b from rfl)
    go_enter Tryd.func48, Tryd.ntmps48
    go_wp2_with fail
    go_ret
    exact ⟨by rw [HV.out]; rfl, rfl⟩
  · have t1 : (a == -1) = false := by simpa using h1
    by_cases h2 : b = -1
    · subst h2
      have HV := Lib.hid (show leastP a (-1) = a from by unfold leastP; rw [if_neg h1, if_pos rfl])
      go_enter Tryd.func48, Tryd.ntmps48
      go_wp2_with fail
      go_ret
      exact ⟨by rw [HV.out]; rfl, rfl⟩
    · have t2 : (b == -1) = false := by simpa using h2
      have HV := Lib.hid (show leastP a b = min a b from by unfold leastP; rw [if_neg h1, if_neg h2])
      go_enter Tryd.func48, Tryd.ntmps48
      go_wp2_with fail
      · refine bodyPost_ret (results_tmp rfl _ _ _) rfl ?_
        exact ⟨by rw [HV.out, Int.min_eq_right (by omega)]; rfl, rfl⟩
      · refine bodyPost_ret (results_tmp rfl _ _ _) rfl ?_
        exact ⟨by rw [HV.out, Int.min_eq_left (by omega)]; rfl, rfl⟩
theorem least_any (a b : Int) (w : World) : Calls Tryd.prog 22 #[.int .i64 a, .int .i64 b] w fun e w' => e = .returned (.int .i64 (least a b)) ∧ w = w' := by
  by_cases h1 : a < 0 ∨ b < a
  · have HV := Lib.hid (show least a b = b from by unfold least; rw [if_pos h1])
    go_enter Tryd.func22, Tryd.ntmps22
    rcases h1 with h1 | h1
    · go_wp2
      go_ret
      exact ⟨by rw [HV.out]; rfl, rfl⟩
    · by_cases h3 : a < 0
      · go_wp2
        go_ret
        exact ⟨by rw [HV.out]; rfl, rfl⟩
      · go_wp2
        go_ret
        exact ⟨by rw [HV.out]; rfl, rfl⟩
  · have HV := Lib.hid (show least a b = a from by unfold least; rw [if_neg h1])
    have h2 : ¬ a < 0 := fun h => h1 (.inl h)
    have h3 : ¬ b < a := fun h => h1 (.inr h)
    clear h1
    go_enter Tryd.func22, Tryd.ntmps22
    go_wp2
    go_ret
    exact ⟨by rw [HV.out]; rfl, rfl⟩

/-- w' is w with one cell turned; draws don't count. -/
structure PutAt (w w' : World) (a : Addr) (v : Value) : Prop where
  os : w'.os = w.os
  tape : w'.tape = w.tape
  output : w'.output = w.output
  heap : w'.heap = (w.setCell a v).heap
theorem PutAt.size {w w' : World} {a : Addr} {v : Value} (h : PutAt w w' a v) : w'.heap.size = w.heap.size := by rw [h.heap]; simp [World.setCell]
theorem PutAt.far {w w' : World} {a : Addr} {v : Value} (h : PutAt w w' a v) {k : Nat} (hk : k ≠ a.block) : w'.heap[k]? = w.heap[k]? := by rw [h.heap]; exact Below.heap_setCell _ _ _ _ hk
theorem PutAt.below {B : Nat} {w0 w w' : World} {a : Addr} {v : Value} (h : PutAt w w' a v) (hb : Below B w0 w) (ha : B ≤ a.block) : Below B w0 w' := by
  have h2 := hb.setCell (p := a) ha v
  exact ⟨h.os.trans hb.os, h.tape.trans hb.tape, h.output.trans hb.output, by rw [h.heap]; exact h2.size, fun k hk => by rw [h.heap]; exact h2.block k hk⟩
theorem PutAt.con {w w' : World} {g i : Nat} {v : Value} {c c' : Con} (h : PutAt w w' ⟨g, i, none⟩ v) (hc : ConAt w g c) (e : (cells c).setIfInBounds i v = cells c') : ConAt w' g c' := by
  unfold ConAt at hc ⊢
  rw [h.heap, heap_put hc, e]

/-! Closures: what a directive does. -/
theorem flag1_any (g i b : Nat) (x : Value) (v : ByteArray) (has : Bool) (w : World) (hb : w.heap[b]? = some (.cells #[.pointer (some ⟨g, i, none⟩)] 60 (0, 0))) (hx : w.cell? ⟨g, i, none⟩ = some x) (hf : w.frozen? ⟨g, i, none⟩ = false) :
    Calls Tryd.prog 45 #[.string v, .bool has, .pointer (some ⟨b, 0, none⟩)] w fun e w' => e = .returned (.tuple #[]) ∧ PutAt w w' ⟨g, i, none⟩ (.bool true) := by
  have c1 : w.cell? ⟨b, 0, none⟩ = some (.pointer (some ⟨g, i, none⟩)) := by rw [Lib.cell_of_heap hb]; rfl
  clear hb
  go_enter Tryd.func45, Tryd.ntmps45
  go_wp2
  go_end0
  exact ⟨rfl, rfl, rfl, rfl, rfl⟩
end Go.Proofs.YtmnnbefigepgfaaDoor.Ct
