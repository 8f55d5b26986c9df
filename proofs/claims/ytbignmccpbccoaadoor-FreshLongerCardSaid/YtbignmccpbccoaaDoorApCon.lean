/-
  A Control, in cells: what lies where, what a store leaves. No condition.
-/
import Derived.Test.YtbignmccpbccoaaDoorApMath
import Derived.Test.YtbignmccpbccoaaDoorKit
namespace Go.Proofs.YtbignmccpbccoaaDoor.Ct
open Go.RowKit Go.Proofs.YtbignmccpbccoaaDoor.Fd
set_option linter.unusedVariables false

/-- What is said, in a struct's cells. -/
def cells (c : Con) : Array Value := #[.bool c.ns, .bool c.nc, .bool c.pr, .bool c.pu, .bool c.mu, .bool c.px, .bool c.oc, .int .i64 c.ag, .int .i64 c.sh, .int .i64 c.wh, .int .i64 c.ie, .int .i64 c.mf, .int .i64 c.ms]
/-- A struct of no call. -/
def blank13 : Array Value := #[.bool false, .bool false, .bool false, .bool false, .bool false, .bool false, .bool false, .int .i64 0, .int .i64 0, .int .i64 0, .int .i64 0, .int .i64 0, .int .i64 0]
def ConAt (w : World) (g : Nat) (c : Con) : Prop := w.heap[g]? = some (.cells (cells c) 23 (0, 0))
theorem infoCon : (Tryd.prog.info? 23).map (·.size) = some 13 := by kernel_rfl
theorem infoConZ : (Tryd.prog.info? 23).map (fun i => i.zero) = some (some (.agg blank13)) := by kernel_rfl
theorem cells_size (c : Con) : (cells c).size = 13 := rfl
theorem conAt_cell {w : World} {g : Nat} {c : Con} (h : ConAt w g c) (i : Nat) : w.cell? ⟨g, i, none⟩ = (cells c)[i]? := by rw [Lib.cell_of_heap h]

/-- w' is w with one cell turned; draws don't count. -/
structure PutAt (w w' : World) (a : Addr) (v : Value) : Prop where
  os : w'.os = w.os
  tape : w'.tape = w.tape
  output : w'.output = w.output
  heap : w'.heap = (w.setCell a v).heap
theorem PutAt.size {w w' : World} {a : Addr} {v : Value} (h : PutAt w w' a v) : w'.heap.size = w.heap.size := by rw [h.heap]; simp [World.setCell]
theorem PutAt.far {w w' : World} {a : Addr} {v : Value} (h : PutAt w w' a v) {k : Nat} (hk : k ≠ a.block) : w'.heap[k]? = w.heap[k]? := by rw [h.heap]; exact Below.heap_setCell _ _ _ _ hk
theorem PutAt.below {B : Nat} {w0 w w' : World} {a : Addr} {v : Value} (h : PutAt w w' a v) (hb : Below B w0 w) (ha : B ≤ a.block) : Below B w0 w' := by
  have h2 := hb.setCell (p := a) ha v
  exact ⟨h.os.trans hb.os, h.tape.trans hb.tape, h.output.trans hb.output, by rw [h.heap]; exact h2.size, fun k hk => by rw [h.heap]; exact h2.block k hk⟩
theorem PutAt.con {w w' : World} {g i : Nat} {v : Value} {c c' : Con} (h : PutAt w w' ⟨g, i, none⟩ v) (hc : ConAt w g c) (e : (cells c).setIfInBounds i v = cells c') : ConAt w' g c' := by
  unfold ConAt at hc ⊢
  rw [h.heap, heap_put hc, e]

/-- A struct's cells, one by one. -/
theorem thirteen {w : World} {g : Nat} {c : Con} (h : ConAt w g c) : w.cell? ⟨g, 0, none⟩ = some (.bool c.ns) ∧ w.cell? ⟨g, 1, none⟩ = some (.bool c.nc) ∧ w.cell? ⟨g, 2, none⟩ = some (.bool c.pr) ∧ w.cell? ⟨g, 3, none⟩ = some (.bool c.pu) ∧ w.cell? ⟨g, 4, none⟩ = some (.bool c.mu) ∧ w.cell? ⟨g, 5, none⟩ = some (.bool c.px) ∧ w.cell? ⟨g, 6, none⟩ = some (.bool c.oc) ∧
    w.cell? ⟨g, 7, none⟩ = some (.int .i64 c.ag) ∧ w.cell? ⟨g, 8, none⟩ = some (.int .i64 c.sh) ∧ w.cell? ⟨g, 9, none⟩ = some (.int .i64 c.wh) ∧ w.cell? ⟨g, 10, none⟩ = some (.int .i64 c.ie) ∧ w.cell? ⟨g, 11, none⟩ = some (.int .i64 c.mf) ∧ w.cell? ⟨g, 12, none⟩ = some (.int .i64 c.ms) := by
  refine ⟨?_, ?_, ?_, ?_, ?_, ?_, ?_, ?_, ?_, ?_, ?_, ?_, ?_⟩ <;> (rw [conAt_cell h]; rfl)
theorem blanks {w : World} {g : Nat} {t : TypeId} (h : w.heap[g]? = some (.cells blank13 t (0, 0))) : (w.cell? ⟨g, 0, none⟩ = some (.bool false) ∧ w.cell? ⟨g, 1, none⟩ = some (.bool false) ∧ w.cell? ⟨g, 2, none⟩ = some (.bool false) ∧ w.cell? ⟨g, 3, none⟩ = some (.bool false) ∧ w.cell? ⟨g, 4, none⟩ = some (.bool false) ∧ w.cell? ⟨g, 5, none⟩ = some (.bool false) ∧ w.cell? ⟨g, 6, none⟩ = some (.bool false) ∧
    w.cell? ⟨g, 7, none⟩ = some (.int .i64 0) ∧ w.cell? ⟨g, 8, none⟩ = some (.int .i64 0) ∧ w.cell? ⟨g, 9, none⟩ = some (.int .i64 0) ∧ w.cell? ⟨g, 10, none⟩ = some (.int .i64 0) ∧ w.cell? ⟨g, 11, none⟩ = some (.int .i64 0) ∧ w.cell? ⟨g, 12, none⟩ = some (.int .i64 0)) := by
  refine ⟨?_, ?_, ?_, ?_, ?_, ?_, ?_, ?_, ?_, ?_, ?_, ?_, ?_⟩ <;> (rw [Lib.cell_of_heap h]; rfl)

/-- A struct stored, cell by cell. -/
def setL (r : Nat) : Nat → List Value → World → World
  | _, [], W => W
  | i, x :: xs, W => setL r (i + 1) xs (W.setCell ⟨r, i, none⟩ x)
def writeL : Nat → List Value → Array Value → Array Value
  | _, [], cs => cs
  | i, x :: xs, cs => writeL (i + 1) xs (cs.setIfInBounds i x)
theorem setL_at {r : Nat} {t : TypeId} {fr : Nat × Nat} : ∀ (xs : List Value) (i : Nat) (W : World) (cs : Array Value), W.heap[r]? = some (.cells cs t fr) → (setL r i xs W).heap[r]? = some (.cells (writeL i xs cs) t fr)
  | [], _, _, _, h => h
  | x :: xs, i, W, cs, h => setL_at xs (i + 1) _ _ (heap_put h i x)
theorem setL_below {B r : Nat} {w0 : World} (hr : B ≤ r) : ∀ (xs : List Value) (i : Nat) (W : World), Below B w0 W → Below B w0 (setL r i xs W)
  | [], _, _, h => h
  | x :: xs, i, W, h => setL_below hr xs (i + 1) _ (h.setCell (p := ⟨r, i, none⟩) hr x)
theorem setL_far {r k : Nat} (hk : k ≠ r) : ∀ (xs : List Value) (i : Nat) (W : World), (setL r i xs W).heap[k]? = W.heap[k]?
  | [], _, _ => rfl
  | x :: xs, i, W => (setL_far hk xs (i + 1) _).trans (Below.heap_setCell _ _ _ _ hk)
def conL (c : Con) : List Value := [.bool c.ns, .bool c.nc, .bool c.pr, .bool c.pu, .bool c.mu, .bool c.px, .bool c.oc, .int .i64 c.ag, .int .i64 c.sh, .int .i64 c.wh, .int .i64 c.ie, .int .i64 c.mf, .int .i64 c.ms]
theorem write_con (c : Con) : writeL 0 (conL c) blank13 = cells c := by kernel_rfl
def set13 (W : World) (r : Nat) (c : Con) : World := setL r 0 (conL c) W
theorem set13_at {W : World} {r : Nat} (h : W.heap[r]? = some (.cells blank13 23 (0, 0))) (c : Con) : ConAt (set13 W r c) r c := by
  have h1 := setL_at (conL c) 0 W blank13 h
  rw [write_con] at h1
  exact h1
theorem set13_below {B : Nat} {w0 W : World} {r : Nat} (hb : Below B w0 W) (hr : B ≤ r) (c : Con) : Below B w0 (set13 W r c) := setL_below hr _ _ _ hb

theorem cellAt_of {w : World} {g : Nat} {cs : Array Value} {t : TypeId} {fr : Nat × Nat} (h : w.heap[g]? = some (.cells cs t fr)) (i : Nat) {x : Value} (hx : cs[i]? = some x) : w.cell? ⟨g, i, none⟩ = some x := by rw [Lib.cell_of_heap h, hx]
end Go.Proofs.YtbignmccpbccoaaDoor.Ct
