/-
  field.clone: what it returns. Condition: texts of at most 2^47 bytes.
-/
import Derived.Test.YtacnlohfipcbdaaDoorFdKit
import Derived.Test.YtacnlohfipcbdaaDoorTokCloneA
import Derived.Deep.RegionHeld3
namespace Go.Proofs.YtacnlohfipcbdaaDoor.Fd
open Go.RowKit Tk
set_option linter.unusedVariables false

/-- What a cell holds. -/
def valAt (W : World) (a : Addr) : Value := (W.cell? a).getD undef
theorem valAt_of {W : World} {a : Addr} {x : Value} (h : W.cell? a = some x) : W.cell? a = some (valAt W a) := by unfold valAt; rw [h]; rfl
/-- The parameter's box, and the result's, behind a call's start. -/
structure KC (w : World) (n v : ByteArray) (W : World) : Prop where
  box : W.heap[w.heap.size]? = some (.cells #[.string n, .string v] 23 (0, 0))
  res : ∃ x y, W.heap[w.heap.size + 1]? = some (.cells #[x, y] 23 (0, 0))
  bel : Below w.heap.size w W
theorem KC.more {w : World} {n v : ByteArray} {W W' : World} (h : KC w n v W) (hb : Below W.heap.size W W') : KC w n v W' := by
  obtain ⟨x, y, hr⟩ := h.res
  exact ⟨Bl.old hb (block_lt h.box) h.box, ⟨x, y, Bl.old hb (block_lt hr) hr⟩, Bl.next h.bel hb⟩
theorem KC.drew {w : World} {n v : ByteArray} {W : World} (h : KC w n v W) : KC w n v W.drew := ⟨h.box, h.res, h.bel.drew⟩
theorem heap_far (w : World) (a : Addr) (u : Value) {k : Nat} (h : k ≠ a.block) : (w.setCell a u).heap[k]? = w.heap[k]? := Below.heap_setCell w a u k h
theorem KC.put {w : World} {n v : ByteArray} {W : World} (h : KC w n v W) (x y : Value) : KC w n v ((W.setCell ⟨w.heap.size + 1, 0, none⟩ x).setCell ⟨w.heap.size + 1, 1, none⟩ y) := by
  obtain ⟨a, b, hr⟩ := h.res
  refine ⟨?_, ⟨x, y, put2 hr x y⟩, put2_below h.bel (by omega) _ _⟩
  rw [heap_far _ _ _ (by show w.heap.size ≠ w.heap.size + 1; omega), heap_far _ _ _ (by show w.heap.size ≠ w.heap.size + 1; omega)]
  exact h.box
theorem kc_new (w : World) (n v : ByteArray) : KC w n v ((w.alloc (.cells #[.string n, .string v] 23)).alloc (.cells #[.string ⟨#[]⟩, .string ⟨#[]⟩] 23)) :=
  ⟨(old_block _ _ (by simp)).trans (new_block _ _), ⟨_, _, new_block' _ _ (by simp)⟩, ((Below.refl _ _).alloc (Nat.le_refl _) _).alloc (by simp) _⟩
/-- What the region's loads and its store ask. -/
def SC (w : World) (n v : ByteArray) (W : World) : Prop :=
  W.cell? ⟨w.heap.size, 0, none⟩ = some (.string n) ∧ W.cell? ⟨w.heap.size, 1, none⟩ = some (.string v) ∧ W.cell? ⟨w.heap.size + 1, 0, none⟩ = some (valAt W ⟨w.heap.size + 1, 0, none⟩) ∧ W.cell? ⟨w.heap.size + 1, 1, none⟩ = some (valAt W ⟨w.heap.size + 1, 1, none⟩) ∧
    W.frozen? ⟨w.heap.size + 1, 0, none⟩ = false ∧ W.frozen? ⟨w.heap.size + 1, 1, none⟩ = false ∧ KC w n v W
theorem KC.facts {w : World} {n v : ByteArray} {W : World} (h : KC w n v W) : SC w n v W := by
  obtain ⟨x, y, hr⟩ := h.res
  exact ⟨two0 h.box, two1 h.box, valAt_of (two0 hr), valAt_of (two1 hr), free hr 0, free hr 1, h⟩
theorem KC.done {w : World} {n v : ByteArray} {W : World} (h : KC w n v W) (x y : Value) : ((W.setCell ⟨w.heap.size + 1, 0, none⟩ x).setCell ⟨w.heap.size + 1, 1, none⟩ y).heap[w.heap.size + 1]? = some (.cells #[x, y] 23 (0, 0)) := by
  obtain ⟨a, b, hr⟩ := h.res
  exact put2 hr x y

set_option maxHeartbeats 4000000 in
theorem cloneF_any (n v : ByteArray) (w : World) (hn : n.size ≤ 140737488355328) (hv : v.size ≤ 140737488355328) :
    Calls Tryd.prog 42 #[.agg #[.string n, .string v]] w fun e w' => e = .returned (.agg #[.string n, .string v]) ∧ Below w.heap.size w w' := by
  have HK := Lib.hid (kc_new w n v)
  go_enter Tryd.func42, Tryd.ntmps42
  go_wp2_with fail
  go_region_held3 (fun W => W.cell? ⟨w.heap.size, 0, none⟩ = some (.string n) ∧ W.cell? ⟨w.heap.size, 1, none⟩ = some (.string v) ∧ W.cell? ⟨w.heap.size + 1, 0, none⟩ = some (valAt W ⟨w.heap.size + 1, 0, none⟩) ∧ W.cell? ⟨w.heap.size + 1, 1, none⟩ = some (valAt W ⟨w.heap.size + 1, 1, none⟩) ∧
    W.frozen? ⟨w.heap.size + 1, 0, none⟩ = false ∧ W.frozen? ⟨w.heap.size + 1, 1, none⟩ = false ∧ KC w n v W)
    (first | exact HK.out.drew.facts | exact (HK.out.drew.more hba).facts | exact (HK.out.drew.more hbb).facts | exact ((HK.out.drew.more hba).more hbb).facts | exact ((HK.out.drew.more hbb).more hba).facts | exact (((HK.out.drew.more hba).more hbb).put _ _).facts | exact (((HK.out.drew.more hbb).more hba).put _ _).facts) (first
    | (go_at_call_of 28 (Value.string n); refine (clone_any n _ hn).mono ?_; rintro e wa ⟨rfl, hba⟩)
    | (go_at_call_of 28 (Value.string v); refine (clone_any v _ hv).mono ?_; rintro e wb ⟨rfl, hbb⟩))
  go_wp2_with fail
  refine bodyPost_ret (results_one rfl _ _ (w.heap.size + 1) 23 _ (0, 0) _ rfl (((HK.out.drew.more hba).more hbb).done _ _) Tryd.underlying23 rfl infoFieldSize) rfl ?_
  exact ⟨rfl, (((HK.out.drew.more hba).more hbb).put _ _).bel⟩
end Go.Proofs.YtacnlohfipcbdaaDoor.Fd
