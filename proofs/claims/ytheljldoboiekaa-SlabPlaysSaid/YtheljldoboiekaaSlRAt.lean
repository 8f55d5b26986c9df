/-
  The reference's arena as the model has it. No condition.
-/
import Derived.Test.YtheljldoboiekaaKit
import Derived.Test.YtheljldoboiekaaSlRef
import Derived.Laws.AppendOwn
import Derived.Laws.OwnMore
import Derived.WalkKit
import Derived.WalkLawsBesides
import Derived.Outline
import Derived.Lib.Hide
import Derived.Deep.QuietTactic
import Derived.BigQuiet
namespace Go.Proofs.Ytheljldoboiekaa.Sl
open Go.RowKit Go.Proofs.Ytheljldoboiekaa.Fd
set_option maxRecDepth 100000
set_option linter.unusedVariables false
set_option linter.unusedSimpArgs false

/-- A block, and where its bytes lie. -/
abbrev RQ := RB × Nat
def five (x : RQ) : List Value := [.int .i64 (x.1.c : Int), .int .i64 (x.1.i : Int), .int .i64 (x.1.gen : Int), .int .i64 (x.1.held : Int), .slice (some ⟨x.2, 0, none⟩) (sizeC x.1.c) (sizeC x.1.c)]
def flatR (L : List RQ) : List Value := L.flatMap five
theorem flatR_length (L : List RQ) : (flatR L).length = L.length * 5 := by
  induction L with
  | nil => rfl
  | cons x r ih => show (five x ++ flatR r).length = _; rw [List.length_append, ih, List.length_cons]; show 5 + _ = _; omega
theorem flatR_at (L : List RQ) : ∀ (j : Nat) (h : j < L.length) (t : Nat), t < 5 → (flatR L)[j * 5 + t]? = (five L[j])[t]? := by
  induction L with
  | nil => intro j h; simp at h
  | cons x r ih =>
    intro j h t ht
    show (five x ++ flatR r)[_]? = _
    cases j with
    | zero => rw [Nat.zero_mul, Nat.zero_add, List.getElem?_append_left (by show t < 5; exact ht)]; rfl
    | succ j =>
      rw [List.getElem?_append_right (by show 5 ≤ _; omega), List.getElem_cons_succ, ← ih j (by simpa using h) t ht]
      congr 1
      show _ - 5 = _
      omega
def memV (m : Tk.Bs) : Array Value := (m.map fun b => Value.int .i64 (b.toNat : Int)).toArray
structure RAt (w : World) (base p : Nat) (n : Nat → Nat) (L : List RQ) (v : Value) : Prop where
  arena : w.heap[p]? = some (.cells #[.int .i64 (n 0 : Int), .int .i64 (n 1 : Int), .int .i64 (n 2 : Int), .int .i64 (n 3 : Int), v] 70 (0, 0))
  row : w.ownsRow base 82 5 v L.length (flatR L)
  mem : ∀ x ∈ L, w.heap[x.2]? = some (.cells (memV x.1.mem) 3 (0, 0)) ∧ x.1.mem.length = sizeC x.1.c
  apart : ∀ x ∈ L, base ≤ x.2 ∧ x.2 ≠ p ∧ v.ownBlock ≠ some x.2
  nodup : (L.map fun x => x.2).Nodup
  out : base ≤ p ∧ v.ownBlock ≠ some p
theorem RAt.lt {w : World} {base p : Nat} {n : Nat → Nat} {L : List RQ} {v : Value} (h : RAt w base p n L v) : p < w.heap.size := block_lt h.arena
theorem RAt.arenaV {w : World} {base p : Nat} {n : Nat → Nat} {L : List RQ} {v : Value} (h : RAt w base p n L v) : w.cell? ⟨p, 4, none⟩ = some v := by rw [Lib.cell_of_heap h.arena]; rfl
theorem RAt.same {w w' : World} {base p : Nat} {n : Nat → Nat} {L : List RQ} {v : Value} (h : RAt w base p n L v) (hb : Below w.heap.size w w') : RAt w' base p n L v := by
  refine ⟨Bl.old hb h.lt h.arena, ?_, fun x hx => ⟨Bl.old hb (block_lt (h.mem x hx).1) (h.mem x hx).1, (h.mem x hx).2⟩, h.apart, h.nodup, h.out⟩
  have hr := h.row
  refine ⟨hr.1, ?_⟩
  rcases hr.2 with ⟨h1, h2⟩ | ⟨g, cap, cur, h1, h2, h3, h4⟩
  · exact .inl ⟨h1, h2⟩
  · exact .inr ⟨g, cap, cur, h1, h2, Bl.old hb (block_lt h3) h3, h4⟩
theorem RAt.form {w : World} {base p : Nat} {n : Nat → Nat} {L : List RQ} {v : Value} (h : RAt w base p n L v) : ∃ a cap, v = .slice a L.length cap := by
  rcases h.row.2 with ⟨h1, h2⟩ | ⟨g, cap, cur, h1, _⟩
  · exact ⟨none, 0, by rw [h1, h2]⟩
  · exact ⟨_, _, h1⟩
/-- The cells of an entry. -/
theorem RAt.entry {w : World} {base p : Nat} {n : Nat → Nat} {L : List RQ} {v : Value} (h : RAt w base p n L v) {k : Nat} (hk : k < L.length) : ∃ g cap, v = .slice (some ⟨g, 0, none⟩) L.length cap ∧ g < w.heap.size ∧ g ≠ p ∧
    (∀ t (ht : t < 5), w.cell? ⟨g, k * 5 + t, none⟩ = (five L[k])[t]?) ∧ ∀ j, w.frozen? ⟨g, j, none⟩ = false := by
  have hr := h.row
  rcases hr.2 with ⟨h1, h2⟩ | ⟨g, cap, cur, h1, h2, h3, h4, h5, h6, h7⟩
  · omega
  · refine ⟨g, cap, h1, block_lt h3, fun e => h.out.2 (by rw [h1, e]; rfl), fun t ht => ?_, free h3⟩
    subst h1
    rw [hr.cellAt (k * 5 + t) (by omega)]
    exact flatR_at L k hk t ht
end Go.Proofs.Ytheljldoboiekaa.Sl
