/-
  Blocks of two cells that a law made, kept while calls make memory. No condition.
-/
import Derived.Test.YtledjiikpajdaaaKit
namespace Go.Proofs.Ytledjiikpajdaaa.Vd
open Go.RowKit Go.Proofs.Ytledjiikpajdaaa.Fd
set_option linter.unusedVariables false

structure Tags (w : World) (L : List (Nat × Value × Value × TypeId)) (W : World) : Prop where
  bel : Below w.heap.size w W
  here : ∀ p ∈ L, W.heap[p.1]? = some (.cells #[p.2.1, p.2.2.1] p.2.2.2 (0, 0))
theorem Tags.start {w W : World} (h : Below w.heap.size w W) : Tags w [] W := ⟨h, by simp⟩
theorem Tags.more {w W W' : World} {L : List (Nat × Value × Value × TypeId)} (h : Tags w L W) (hb : Below W.heap.size W W') : Tags w L W' :=
  ⟨Bl.next h.bel hb, fun p hp => Bl.old hb (block_lt (h.here p hp)) (h.here p hp)⟩
theorem Tags.new {w W : World} {L : List (Nat × Value × Value × TypeId)} (h : Tags w L W) (x y : Value) (t : TypeId) : Tags w ((W.heap.size, x, y, t) :: L) (W.alloc (.cells #[x, y] t)) :=
  ⟨h.bel.alloc h.bel.size _, fun p hp => by
    rcases List.mem_cons.1 hp with rfl | hp
    · exact new_block _ _
    · exact (old_block _ _ (block_lt (h.here p hp))).trans (h.here p hp)⟩
theorem Tags.drewN {w W : World} {L : List (Nat × Value × Value × TypeId)} (h : Tags w L W) (n : Nat) : Tags w L (W.drewN n) := ⟨Bl.drewN h.bel n, h.here⟩
theorem Tags.drew {w W : World} {L : List (Nat × Value × Value × TypeId)} (h : Tags w L W) : Tags w L W.drew := ⟨Bl.drewN h.bel 1, h.here⟩
theorem Tags.c0 {w W : World} {L : List (Nat × Value × Value × TypeId)} (h : Tags w L W) {p : Nat × Value × Value × TypeId} (hp : p ∈ L) : W.cell? ⟨p.1, 0, none⟩ = some p.2.1 := two0 (h.here p hp)
theorem Tags.c1 {w W : World} {L : List (Nat × Value × Value × TypeId)} (h : Tags w L W) {p : Nat × Value × Value × TypeId} (hp : p ∈ L) : W.cell? ⟨p.1, 1, none⟩ = some p.2.2.1 := two1 (h.here p hp)
theorem Tags.lt {w W : World} {L : List (Nat × Value × Value × TypeId)} (h : Tags w L W) {p : Nat × Value × Value × TypeId} (hp : p ∈ L) : p.1 < W.heap.size := block_lt (h.here p hp)
end Go.Proofs.Ytledjiikpajdaaa.Vd
