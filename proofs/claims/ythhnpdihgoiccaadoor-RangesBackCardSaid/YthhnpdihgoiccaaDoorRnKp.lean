/-
  Variables of two ints that are kept while calls are made. No condition.
-/
import Derived.Test.YthhnpdihgoiccaaDoorSpBase
namespace Go.Proofs.YthhnpdihgoiccaaDoor.Rn
open Go.RowKit Go.Proofs.YthhnpdihgoiccaaDoor.Fd Go.Proofs.YthhnpdihgoiccaaDoor.Sn
set_option linter.unusedVariables false

structure Kp (w : World) (bx : List (Nat × Sp × TypeId)) (W : World) : Prop where
  bel : Below w.heap.size w W
  box : ∀ p ∈ bx, W.heap[p.1]? = some (.cells #[.int .i64 p.2.1.1, .int .i64 p.2.1.2] p.2.2 (0, 0))
theorem Kp.start {w : World} : Kp w [] w := ⟨Below.refl _ _, by simp⟩
theorem Kp.more {w W W' : World} {bx : List (Nat × Sp × TypeId)} (h : Kp w bx W) (hb : Below W.heap.size W W') : Kp w bx W' :=
  ⟨Bl.next h.bel hb, fun p hp => Bl.old hb (block_lt (h.box p hp)) (h.box p hp)⟩
theorem Kp.new {w W : World} {bx : List (Nat × Sp × TypeId)} (h : Kp w bx W) (x y : Int) (t : TypeId) : Kp w ((W.heap.size, (x, y), t) :: bx) (W.alloc (.cells #[.int .i64 x, .int .i64 y] t)) := by
  have h2 := h.more ((Below.refl W.heap.size W).alloc (Nat.le_refl _) (.cells #[.int .i64 x, .int .i64 y] t))
  exact ⟨h2.bel, fun p hp => by (rcases List.mem_cons.1 hp with rfl | hp <;> first | exact new_block W _ | exact h2.box p hp)⟩
theorem Kp.at {w W : World} {bx : List (Nat × Sp × TypeId)} (h : Kp w bx W) {g : Nat} {x y : Int} {t : TypeId} (hp : (g, (x, y), t) ∈ bx) : W.heap[g]? = some (.cells #[.int .i64 x, .int .i64 y] t (0, 0)) := h.box _ hp
theorem Kp.c0 {w W : World} {bx : List (Nat × Sp × TypeId)} (h : Kp w bx W) {g : Nat} {x y : Int} {t : TypeId} (hp : (g, (x, y), t) ∈ bx) : W.cell? ⟨g, 0, none⟩ = some (.int .i64 x) := two0 (h.box _ hp)
theorem Kp.c1 {w W : World} {bx : List (Nat × Sp × TypeId)} (h : Kp w bx W) {g : Nat} {x y : Int} {t : TypeId} (hp : (g, (x, y), t) ∈ bx) : W.cell? ⟨g, 1, none⟩ = some (.int .i64 y) := two1 (h.box _ hp)
theorem Kp.drew {w W : World} {bx : List (Nat × Sp × TypeId)} (h : Kp w bx W) : Kp w bx W.drew := h.more ((Below.refl W.heap.size W).drew)
end Go.Proofs.YthhnpdihgoiccaaDoor.Rn
