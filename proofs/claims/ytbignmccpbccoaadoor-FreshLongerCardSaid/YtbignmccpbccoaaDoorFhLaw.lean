/-
  Whole Metas and Controls in blocks, as the laws of fresh make them: loads, stores, what stays. No condition.
-/
import Derived.Test.YtbignmccpbccoaaDoorFhRef3
import Derived.Deep.WholeRow
import Derived.Deep.RegionHeld3
namespace Go.Proofs.YtbignmccpbccoaaDoor.Fh
open Go.RowKit Go.Proofs.YtbignmccpbccoaaDoor.Ct Go.Proofs.YtbignmccpbccoaaDoor.Fd
set_option linter.unusedVariables false

theorem mcells_size (m : Mta) : (mcells m).size = 21 := rfl
theorem one_met (m : Mta) : (mcells m).all (·.oneCell') = true := by simp [mcells, Value.oneCell']
theorem one_con (c : Con) : (cells c).all (·.oneCell') = true := by simp [cells, Value.oneCell']
theorem infoMet : (Tryd.prog.info? 25).map (·.size) = some 21 := by kernel_rfl
/-- A Meta stored into the block that was made last. -/
theorem put_met (W : World) (c : Array Value) (hc : c.size = 21) (m : Mta) : (storeCells ⟨W.heap.size, 0, none⟩ (mcells m).toList 0).run Tryd.prog (W.alloc (.cells c 25)) = .ok () (W.alloc (.cells (mcells m) 25)) :=
  run_storeCells_new W _ c _ infoMet hc (one_met m)
theorem put_con (W : World) (c : Array Value) (hc : c.size = 13) (r : Con) : (storeCells ⟨W.heap.size, 0, none⟩ (cells r).toList 0).run Tryd.prog (W.alloc (.cells c 23)) = .ok () (W.alloc (.cells (cells r) 23)) :=
  run_storeCells_new W _ c _ infoCon hc (one_con r)
theorem put_met_at (W : World) (g : Nat) (hg : g = W.heap.size) (c : Array Value) (hc : c.size = 21) (m : Mta) : (storeCells ⟨g, 0, none⟩ (mcells m).toList).run Tryd.prog (W.alloc (.cells c 25)) = .ok () (W.alloc (.cells (mcells m) 25)) := by subst hg; exact put_met W c hc m
theorem put_con_at (W : World) (g : Nat) (hg : g = W.heap.size) (c : Array Value) (hc : c.size = 13) (r : Con) : (storeCells ⟨g, 0, none⟩ (cells r).toList).run Tryd.prog (W.alloc (.cells c 23)) = .ok () (W.alloc (.cells (cells r) 23)) := by subst hg; exact put_con W c hc r
/-- A Meta stored into the block that was made last but one. -/
theorem put_met_deep (W : World) (c : Array Value) (hc : c.size = 21) (m : Mta) (o : Obj) : (storeCells ⟨W.heap.size, 0, none⟩ (mcells m).toList).run Tryd.prog ((W.alloc (.cells c 25)).alloc o) = .ok () ((W.alloc (.cells (mcells m) 25)).alloc o) := by
  have hq : (Tryd.prog.info? 25).map (·.size) = some (mcells m).size := infoMet
  have h0 : ((W.alloc (.cells c 25)).alloc o).heap[W.heap.size]? = some (.cells c 25 (0, 0)) := (old_block _ _ (by simp)).trans (new_block _ _)
  have h1 := run_storeVar_row (P := Tryd.prog) _ W.heap.size _ _ c (mcells m) h0 hq hc (one_met m)
  have e : (storeVar 25 ⟨W.heap.size, 0, none⟩ (.agg (mcells m))).run Tryd.prog ((W.alloc (.cells c 25)).alloc o) = (storeCells ⟨W.heap.size, 0, none⟩ (mcells m).toList).run Tryd.prog ((W.alloc (.cells c 25)).alloc o) := by
    obtain ⟨Z, N, hZ⟩ := size_met
    simp [storeVar, Sem.run_bind, hZ.is, hZ.run, hZ.num, Value.cells, mcells_size]
  rw [← e, h1]
  congr 1
  simp only [World.setRow, World.alloc]
  congr 1
  apply Array.ext_getElem?
  intro i
  rw [Array.getElem?_modify]
  by_cases h : W.heap.size = i
  · subst h
    simp [Array.getElem?_push]
  · have h' : ¬ i = W.heap.size := fun k => h k.symm
    simp [h, h', Array.getElem?_push]
theorem set_age (m : Mta) (v : Int) : (mcells m).setIfInBounds 17 (.int .i64 v) = mcells { m with age := v } := rfl
theorem set_got (m : Mta) (v : Int) : (mcells m).setIfInBounds 19 (.int .i64 v) = mcells { m with got := v } := rfl
theorem set_ask (m : Mta) (v : Int) : (mcells m).setIfInBounds 18 (.int .i64 v) = mcells { m with ask := v } := rfl
theorem set_date (m : Mta) (v : Int) : (mcells m).setIfInBounds 14 (.int .i64 v) = mcells { m with date := v } := rfl
theorem set_exp (m : Mta) (v : Int) : (mcells m).setIfInBounds 15 (.int .i64 v) = mcells { m with exp := v } := rfl
theorem set_ag (m : Mta) (v : Int) : (mcells m).setIfInBounds 8 (.int .i64 v) = mcells { m with con := { m.con with ag := v } } := rfl
theorem set_sh (m : Mta) (v : Int) : (mcells m).setIfInBounds 9 (.int .i64 v) = mcells { m with con := { m.con with sh := v } } := rfl
/-- These Metas and Controls lie in these blocks, and nothing elder has changed. -/
structure Has (w : World) (l : List (Nat × Mta)) (k : List (Nat × Con)) (W : World) : Prop where
  mets : ∀ p ∈ l, MetAt W p.1 p.2
  cons : ∀ p ∈ k, ConAt W p.1 p.2
  bel : Below w.heap.size w W
theorem Has.more {w : World} {l : List (Nat × Mta)} {k : List (Nat × Con)} {W W' : World} (h : Has w l k W) (hb : Below W.heap.size W W') : Has w l k W' :=
  ⟨fun p hp => (h.mets p hp).more hb (h.mets p hp).lt, fun p hp => Bl.old hb (block_lt (h.cons p hp)) (h.cons p hp), Bl.next h.bel hb⟩
theorem Has.drew {w : World} {l : List (Nat × Mta)} {k : List (Nat × Con)} {W : World} (h : Has w l k W) : Has w l k W.drew := ⟨h.mets, h.cons, Bl.drewN h.bel 1⟩
theorem Has.addM {w : World} {l : List (Nat × Mta)} {k : List (Nat × Con)} {W : World} (h : Has w l k W) (m : Mta) : Has w ((W.heap.size, m) :: l) k (W.alloc (.cells (mcells m) 25)) := by
  have hb : Below W.heap.size W (W.alloc (.cells (mcells m) 25)) := (Below.refl _ _).alloc (Nat.le_refl _) _
  have h2 := h.more hb
  refine ⟨fun p hp => ?_, h2.cons, h2.bel⟩
  rcases List.mem_cons.1 hp with rfl | hp
  · exact metAt_new W m
  · exact h2.mets p hp
theorem Has.addC {w : World} {l : List (Nat × Mta)} {k : List (Nat × Con)} {W : World} (h : Has w l k W) (r : Con) : Has w l ((W.heap.size, r) :: k) (W.alloc (.cells (cells r) 23)) := by
  have hb : Below W.heap.size W (W.alloc (.cells (cells r) 23)) := (Below.refl _ _).alloc (Nat.le_refl _) _
  have h2 := h.more hb
  refine ⟨h2.mets, fun p hp => ?_, h2.bel⟩
  rcases List.mem_cons.1 hp with rfl | hp
  · exact new_block _ _
  · exact h2.cons p hp
theorem Has.cast {w : World} {l l' : List (Nat × Mta)} {k k' : List (Nat × Con)} {W : World} (h : Has w l k W) (e : l = l') (e' : k = k') : Has w l' k' W := by subst e e'; exact h
theorem has_new (w : World) : Has w [] [] w := ⟨fun p hp => (List.not_mem_nil hp).elim, fun p hp => (List.not_mem_nil hp).elim, Below.refl _ _⟩
theorem Has.m {w : World} {l : List (Nat × Mta)} {k : List (Nat × Con)} {W : World} (h : Has w l k W) {g : Nat} {m : Mta} (hm : (g, m) ∈ l) : MetAt W g m := h.mets (g, m) hm
theorem Has.c {w : World} {l : List (Nat × Mta)} {k : List (Nat × Con)} {W : World} (h : Has w l k W) {g : Nat} {r : Con} (hm : (g, r) ∈ k) : ConAt W g r := h.cons (g, r) hm
/-- A cell of one Meta is stored into. -/
theorem Has.put {w : World} {l l' : List (Nat × Mta)} {k : List (Nat × Con)} {W : World} (h : Has w l k W) {g : Nat} {m m' : Mta} (hm : (g, m) ∈ l) {i : Nat} {v : Value} (e : (mcells m).setIfInBounds i v = mcells m') (hge : w.heap.size ≤ g)
    (hl : ∀ p ∈ l', p = (g, m') ∨ (p.1 ≠ g ∧ p ∈ l)) (hk : ∀ p ∈ k, p.1 ≠ g) : Has w l' k (W.setCell ⟨g, i, none⟩ v) := by
  refine ⟨fun p hp => ?_, fun p hp => ?_, h.bel.setCell (p := ⟨g, i, none⟩) hge v⟩
  · rcases hl p hp with rfl | ⟨hne, hp⟩
    · have h1 := heap_put (h.m hm) i v
      rw [e] at h1
      exact h1
    · exact (heap_setCell_other W ⟨g, i, none⟩ p.1 v hne).trans (h.mets p hp)
  · exact (heap_setCell_other W ⟨g, i, none⟩ p.1 v (hk p hp)).trans (h.cons p hp)
theorem has_drewN {w : World} {l : List (Nat × Mta)} {k : List (Nat × Con)} {W : World} (h : Has w l k W) (n : Nat) : Has w l k (W.drewN n) := ⟨h.mets, h.cons, Bl.drewN h.bel n⟩
theorem met_free {w : World} {g : Nat} {m : Mta} (h : MetAt w g m) (j : Nat) : w.frozen? ⟨g, j, none⟩ = false := free h j
theorem ld_law {w : World} {l : List (Nat × Mta)} {k : List (Nat × Con)} {W : World} (h : Has w l k W) {g : Nat} {m : Mta} (hm : (g, m) ∈ l) {a b : Nat} {c d : Con} (h1 : (a, c) ∈ k) (h2 : (b, d) ∈ k) {N M : Nat} (hN : N = 21) (hM : M = 13) :
    (loadCellsFrom ⟨g, 0, none⟩ 0 N #[]).run Tryd.prog W = .ok (mcells m) W ∧ (loadCellsFrom ⟨a, 0, none⟩ 0 M #[]).run Tryd.prog W = .ok (cells c) W ∧ (loadCellsFrom ⟨b, 0, none⟩ 0 M #[]).run Tryd.prog W = .ok (cells d) W ∧ Has w l k W :=
  ⟨(h.m hm).load hN, conAt_load (h.c h1) hM, conAt_load (h.c h2) hM, h⟩
theorem ld_law2 {w : World} {l : List (Nat × Mta)} {k : List (Nat × Con)} {W : World} (h : Has w l k W) {g g' : Nat} {m m' : Mta} (hm : (g, m) ∈ l) (hm' : (g', m') ∈ l) {a : Nat} {c : Con} (h1 : (a, c) ∈ k) {N M : Nat} (hN : N = 21) (hM : M = 13) :
    (loadCellsFrom ⟨g, 0, none⟩ 0 N #[]).run Tryd.prog W = .ok (mcells m) W ∧ (loadCellsFrom ⟨g', 0, none⟩ 0 N #[]).run Tryd.prog W = .ok (mcells m') W ∧ (loadCellsFrom ⟨a, 0, none⟩ 0 M #[]).run Tryd.prog W = .ok (cells c) W ∧ Has w l k W :=
  ⟨(h.m hm).load hN, (h.m hm').load hN, conAt_load (h.c h1) hM, h⟩
theorem ld_met {w : World} {l : List (Nat × Mta)} {k : List (Nat × Con)} {W : World} (h : Has w l k W) {g : Nat} {m : Mta} (hm : (g, m) ∈ l) {N : Nat} (hN : N = 21) :
    (loadCellsFrom ⟨g, 0, none⟩ 0 N #[]).run Tryd.prog W = .ok (mcells m) W ∧ Has w l k W := ⟨(h.m hm).load hN, h⟩
/-- What asks for nothing. -/
def cplain : Con := ⟨false, false, false, false, false, false, false, -1, 0, 0, 0, -1, -1⟩
theorem plain_is : Plain cplain := ⟨rfl, rfl, rfl, rfl⟩
end Go.Proofs.YtbignmccpbccoaaDoor.Fh
