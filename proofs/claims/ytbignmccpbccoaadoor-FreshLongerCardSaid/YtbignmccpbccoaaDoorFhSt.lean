/-
  A Meta in memory beside the closures that bring numbers into their ranges: what stays. No condition.
-/
import Derived.Test.YtbignmccpbccoaaDoorFhClos
namespace Go.Proofs.YtbignmccpbccoaaDoor.Fh
open Go.RowKit Go.Proofs.YtbignmccpbccoaaDoor.Ct Go.Proofs.YtbignmccpbccoaaDoor.Fd
set_option linter.unusedVariables false

def MetAt (w : World) (g : Nat) (m : Mta) : Prop := w.heap[g]? = some (.cells (mcells m) 25 (0, 0))
theorem MetAt.at {w : World} {g : Nat} {m : Mta} (h : MetAt w g m) {i : Nat} {v : Value} (e : (mcells m)[i]? = some v) : w.cell? ⟨g, i, none⟩ = some v := by rw [Lib.cell_of_heap h, e]
theorem MetAt.code {w : World} {g : Nat} {m : Mta} (h : MetAt w g m) : w.cell? ⟨g, 0, none⟩ = some (.int .i64 m.code) := h.at rfl
theorem MetAt.nc {w : World} {g : Nat} {m : Mta} (h : MetAt w g m) : w.cell? ⟨g, 2, none⟩ = some (.bool m.con.nc) := h.at rfl
theorem MetAt.mu {w : World} {g : Nat} {m : Mta} (h : MetAt w g m) : w.cell? ⟨g, 5, none⟩ = some (.bool m.con.mu) := h.at rfl
theorem MetAt.px {w : World} {g : Nat} {m : Mta} (h : MetAt w g m) : w.cell? ⟨g, 6, none⟩ = some (.bool m.con.px) := h.at rfl
theorem MetAt.ag {w : World} {g : Nat} {m : Mta} (h : MetAt w g m) : w.cell? ⟨g, 8, none⟩ = some (.int .i64 m.con.ag) := h.at rfl
theorem MetAt.sh {w : World} {g : Nat} {m : Mta} (h : MetAt w g m) : w.cell? ⟨g, 9, none⟩ = some (.int .i64 m.con.sh) := h.at rfl
theorem MetAt.wh {w : World} {g : Nat} {m : Mta} (h : MetAt w g m) : w.cell? ⟨g, 10, none⟩ = some (.int .i64 m.con.wh) := h.at rfl
theorem MetAt.date {w : World} {g : Nat} {m : Mta} (h : MetAt w g m) : w.cell? ⟨g, 14, none⟩ = some (.int .i64 m.date) := h.at rfl
theorem MetAt.exp {w : World} {g : Nat} {m : Mta} (h : MetAt w g m) : w.cell? ⟨g, 15, none⟩ = some (.int .i64 m.exp) := h.at rfl
theorem MetAt.mod {w : World} {g : Nat} {m : Mta} (h : MetAt w g m) : w.cell? ⟨g, 16, none⟩ = some (.int .i64 m.mod) := h.at rfl
theorem MetAt.age {w : World} {g : Nat} {m : Mta} (h : MetAt w g m) : w.cell? ⟨g, 17, none⟩ = some (.int .i64 m.age) := h.at rfl
theorem MetAt.ask {w : World} {g : Nat} {m : Mta} (h : MetAt w g m) : w.cell? ⟨g, 18, none⟩ = some (.int .i64 m.ask) := h.at rfl
theorem MetAt.got {w : World} {g : Nat} {m : Mta} (h : MetAt w g m) : w.cell? ⟨g, 19, none⟩ = some (.int .i64 m.got) := h.at rfl
theorem MetAt.more {w w' : World} {g : Nat} {m : Mta} (h : MetAt w g m) {B : Nat} (hb : Below B w w') (hl : g < B) : MetAt w' g m := Bl.old hb hl h
theorem MetAt.lt {w : World} {g : Nat} {m : Mta} (h : MetAt w g m) : g < w.heap.size := block_lt h
theorem IVar.lt {w : World} {b : Nat} {n : Int} (h : IVar w b n) : b < w.heap.size := block_lt h
theorem MetAt.all {w : World} {g : Nat} {m : Mta} (h : MetAt w g m) : w.cell? ⟨g, 0, none⟩ = some (.int .i64 m.code) ∧ w.cell? ⟨g, 1, none⟩ = some (.bool m.con.ns) ∧ w.cell? ⟨g, 2, none⟩ = some (.bool m.con.nc) ∧ w.cell? ⟨g, 3, none⟩ = some (.bool m.con.pr) ∧ w.cell? ⟨g, 4, none⟩ = some (.bool m.con.pu) ∧ w.cell? ⟨g, 5, none⟩ = some (.bool m.con.mu) ∧ w.cell? ⟨g, 6, none⟩ = some (.bool m.con.px) ∧ w.cell? ⟨g, 7, none⟩ = some (.bool m.con.oc) ∧ w.cell? ⟨g, 8, none⟩ = some (.int .i64 m.con.ag) ∧ w.cell? ⟨g, 9, none⟩ = some (.int .i64 m.con.sh) ∧ w.cell? ⟨g, 10, none⟩ = some (.int .i64 m.con.wh) ∧ w.cell? ⟨g, 11, none⟩ = some (.int .i64 m.con.ie) ∧ w.cell? ⟨g, 12, none⟩ = some (.int .i64 m.con.mf) ∧ w.cell? ⟨g, 13, none⟩ = some (.int .i64 m.con.ms) ∧ w.cell? ⟨g, 14, none⟩ = some (.int .i64 m.date) ∧ w.cell? ⟨g, 15, none⟩ = some (.int .i64 m.exp) ∧ w.cell? ⟨g, 16, none⟩ = some (.int .i64 m.mod) ∧ w.cell? ⟨g, 17, none⟩ = some (.int .i64 m.age) ∧ w.cell? ⟨g, 18, none⟩ = some (.int .i64 m.ask) ∧ w.cell? ⟨g, 19, none⟩ = some (.int .i64 m.got) ∧ w.cell? ⟨g, 20, none⟩ = some (.string m.tag) :=
  ⟨h.at rfl, h.at rfl, h.at rfl, h.at rfl, h.at rfl, h.at rfl, h.at rfl, h.at rfl, h.at rfl, h.at rfl, h.at rfl, h.at rfl, h.at rfl, h.at rfl, h.at rfl, h.at rfl, h.at rfl, h.at rfl, h.at rfl, h.at rfl, h.at rfl⟩
/-- A whole Meta out of its block: N is its size. -/
theorem MetAt.load {w : World} {g : Nat} {m : Mta} (h : MetAt w g m) {N : Nat} (hN : N = 21) : (loadCellsFrom ⟨g, 0, none⟩ 0 N #[]).run Tryd.prog w = .ok (mcells m) w := by
  subst hN
  have := run_loadCells_list (P := Tryd.prog) w ⟨g, 0, none⟩ (mcells m).toList (fun j v hv => by
    have hadd : (⟨g, 0, none⟩ : Addr).add j = ⟨g, j, none⟩ := by unfold Addr.add; split <;> simp_all
    rw [hadd, cell_of_row _ _ j (mcells m) 25 (0, 0) h]
    simpa using hv)
  simpa [loadCells, show (mcells m).size = 21 from rfl] using this
theorem conAt_load {w : World} {g : Nat} {c : Con} (h : ConAt w g c) {N : Nat} (hN : N = 13) : (loadCellsFrom ⟨g, 0, none⟩ 0 N #[]).run Tryd.prog w = .ok (cells c) w := by
  subst hN
  have := run_loadCells_list (P := Tryd.prog) w ⟨g, 0, none⟩ (cells c).toList (fun j v hv => by
    have hadd : (⟨g, 0, none⟩ : Addr).add j = ⟨g, j, none⟩ := by unfold Addr.add; split <;> simp_all
    rw [hadd, cell_of_row _ _ j (cells c) 23 (0, 0) h]
    simpa using hv)
  simpa [loadCells, show (cells c).size = 13 from rfl] using this
/-- The Control within a Meta. -/
theorem MetAt.loadCon {w : World} {g : Nat} {m : Mta} (h : MetAt w g m) {N : Nat} (hN : N = 13) : (loadCellsFrom ⟨g, 1, none⟩ 0 N #[]).run Tryd.prog w = .ok (cells m.con) w := by
  subst hN
  have := run_loadCells_list (P := Tryd.prog) w ⟨g, 1, none⟩ (cells m.con).toList (fun j v hv => by
    have hadd : (⟨g, 1, none⟩ : Addr).add j = ⟨g, 1 + j, none⟩ := by unfold Addr.add; split <;> simp_all
    rw [hadd, cell_of_row _ _ (1 + j) (mcells m) 25 (0, 0) h]
    have hj : j < 13 := by
      rcases Nat.lt_or_ge j 13 with h1 | h1
      · exact h1
      · rw [List.getElem?_eq_none (by simpa [cells] using h1)] at hv; cases hv
    rw [← hv]
    match j, hj with
    | 0, _ | 1, _ | 2, _ | 3, _ | 4, _ | 5, _ | 6, _ | 7, _ | 8, _ | 9, _ | 10, _ | 11, _ | 12, _ => rfl)
  simpa [loadCells, show (cells m.con).size = 13 from rfl] using this
/-- The size of a type, behind a name: a walk then loads by the law above. -/
structure SizeIs (t : TypeId) (k : Nat) (Z : Sem Nat) (N : Nat) : Prop where
  is : sizeOf t = Z
  run : ∀ W, Z.run Tryd.prog W = .ok N W
  num : N = k
theorem size_met : ∃ Z N, SizeIs 25 21 Z N := ⟨_, _, rfl, fun W => by kernel_rfl, rfl⟩
theorem size_con : ∃ Z N, SizeIs 23 13 Z N := ⟨_, _, rfl, fun W => by kernel_rfl, rfl⟩
theorem metAt_new (w : World) (m : Mta) : MetAt (w.alloc (.cells (mcells m) 25)) w.heap.size m := new_block _ _

/-- What a call of within leaves. -/
structure Made (l m : Int) (w w' : World) : Prop where
  i0 : IVar w' w.heap.size l
  i1 : IVar w' (w.heap.size + 1) m
  bel : Below w.heap.size w w'
theorem within_made (l m : Int) (w : World) : Calls Tryd.prog 16 #[.int .i64 l, .int .i64 m] w fun e w' => e = .returned (clo w.heap.size (w.heap.size + 1)) ∧ Made l m w w' :=
  (within_any l m w).mono fun e w' ⟨he, hw⟩ => ⟨he, by
    subst hw
    exact ⟨(old_block _ _ (by simp)).trans (new_block _ _), new_block' _ _ (by simp), ((Below.refl _ _).alloc (Nat.le_refl _) _).alloc (by simp) _⟩⟩

/-- A Meta, one closure or two, and nothing elder changed. -/
structure One (w : World) (g : Nat) (m : Mta) (b : Nat) (l1 m1 : Int) (W : World) : Prop where
  met : MetAt W g m
  a0 : IVar W b l1
  a1 : IVar W (b + 1) m1
  bel : Below w.heap.size w W
theorem One.more {w : World} {g : Nat} {m : Mta} {b : Nat} {l1 m1 : Int} {W W' : World} (h : One w g m b l1 m1 W) (hb : Below W.heap.size W W') : One w g m b l1 m1 W' :=
  ⟨h.met.more hb h.met.lt, h.a0.more hb h.a0.lt, h.a1.more hb h.a1.lt, Bl.next h.bel hb⟩
theorem One.drew {w : World} {g : Nat} {m : Mta} {b : Nat} {l1 m1 : Int} {W : World} (h : One w g m b l1 m1 W) : One w g m b l1 m1 W.drew := ⟨h.met, h.a0, h.a1, Bl.drewN h.bel 1⟩
theorem alloc_size (w : World) (o : Obj) : (w.alloc o).heap.size = w.heap.size + 1 := by simp
theorem one_new {w w1 : World} {m : Mta} {l1 m1 : Int} (h : Made l1 m1 (w.alloc (.cells (mcells m) 25)) w1) : One w w.heap.size m (w.heap.size + 1) l1 m1 w1 := by
  have h1 := h.i0
  have h2 := h.i1
  have h3 := h.bel
  rw [alloc_size] at h1 h2 h3
  exact ⟨(metAt_new w m).more h3 (by omega), h1, h2, ((Below.refl _ _).alloc (Nat.le_refl _) _).trans (h3.mono (by omega))⟩
structure Two (w : World) (g : Nat) (m : Mta) (b : Nat) (l1 m1 : Int) (c : Nat) (l2 m2 : Int) (W : World) : Prop where
  one : One w g m b l1 m1 W
  a2 : IVar W c l2
  a3 : IVar W (c + 1) m2
theorem One.two {w : World} {g : Nat} {m : Mta} {b : Nat} {l1 m1 : Int} {W w1 : World} {l2 m2 : Int} (h : One w g m b l1 m1 W) (k : Made l2 m2 W w1) : Two w g m b l1 m1 W.heap.size l2 m2 w1 := ⟨h.more k.bel, k.i0, k.i1⟩
theorem Two.more {w : World} {g : Nat} {m : Mta} {b : Nat} {l1 m1 : Int} {c : Nat} {l2 m2 : Int} {W W' : World} (h : Two w g m b l1 m1 c l2 m2 W) (hb : Below W.heap.size W W') : Two w g m b l1 m1 c l2 m2 W' :=
  ⟨h.one.more hb, h.a2.more hb h.a2.lt, h.a3.more hb h.a3.lt⟩
theorem Two.drew {w : World} {g : Nat} {m : Mta} {b : Nat} {l1 m1 : Int} {c : Nat} {l2 m2 : Int} {W : World} (h : Two w g m b l1 m1 c l2 m2 W) : Two w g m b l1 m1 c l2 m2 W.drew := ⟨h.one.drew, h.a2, h.a3⟩
theorem Two.cells {w : World} {g : Nat} {m : Mta} {b : Nat} {l1 m1 : Int} {c : Nat} {l2 m2 : Int} {W : World} (h : Two w g m b l1 m1 c l2 m2 W) :
    W.cell? ⟨g, 17, none⟩ = some (.int .i64 m.age) ∧ W.cell? ⟨g, 18, none⟩ = some (.int .i64 m.ask) ∧ W.cell? ⟨g, 19, none⟩ = some (.int .i64 m.got) ∧ Two w g m b l1 m1 c l2 m2 W :=
  ⟨h.one.met.at rfl, h.one.met.at rfl, h.one.met.at rfl, h⟩
end Go.Proofs.YtbignmccpbccoaaDoor.Fh
