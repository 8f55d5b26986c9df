/-
  Texts that the laws' proofs stand on, 3 of them in one file; each one's head says what it proves and under which condition.
-/
import Derived.Test.YtledjiikpajdaaaDoorVtAllP15
import Derived.Test.YtledjiikpajdaaaDoorVtAllP7
import Derived.Lib.SmallJoins
import Derived.SizedLaws
import Derived.ProofKit
import Derived.ChangeArms
/-
  A Control, in cells: what lies where, what a store leaves. No condition.
-/
namespace Go.Proofs.YtledjiikpajdaaaDoor.Ct
open Go.RowKit Go.Proofs.YtledjiikpajdaaaDoor.Fd
set_option linter.unusedVariables false

/-- What is said, in a struct's cells. -/
def cells (c : Con) : Array Value := #[.bool c.ns, .bool c.nc, .bool c.pr, .bool c.pu, .bool c.mu, .bool c.px, .bool c.oc, .int .i64 c.ag, .int .i64 c.sh, .int .i64 c.wh, .int .i64 c.ie, .int .i64 c.mf, .int .i64 c.ms]
/-- A struct of no call. -/
def blank13 : Array Value := #[.bool false, .bool false, .bool false, .bool false, .bool false, .bool false, .bool false, .int .i64 0, .int .i64 0, .int .i64 0, .int .i64 0, .int .i64 0, .int .i64 0]
def ConAt (w : World) (g : Nat) (c : Con) : Prop := w.heap[g]? = some (.cells (cells c) 26 (0, 0))
theorem infoCon : (Tryd.prog.info? 26).map (·.size) = some 13 := by kernel_rfl
theorem infoConZ : (Tryd.prog.info? 26).map (fun i => i.zero) = some (some (.agg blank13)) := by kernel_rfl
theorem cells_size (c : Con) : (cells c).size = 13 := rfl
theorem conAt_cell {w : World} {g : Nat} {c : Con} (h : ConAt w g c) (i : Nat) : w.cell? ⟨g, i, none⟩ = (cells c)[i]? := by rw [Lib.cell_of_heap h]

/-- w' is w with one cell turned; draws don't count. -/
structure PutAt (w w' : World) (a : Addr) (v : Value) : Prop where
  os : w'.os = w.os
  tape : w'.tape = w.tape
  output : w'.output = w.output
  heap : w'.heap = (w.setCell a v).heap
theorem PutAt.size {w w' : World} {a : Addr} {v : Value} (h : PutAt w w' a v) : w'.heap.size = w.heap.size := by rw [h.heap]; simp [World.setCell]
theorem PutAt.far {w w' : World} {a : Addr} {v : Value} (h : PutAt w w' a v) {k : Nat} (hk : k ≠ a.block) : w'.heap[k]? = w.heap[k]? := by rw [h.heap]; exact Below.heap_setCell _ _ _ _ hk
theorem PutAt.below {B : Nat} {w0 w w' : World} {a : Addr} {v : Value} (h : PutAt w w' a v) (hb : Below B w0 w) (ha : B ≤ a.block) : Below B w0 w' := by
  have h2 := hb.setCell (p := a) ha v
  exact ⟨h.os.trans hb.os, h.tape.trans hb.tape, h.output.trans hb.output, by rw [h.heap]; exact h2.size, fun k hk => by rw [h.heap]; exact h2.block k hk⟩
theorem PutAt.con {w w' : World} {g i : Nat} {v : Value} {c c' : Con} (h : PutAt w w' ⟨g, i, none⟩ v) (hc : ConAt w g c) (e : (cells c).setIfInBounds i v = cells c') : ConAt w' g c' := by
  unfold ConAt at hc ⊢
  rw [h.heap, heap_put hc, e]

/-- A struct's cells, one by one. -/
theorem thirteen {w : World} {g : Nat} {c : Con} (h : ConAt w g c) : w.cell? ⟨g, 0, none⟩ = some (.bool c.ns) ∧ w.cell? ⟨g, 1, none⟩ = some (.bool c.nc) ∧ w.cell? ⟨g, 2, none⟩ = some (.bool c.pr) ∧ w.cell? ⟨g, 3, none⟩ = some (.bool c.pu) ∧ w.cell? ⟨g, 4, none⟩ = some (.bool c.mu) ∧ w.cell? ⟨g, 5, none⟩ = some (.bool c.px) ∧ w.cell? ⟨g, 6, none⟩ = some (.bool c.oc) ∧
    w.cell? ⟨g, 7, none⟩ = some (.int .i64 c.ag) ∧ w.cell? ⟨g, 8, none⟩ = some (.int .i64 c.sh) ∧ w.cell? ⟨g, 9, none⟩ = some (.int .i64 c.wh) ∧ w.cell? ⟨g, 10, none⟩ = some (.int .i64 c.ie) ∧ w.cell? ⟨g, 11, none⟩ = some (.int .i64 c.mf) ∧ w.cell? ⟨g, 12, none⟩ = some (.int .i64 c.ms) := by
  refine ⟨?_, ?_, ?_, ?_, ?_, ?_, ?_, ?_, ?_, ?_, ?_, ?_, ?_⟩ <;> (rw [conAt_cell h]; rfl)
theorem blanks {w : World} {g : Nat} {t : TypeId} (h : w.heap[g]? = some (.cells blank13 t (0, 0))) : (w.cell? ⟨g, 0, none⟩ = some (.bool false) ∧ w.cell? ⟨g, 1, none⟩ = some (.bool false) ∧ w.cell? ⟨g, 2, none⟩ = some (.bool false) ∧ w.cell? ⟨g, 3, none⟩ = some (.bool false) ∧ w.cell? ⟨g, 4, none⟩ = some (.bool false) ∧ w.cell? ⟨g, 5, none⟩ = some (.bool false) ∧ w.cell? ⟨g, 6, none⟩ = some (.bool false) ∧
    w.cell? ⟨g, 7, none⟩ = some (.int .i64 0) ∧ w.cell? ⟨g, 8, none⟩ = some (.int .i64 0) ∧ w.cell? ⟨g, 9, none⟩ = some (.int .i64 0) ∧ w.cell? ⟨g, 10, none⟩ = some (.int .i64 0) ∧ w.cell? ⟨g, 11, none⟩ = some (.int .i64 0) ∧ w.cell? ⟨g, 12, none⟩ = some (.int .i64 0)) := by
  refine ⟨?_, ?_, ?_, ?_, ?_, ?_, ?_, ?_, ?_, ?_, ?_, ?_, ?_⟩ <;> (rw [Lib.cell_of_heap h]; rfl)

/-- A struct stored, cell by cell. -/
def setL (r : Nat) : Nat → List Value → World → World
  | _, [], W => W
  | i, x :: xs, W => setL r (i + 1) xs (W.setCell ⟨r, i, none⟩ x)
def writeL : Nat → List Value → Array Value → Array Value
  | _, [], cs => cs
  | i, x :: xs, cs => writeL (i + 1) xs (cs.setIfInBounds i x)
theorem setL_at {r : Nat} {t : TypeId} {fr : Nat × Nat} : ∀ (xs : List Value) (i : Nat) (W : World) (cs : Array Value), W.heap[r]? = some (.cells cs t fr) → (setL r i xs W).heap[r]? = some (.cells (writeL i xs cs) t fr)
  | [], _, _, _, h => h
  | x :: xs, i, W, cs, h => setL_at xs (i + 1) _ _ (heap_put h i x)
theorem setL_below {B r : Nat} {w0 : World} (hr : B ≤ r) : ∀ (xs : List Value) (i : Nat) (W : World), Below B w0 W → Below B w0 (setL r i xs W)
  | [], _, _, h => h
  | x :: xs, i, W, h => setL_below hr xs (i + 1) _ (h.setCell (p := ⟨r, i, none⟩) hr x)
theorem setL_far {r k : Nat} (hk : k ≠ r) : ∀ (xs : List Value) (i : Nat) (W : World), (setL r i xs W).heap[k]? = W.heap[k]?
  | [], _, _ => rfl
  | x :: xs, i, W => (setL_far hk xs (i + 1) _).trans (Below.heap_setCell _ _ _ _ hk)
def conL (c : Con) : List Value := [.bool c.ns, .bool c.nc, .bool c.pr, .bool c.pu, .bool c.mu, .bool c.px, .bool c.oc, .int .i64 c.ag, .int .i64 c.sh, .int .i64 c.wh, .int .i64 c.ie, .int .i64 c.mf, .int .i64 c.ms]
theorem write_con (c : Con) : writeL 0 (conL c) blank13 = cells c := by kernel_rfl
def set13 (W : World) (r : Nat) (c : Con) : World := setL r 0 (conL c) W
theorem set13_at {W : World} {r : Nat} (h : W.heap[r]? = some (.cells blank13 26 (0, 0))) (c : Con) : ConAt (set13 W r c) r c := by
  have h1 := setL_at (conL c) 0 W blank13 h
  rw [write_con] at h1
  exact h1
theorem set13_below {B : Nat} {w0 W : World} {r : Nat} (hb : Below B w0 W) (hr : B ≤ r) (c : Con) : Below B w0 (set13 W r c) := setL_below hr _ _ _ hb

theorem cellAt_of {w : World} {g : Nat} {cs : Array Value} {t : TypeId} {fr : Nat × Nat} (h : w.heap[g]? = some (.cells cs t fr)) (i : Nat) {x : Value} (hx : cs[i]? = some x) : w.cell? ⟨g, i, none⟩ = some x := by rw [Lib.cell_of_heap h, hx]
end Go.Proofs.YtledjiikpajdaaaDoor.Ct
/-
  A Control that came in by value, read as flags and numbers. Condition: what the form says of what is read.
-/
namespace Go.Proofs.YtledjiikpajdaaaDoor.Ct
open Go.RowKit Go.Proofs.YtledjiikpajdaaaDoor.Fd Go.ChangeShapes Go.WideShapes Go.Deep Go.Joins
set_option linter.unusedVariables false

/-- An int of Go's. -/
abbrev IntOk (n : Int) : Prop := (Lit.int .i64 n).wf = true
theorem intOk_bd {n : Int} (h : IntOk n) : -9223372036854775808 ≤ n ∧ n ≤ 9223372036854775807 := by
  have h2 : (Lit.int .i64 n).wf = true := h
  simp only [Lit.wf, Bool.and_eq_true, decide_eq_true_eq] at h2
  have e1 : IntKind.i64.min = -9223372036854775808 := rfl
  have e2 : IntKind.i64.max = 9223372036854775807 := rfl
  omega
/-- All its numbers are ints. -/
structure ConOk (c : Con) : Prop where
  ag : IntOk c.ag
  sh : IntOk c.sh
  wh : IntOk c.wh
  ie : IntOk c.ie
  mf : IntOk c.mf
  ms : IntOk c.ms
section
variable {H : Type} {enc : TypeId × Value → H} {W : World} {base : Nat} {sp : Nat → Bool} {held : Bool}
theorem cells_bool : Tryd.prog.cellsOf 4 = 1 := by kernel_rfl
theorem cells_int : Tryd.prog.cellsOf 3 = 1 := by kernel_rfl
theorem cells_con : Tryd.prog.cellsOf 26 = 13 := by kernel_rfl
theorem list_at {l : List Value} {i : Nat} {v : Value} (h : (l.drop i).take 1 = [v]) : l[i]? = some v := by
  have h2 : ((l.drop i).take 1)[0]? = some v := by rw [h]; rfl
  simpa [List.getElem?_take, List.getElem?_drop] using h2
theorem bool_part {n i j : Nat} {cs : List Value} {xs : List (DataW H × List MemPlace)} (hj : j < xs.length) (h : DataW.trod enc Tryd.prog W base sp held n 4 ((cs.drop i).take (Tryd.prog.cellsOf 4)) = xs[j]?) : ∃ b : Bool, cs[i]? = some (.bool b) ∧ xs[j]? = some (.lit (.bool b), []) := by
  rw [cells_bool, List.getElem?_eq_getElem hj] at h
  obtain ⟨b, e, e2⟩ := DataW.trod_bool Tryd.underlying4 h
  exact ⟨b, list_at e, by rw [List.getElem?_eq_getElem hj, e2]⟩
theorem int_part {n i j : Nat} {cs : List Value} {xs : List (DataW H × List MemPlace)} (hj : j < xs.length) (h : DataW.trod enc Tryd.prog W base sp held n 3 ((cs.drop i).take (Tryd.prog.cellsOf 3)) = xs[j]?) : ∃ a : Int, cs[i]? = some (.int .i64 a) ∧ xs[j]? = some (.lit (.int .i64 a), []) ∧ IntOk a := by
  rw [cells_int, List.getElem?_eq_getElem hj] at h
  obtain ⟨a, e, e2, hw⟩ := DataW.trod_int Tryd.underlying3 h
  exact ⟨a, list_at e, by rw [List.getElem?_eq_getElem hj, e2], hw⟩
theorem thirteen_of {l : List Value} (h : l.length = 13) {a0 a1 a2 a3 a4 a5 a6 a7 a8 a9 a10 a11 a12 : Value} (h0 : l[0]? = some a0) (h1 : l[1]? = some a1) (h2 : l[2]? = some a2) (h3 : l[3]? = some a3) (h4 : l[4]? = some a4) (h5 : l[5]? = some a5) (h6 : l[6]? = some a6)
    (h7 : l[7]? = some a7) (h8 : l[8]? = some a8) (h9 : l[9]? = some a9) (h10 : l[10]? = some a10) (h11 : l[11]? = some a11) (h12 : l[12]? = some a12) : l = [a0, a1, a2, a3, a4, a5, a6, a7, a8, a9, a10, a11, a12] := by
  match l, h with
  | [b0, b1, b2, b3, b4, b5, b6, b7, b8, b9, b10, b11, b12], _ =>
    injection h0 with h0; injection h1 with h1; injection h2 with h2; injection h3 with h3; injection h4 with h4; injection h5 with h5; injection h6 with h6
    injection h7 with h7; injection h8 with h8; injection h9 with h9; injection h10 with h10; injection h11 with h11; injection h12 with h12
    subst h0 h1 h2 h3 h4 h5 h6 h7 h8 h9 h10 h11 h12
    rfl
theorem seven_of {l : List Value} (h : l.length = 7) {a0 a1 a2 a3 a4 a5 a6 : Value} (h0 : l[0]? = some a0) (h1 : l[1]? = some a1) (h2 : l[2]? = some a2) (h3 : l[3]? = some a3) (h4 : l[4]? = some a4) (h5 : l[5]? = some a5) (h6 : l[6]? = some a6) : l = [a0, a1, a2, a3, a4, a5, a6] := by
  match l, h with
  | [b0, b1, b2, b3, b4, b5, b6], _ =>
    injection h0 with h0; injection h1 with h1; injection h2 with h2; injection h3 with h3; injection h4 with h4; injection h5 with h5; injection h6 with h6
    subst h0 h1 h2 h3 h4 h5 h6
    rfl
/-- One value, thirteen, and those behind. -/
theorem joined_of {l : List Value} {a : Value} {cl s : List Value} (h0 : l[0]? = some a) (h1 : (l.drop 1).take 13 = cl) (h2 : l.drop 14 = s) : l = a :: (cl ++ s) := by
  match l with
  | [] => cases h0
  | b :: r =>
    injection h0 with h0
    subst h0 h1 h2
    rw [List.drop_succ_cons, List.drop_zero, List.drop_succ_cons, List.take_append_drop]
theorem drop_at' {l : List Value} {i : Nat} {v : Value} (h : l[14 + i]? = some v) : (l.drop 14)[i]? = some v := by rw [List.getElem?_drop]; exact h
set_option maxRecDepth 100000 in
set_option maxHeartbeats 4000000 in
theorem con_cells {n : Nat} {cs : List Value} {x : DataW H × List MemPlace} (h : DataW.trod enc Tryd.prog W base sp held n 26 cs = some x) : ∃ c : Con, cs = conL c ∧ ConOk c := by
  obtain ⟨xs, m, _, _, hl, hlen, hf⟩ := DataW.trod_struct Tryd.underlying26 h
  have hlen : xs.length = 13 := hlen
  obtain ⟨b0, e0, _⟩ := bool_part (j := 0) (by omega) (hf 0 _ rfl)
  obtain ⟨b1, e1, _⟩ := bool_part (j := 1) (by omega) (hf 1 _ rfl)
  obtain ⟨b2, e2, _⟩ := bool_part (j := 2) (by omega) (hf 2 _ rfl)
  obtain ⟨b3, e3, _⟩ := bool_part (j := 3) (by omega) (hf 3 _ rfl)
  obtain ⟨b4, e4, _⟩ := bool_part (j := 4) (by omega) (hf 4 _ rfl)
  obtain ⟨b5, e5, _⟩ := bool_part (j := 5) (by omega) (hf 5 _ rfl)
  obtain ⟨b6, e6, _⟩ := bool_part (j := 6) (by omega) (hf 6 _ rfl)
  obtain ⟨a7, e7, _, w7⟩ := int_part (j := 7) (by omega) (hf 7 _ rfl)
  obtain ⟨a8, e8, _, w8⟩ := int_part (j := 8) (by omega) (hf 8 _ rfl)
  obtain ⟨a9, e9, _, w9⟩ := int_part (j := 9) (by omega) (hf 9 _ rfl)
  obtain ⟨a10, e10, _, w10⟩ := int_part (j := 10) (by omega) (hf 10 _ rfl)
  obtain ⟨a11, e11, _, w11⟩ := int_part (j := 11) (by omega) (hf 11 _ rfl)
  obtain ⟨a12, e12, _, w12⟩ := int_part (j := 12) (by omega) (hf 12 _ rfl)
  refine ⟨⟨b0, b1, b2, b3, b4, b5, b6, a7, a8, a9, a10, a11, a12⟩, ?_, ⟨w7, w8, w9, w10, w11, w12⟩⟩
  exact thirteen_of (by rw [hl, cells_con]) e0 e1 e2 e3 e4 e5 e6 e7 e8 e9 e10 e11 e12
set_option maxRecDepth 100000 in
theorem open_con {r : Reach} {b0 : Nat} {v : Value} {d : DataW H} {p : List MemPlace} (hv : Value.okWide Tryd.prog W r b0 26 v)
    (h : DataW.Trod enc Tryd.prog W base sp held 26 v d p) : ∃ c : Con, v = .agg (cells c) ∧ ConOk c := by
  obtain ⟨cs, rfl, _⟩ := okWide_struct Tryd.underlying26 hv
  obtain ⟨fuel, hf⟩ := h
  obtain ⟨c, hc, ok⟩ := con_cells hf
  refine ⟨c, ?_, ok⟩
  have : cs.toList = (cells c).toList := hc
  rw [Array.toList_inj.1 this]
end
end Go.Proofs.YtledjiikpajdaaaDoor.Ct
/-
  A Meta that came in by value, read as numbers, flags and a text. Condition: what the form says of what is read.
-/
namespace Go.Proofs.YtledjiikpajdaaaDoor.Ct
open Go.RowKit Go.Proofs.YtledjiikpajdaaaDoor.Fd Go.ChangeShapes Go.WideShapes Go.Deep Go.Joins
set_option linter.unusedVariables false

structure MetOk (m : Mta) : Prop where
  code : IntOk m.code
  con : ConOk m.con
  date : IntOk m.date
  exp : IntOk m.exp
  mod : IntOk m.mod
  age : IntOk m.age
  ask : IntOk m.ask
  got : IntOk m.got
  tag : m.tag.size ≤ maxLen
def mcells (m : Mta) : Array Value := #[.int .i64 m.code, .bool m.con.ns, .bool m.con.nc, .bool m.con.pr, .bool m.con.pu, .bool m.con.mu, .bool m.con.px, .bool m.con.oc, .int .i64 m.con.ag, .int .i64 m.con.sh, .int .i64 m.con.wh, .int .i64 m.con.ie, .int .i64 m.con.mf, .int .i64 m.con.ms, .int .i64 m.date, .int .i64 m.exp, .int .i64 m.mod, .int .i64 m.age, .int .i64 m.ask, .int .i64 m.got, .string m.tag]
section
variable {H : Type} {enc : TypeId × Value → H} {W : World} {base : Nat} {sp : Nat → Bool} {held : Bool}
theorem cells_text : Tryd.prog.cellsOf 9 = 1 := by kernel_rfl
theorem cells_met : Tryd.prog.cellsOf 28 = 21 := by kernel_rfl
theorem text_part {n i j : Nat} {cs : List Value} {xs : List (DataW H × List MemPlace)} (hj : j < xs.length) (h : DataW.trod enc Tryd.prog W base sp held n 9 ((cs.drop i).take (Tryd.prog.cellsOf 9)) = xs[j]?) : ∃ s : ByteArray, cs[i]? = some (.string s) ∧ s.size ≤ maxLen := by
  rw [cells_text, List.getElem?_eq_getElem hj] at h
  obtain ⟨s, e, _, hw⟩ := DataW.trod_string Tryd.underlying9 h
  exact ⟨s, list_at e, hw⟩
set_option maxRecDepth 100000 in
set_option maxHeartbeats 4000000 in
theorem met_cells {n : Nat} {cs : List Value} {x : DataW H × List MemPlace} (h : DataW.trod enc Tryd.prog W base sp held n 28 cs = some x) : ∃ m : Mta, cs = (mcells m).toList ∧ MetOk m := by
  obtain ⟨xs, m, _, _, hl, hlen, hf⟩ := DataW.trod_struct Tryd.underlying28 h
  have hlen : xs.length = 9 := hlen
  rw [cells_met] at hl
  obtain ⟨a0, e0, _, w0⟩ := int_part (j := 0) (by omega) (hf 0 _ rfl)
  have h1 := hf 1 _ rfl
  rw [List.getElem?_eq_getElem (show 1 < xs.length by omega)] at h1
  obtain ⟨c, e1, w1⟩ := con_cells h1
  replace e1 : (cs.drop 1).take (Tryd.prog.cellsOf 26) = conL c := e1
  rw [cells_con] at e1
  obtain ⟨a2, e2, _, w2⟩ := int_part (j := 2) (by omega) (hf 2 _ rfl)
  obtain ⟨a3, e3, _, w3⟩ := int_part (j := 3) (by omega) (hf 3 _ rfl)
  obtain ⟨a4, e4, _, w4⟩ := int_part (j := 4) (by omega) (hf 4 _ rfl)
  obtain ⟨a5, e5, _, w5⟩ := int_part (j := 5) (by omega) (hf 5 _ rfl)
  obtain ⟨a6, e6, _, w6⟩ := int_part (j := 6) (by omega) (hf 6 _ rfl)
  obtain ⟨a7, e7, _, w7⟩ := int_part (j := 7) (by omega) (hf 7 _ rfl)
  obtain ⟨s8, e8, w8⟩ := text_part (j := 8) (by omega) (hf 8 _ rfl)
  refine ⟨⟨a0, c, a2, a3, a4, a5, a6, a7, s8⟩, ?_, ⟨w0, w1, w2, w3, w4, w5, w6, w7, w8⟩⟩
  exact joined_of e0 e1 (seven_of (by rw [List.length_drop, hl]) (drop_at' e2) (drop_at' e3) (drop_at' e4) (drop_at' e5) (drop_at' e6) (drop_at' e7) (drop_at' e8))
set_option maxRecDepth 100000 in
theorem open_met {r : Reach} {b0 : Nat} {v : Value} {d : DataW H} {p : List MemPlace} (hv : Value.okWide Tryd.prog W r b0 28 v)
    (h : DataW.Trod enc Tryd.prog W base sp held 28 v d p) : ∃ m : Mta, v = .agg (mcells m) ∧ MetOk m := by
  obtain ⟨cs, rfl, _⟩ := okWide_struct Tryd.underlying28 hv
  obtain ⟨fuel, hf⟩ := h
  obtain ⟨m, hm, ok⟩ := met_cells hf
  have hm' : cs.toList = (mcells m).toList := hm
  exact ⟨m, by rw [Array.toList_inj.1 hm'], ok⟩
end
end Go.Proofs.YtledjiikpajdaaaDoor.Ct
