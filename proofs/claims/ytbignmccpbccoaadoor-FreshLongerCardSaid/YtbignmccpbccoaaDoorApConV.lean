/-
  A Control that came in by value, read as flags and numbers. Condition: what the form says of what is read.
-/
import Derived.Test.YtbignmccpbccoaaDoorApCon
import Derived.Lib.SmallJoins
import Derived.SizedLaws
import Derived.ProofKit
import Derived.ChangeArms
namespace Go.Proofs.YtbignmccpbccoaaDoor.Ct
open Go.RowKit Go.Proofs.YtbignmccpbccoaaDoor.Fd Go.ChangeShapes Go.WideShapes Go.Deep Go.Joins
set_option linter.unusedVariables false

/-- An int of Go's. -/
abbrev IntOk (n : Int) : Prop := (Lit.int .i64 n).wf = true
theorem intOk_bd {n : Int} (h : IntOk n) : -9223372036854775808 ≤ n ∧ n ≤ 9223372036854775807 := by
  have h2 : (Lit.int .i64 n).wf = true := h
  simp only [Lit.wf, Bool.and_eq_true, decide_eq_true_eq] at h2
  have e1 : IntKind.i64.min = -9223372036854775808 := rfl
  have e2 : IntKind.i64.max = 9223372036854775807 := rfl
  omega
/-- All its numbers are ints. -/
structure ConOk (c : Con) : Prop where
  ag : IntOk c.ag
  sh : IntOk c.sh
  wh : IntOk c.wh
  ie : IntOk c.ie
  mf : IntOk c.mf
  ms : IntOk c.ms
section
variable {H : Type} {enc : TypeId × Value → H} {W : World} {base : Nat} {sp : Nat → Bool} {held : Bool}
theorem cells_bool : Tryd.prog.cellsOf 4 = 1 := by kernel_rfl
theorem cells_int : Tryd.prog.cellsOf 3 = 1 := by kernel_rfl
theorem cells_con : Tryd.prog.cellsOf 23 = 13 := by kernel_rfl
theorem list_at {l : List Value} {i : Nat} {v : Value} (h : (l.drop i).take 1 = [v]) : l[i]? = some v := by
  have h2 : ((l.drop i).take 1)[0]? = some v := by rw [h]; rfl
  simpa [List.getElem?_take, List.getElem?_drop] using h2
theorem bool_part {n i j : Nat} {cs : List Value} {xs : List (DataW H × List MemPlace)} (hj : j < xs.length) (h : DataW.trod enc Tryd.prog W base sp held n 4 ((cs.drop i).take (Tryd.prog.cellsOf 4)) = xs[j]?) : ∃ b : Bool, cs[i]? = some (.bool b) ∧ xs[j]? = some (.lit (.bool b), []) := by
  rw [cells_bool, List.getElem?_eq_getElem hj] at h
  obtain ⟨b, e, e2⟩ := DataW.trod_bool Tryd.underlying4 h
  exact ⟨b, list_at e, by rw [List.getElem?_eq_getElem hj, e2]⟩
theorem int_part {n i j : Nat} {cs : List Value} {xs : List (DataW H × List MemPlace)} (hj : j < xs.length) (h : DataW.trod enc Tryd.prog W base sp held n 3 ((cs.drop i).take (Tryd.prog.cellsOf 3)) = xs[j]?) : ∃ a : Int, cs[i]? = some (.int .i64 a) ∧ xs[j]? = some (.lit (.int .i64 a), []) ∧ IntOk a := by
  rw [cells_int, List.getElem?_eq_getElem hj] at h
  obtain ⟨a, e, e2, hw⟩ := DataW.trod_int Tryd.underlying3 h
  exact ⟨a, list_at e, by rw [List.getElem?_eq_getElem hj, e2], hw⟩
theorem thirteen_of {l : List Value} (h : l.length = 13) {a0 a1 a2 a3 a4 a5 a6 a7 a8 a9 a10 a11 a12 : Value} (h0 : l[0]? = some a0) (h1 : l[1]? = some a1) (h2 : l[2]? = some a2) (h3 : l[3]? = some a3) (h4 : l[4]? = some a4) (h5 : l[5]? = some a5) (h6 : l[6]? = some a6)
    (h7 : l[7]? = some a7) (h8 : l[8]? = some a8) (h9 : l[9]? = some a9) (h10 : l[10]? = some a10) (h11 : l[11]? = some a11) (h12 : l[12]? = some a12) : l = [a0, a1, a2, a3, a4, a5, a6, a7, a8, a9, a10, a11, a12] := by
  match l, h with
  | [b0, b1, b2, b3, b4, b5, b6, b7, b8, b9, b10, b11, b12], _ =>
    injection h0 with h0; injection h1 with h1; injection h2 with h2; injection h3 with h3; injection h4 with h4; injection h5 with h5; injection h6 with h6
    injection h7 with h7; injection h8 with h8; injection h9 with h9; injection h10 with h10; injection h11 with h11; injection h12 with h12
    subst h0 h1 h2 h3 h4 h5 h6 h7 h8 h9 h10 h11 h12
    rfl
theorem seven_of {l : List Value} (h : l.length = 7) {a0 a1 a2 a3 a4 a5 a6 : Value} (h0 : l[0]? = some a0) (h1 : l[1]? = some a1) (h2 : l[2]? = some a2) (h3 : l[3]? = some a3) (h4 : l[4]? = some a4) (h5 : l[5]? = some a5) (h6 : l[6]? = some a6) : l = [a0, a1, a2, a3, a4, a5, a6] := by
  match l, h with
  | [b0, b1, b2, b3, b4, b5, b6], _ =>
    injection h0 with h0; injection h1 with h1; injection h2 with h2; injection h3 with h3; injection h4 with h4; injection h5 with h5; injection h6 with h6
    subst h0 h1 h2 h3 h4 h5 h6
    rfl
/-- One value, thirteen, and those behind. -/
theorem joined_of {l : List Value} {a : Value} {cl s : List Value} (h0 : l[0]? = some a) (h1 : (l.drop 1).take 13 = cl) (h2 : l.drop 14 = s) : l = a :: (cl ++ s) := by
  match l with
  | [] => cases h0
  | b :: r =>
    injection h0 with h0
    subst h0 h1 h2
    rw [List.drop_succ_cons, List.drop_zero, List.drop_succ_cons, List.take_append_drop]
theorem drop_at' {l : List Value} {i : Nat} {v : Value} (h : l[14 + i]? = some v) : (l.drop 14)[i]? = some v := by rw [List.getElem?_drop]; exact h
set_option maxRecDepth 100000 in
set_option maxHeartbeats 4000000 in
theorem con_cells {n : Nat} {cs : List Value} {x : DataW H × List MemPlace} (h : DataW.trod enc Tryd.prog W base sp held n 23 cs = some x) : ∃ c : Con, cs = conL c ∧ ConOk c := by
  obtain ⟨xs, m, _, _, hl, hlen, hf⟩ := DataW.trod_struct Tryd.underlying23 h
  have hlen : xs.length = 13 := hlen
  obtain ⟨b0, e0, _⟩ := bool_part (j := 0) (by omega) (hf 0 _ rfl)
  obtain ⟨b1, e1, _⟩ := bool_part (j := 1) (by omega) (hf 1 _ rfl)
  obtain ⟨b2, e2, _⟩ := bool_part (j := 2) (by omega) (hf 2 _ rfl)
  obtain ⟨b3, e3, _⟩ := bool_part (j := 3) (by omega) (hf 3 _ rfl)
  obtain ⟨b4, e4, _⟩ := bool_part (j := 4) (by omega) (hf 4 _ rfl)
  obtain ⟨b5, e5, _⟩ := bool_part (j := 5) (by omega) (hf 5 _ rfl)
  obtain ⟨b6, e6, _⟩ := bool_part (j := 6) (by omega) (hf 6 _ rfl)
  obtain ⟨a7, e7, _, w7⟩ := int_part (j := 7) (by omega) (hf 7 _ rfl)
  obtain ⟨a8, e8, _, w8⟩ := int_part (j := 8) (by omega) (hf 8 _ rfl)
  obtain ⟨a9, e9, _, w9⟩ := int_part (j := 9) (by omega) (hf 9 _ rfl)
  obtain ⟨a10, e10, _, w10⟩ := int_part (j := 10) (by omega) (hf 10 _ rfl)
  obtain ⟨a11, e11, _, w11⟩ := int_part (j := 11) (by omega) (hf 11 _ rfl)
  obtain ⟨a12, e12, _, w12⟩ := int_part (j := 12) (by omega) (hf 12 _ rfl)
  refine ⟨⟨b0, b1, b2, b3, b4, b5, b6, a7, a8, a9, a10, a11, a12⟩, ?_, ⟨w7, w8, w9, w10, w11, w12⟩⟩
  exact thirteen_of (by rw [hl, cells_con]) e0 e1 e2 e3 e4 e5 e6 e7 e8 e9 e10 e11 e12
theorem open_con {r : Reach} {b0 : Nat} {v : Value} {d : DataW H} {p : List MemPlace} (hv : Value.okWide Tryd.prog W r b0 23 v)
    (h : DataW.Trod enc Tryd.prog W base sp held 23 v d p) : ∃ c : Con, v = .agg (cells c) ∧ ConOk c := by
  obtain ⟨cs, rfl, _⟩ := okWide_struct Tryd.underlying23 hv
  obtain ⟨fuel, hf⟩ := h
  obtain ⟨c, hc, ok⟩ := con_cells hf
  refine ⟨c, ?_, ok⟩
  have : cs.toList = (cells c).toList := hc
  rw [Array.toList_inj.1 this]
end
end Go.Proofs.YtbignmccpbccoaaDoor.Ct
