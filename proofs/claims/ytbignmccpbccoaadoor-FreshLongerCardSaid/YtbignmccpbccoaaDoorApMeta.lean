/-
  A Meta that came in by value, read as numbers, flags and a text. Condition: what the form says of what is read.
-/
import Derived.Test.YtbignmccpbccoaaDoorApConV
namespace Go.Proofs.YtbignmccpbccoaaDoor.Ct
open Go.RowKit Go.Proofs.YtbignmccpbccoaaDoor.Fd Go.ChangeShapes Go.WideShapes Go.Deep Go.Joins
set_option linter.unusedVariables false

structure MetOk (m : Mta) : Prop where
  code : IntOk m.code
  con : ConOk m.con
  date : IntOk m.date
  exp : IntOk m.exp
  mod : IntOk m.mod
  age : IntOk m.age
  ask : IntOk m.ask
  got : IntOk m.got
  tag : m.tag.size ≤ maxLen
def mcells (m : Mta) : Array Value := #[.int .i64 m.code, .bool m.con.ns, .bool m.con.nc, .bool m.con.pr, .bool m.con.pu, .bool m.con.mu, .bool m.con.px, .bool m.con.oc, .int .i64 m.con.ag, .int .i64 m.con.sh, .int .i64 m.con.wh, .int .i64 m.con.ie, .int .i64 m.con.mf, .int .i64 m.con.ms, .int .i64 m.date, .int .i64 m.exp, .int .i64 m.mod, .int .i64 m.age, .int .i64 m.ask, .int .i64 m.got, .string m.tag]
section
variable {H : Type} {enc : TypeId × Value → H} {W : World} {base : Nat} {sp : Nat → Bool} {held : Bool}
theorem cells_text : Tryd.prog.cellsOf 9 = 1 := by kernel_rfl
theorem cells_met : Tryd.prog.cellsOf 25 = 21 := by kernel_rfl
theorem text_part {n i j : Nat} {cs : List Value} {xs : List (DataW H × List MemPlace)} (hj : j < xs.length) (h : DataW.trod enc Tryd.prog W base sp held n 9 ((cs.drop i).take (Tryd.prog.cellsOf 9)) = xs[j]?) : ∃ s : ByteArray, cs[i]? = some (.string s) ∧ s.size ≤ maxLen := by
  rw [cells_text, List.getElem?_eq_getElem hj] at h
  obtain ⟨s, e, _, hw⟩ := DataW.trod_string Tryd.underlying9 h
  exact ⟨s, list_at e, hw⟩
set_option maxRecDepth 100000 in
set_option maxHeartbeats 4000000 in
theorem met_cells {n : Nat} {cs : List Value} {x : DataW H × List MemPlace} (h : DataW.trod enc Tryd.prog W base sp held n 25 cs = some x) : ∃ m : Mta, cs = (mcells m).toList ∧ MetOk m := by
  obtain ⟨xs, m, _, _, hl, hlen, hf⟩ := DataW.trod_struct Tryd.underlying25 h
  have hlen : xs.length = 9 := hlen
  rw [cells_met] at hl
  obtain ⟨a0, e0, _, w0⟩ := int_part (j := 0) (by omega) (hf 0 _ rfl)
  have h1 := hf 1 _ rfl
  rw [List.getElem?_eq_getElem (show 1 < xs.length by omega)] at h1
  obtain ⟨c, e1, w1⟩ := con_cells h1
  replace e1 : (cs.drop 1).take (Tryd.prog.cellsOf 23) = conL c := e1
  rw [cells_con] at e1
  obtain ⟨a2, e2, _, w2⟩ := int_part (j := 2) (by omega) (hf 2 _ rfl)
  obtain ⟨a3, e3, _, w3⟩ := int_part (j := 3) (by omega) (hf 3 _ rfl)
  obtain ⟨a4, e4, _, w4⟩ := int_part (j := 4) (by omega) (hf 4 _ rfl)
  obtain ⟨a5, e5, _, w5⟩ := int_part (j := 5) (by omega) (hf 5 _ rfl)
  obtain ⟨a6, e6, _, w6⟩ := int_part (j := 6) (by omega) (hf 6 _ rfl)
  obtain ⟨a7, e7, _, w7⟩ := int_part (j := 7) (by omega) (hf 7 _ rfl)
  obtain ⟨s8, e8, w8⟩ := text_part (j := 8) (by omega) (hf 8 _ rfl)
  refine ⟨⟨a0, c, a2, a3, a4, a5, a6, a7, s8⟩, ?_, ⟨w0, w1, w2, w3, w4, w5, w6, w7, w8⟩⟩
  exact joined_of e0 e1 (seven_of (by rw [List.length_drop, hl]) (drop_at' e2) (drop_at' e3) (drop_at' e4) (drop_at' e5) (drop_at' e6) (drop_at' e7) (drop_at' e8))
theorem open_met {r : Reach} {b0 : Nat} {v : Value} {d : DataW H} {p : List MemPlace} (hv : Value.okWide Tryd.prog W r b0 25 v)
    (h : DataW.Trod enc Tryd.prog W base sp held 25 v d p) : ∃ m : Mta, v = .agg (mcells m) ∧ MetOk m := by
  obtain ⟨cs, rfl, _⟩ := okWide_struct Tryd.underlying25 hv
  obtain ⟨fuel, hf⟩ := h
  obtain ⟨m, hm, ok⟩ := met_cells hf
  have hm' : cs.toList = (mcells m).toList := hm
  exact ⟨m, by rw [Array.toList_inj.1 hm'], ok⟩
end
end Go.Proofs.YtbignmccpbccoaaDoor.Ct
