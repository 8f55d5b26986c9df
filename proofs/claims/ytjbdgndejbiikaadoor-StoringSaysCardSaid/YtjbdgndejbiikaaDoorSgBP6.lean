/-
  Texts that the laws' proofs stand on, 3 of them in one file; each one's head says what it proves and under which condition.
-/
import Derived.Test.YtjbdgndejbiikaaDoorSgBP5
import Derived.Test.YtjbdgndejbiikaaDoorSgBP4
import Derived.Deep.RegionWith
import Derived.Deep.QuietTactic
import Derived.BigQuiet
import Derived.WalkLawsBesides
import Derived.Laws.EntriesVeiled
/-
  A Meta that came in by value, read as numbers, flags and a text. Condition: what the form says of what is read.
-/
namespace Go.Proofs.YtjbdgndejbiikaaDoor.Ct
open Go.RowKit Go.Proofs.YtjbdgndejbiikaaDoor.Fd Go.ChangeShapes Go.WideShapes Go.Deep Go.Joins
set_option linter.unusedVariables false

structure MetOk (m : Mta) : Prop where
  code : IntOk m.code
  con : ConOk m.con
  date : IntOk m.date
  exp : IntOk m.exp
  mod : IntOk m.mod
  age : IntOk m.age
  ask : IntOk m.ask
  got : IntOk m.got
  tag : m.tag.size ≤ maxLen
def mcells (m : Mta) : Array Value := #[.int .i64 m.code, .bool m.con.ns, .bool m.con.nc, .bool m.con.pr, .bool m.con.pu, .bool m.con.mu, .bool m.con.px, .bool m.con.oc, .int .i64 m.con.ag, .int .i64 m.con.sh, .int .i64 m.con.wh, .int .i64 m.con.ie, .int .i64 m.con.mf, .int .i64 m.con.ms, .int .i64 m.date, .int .i64 m.exp, .int .i64 m.mod, .int .i64 m.age, .int .i64 m.ask, .int .i64 m.got, .string m.tag]
section
variable {H : Type} {enc : TypeId × Value → H} {W : World} {base : Nat} {sp : Nat → Bool} {held : Bool}
theorem cells_text : Tryd.prog.cellsOf 9 = 1 := by kernel_rfl
theorem cells_met : Tryd.prog.cellsOf 35 = 21 := by kernel_rfl
theorem text_part {n i j : Nat} {cs : List Value} {xs : List (DataW H × List MemPlace)} (hj : j < xs.length) (h : DataW.trod enc Tryd.prog W base sp held n 9 ((cs.drop i).take (Tryd.prog.cellsOf 9)) = xs[j]?) : ∃ s : ByteArray, cs[i]? = some (.string s) ∧ s.size ≤ maxLen := by
  rw [cells_text, List.getElem?_eq_getElem hj] at h
  obtain ⟨s, e, _, hw⟩ := DataW.trod_string Tryd.underlying9 h
  exact ⟨s, list_at e, hw⟩
set_option maxRecDepth 100000 in
set_option maxHeartbeats 4000000 in
theorem met_cells {n : Nat} {cs : List Value} {x : DataW H × List MemPlace} (h : DataW.trod enc Tryd.prog W base sp held n 35 cs = some x) : ∃ m : Mta, cs = (mcells m).toList ∧ MetOk m := by
  obtain ⟨xs, m, _, _, hl, hlen, hf⟩ := DataW.trod_struct Tryd.underlying35 h
  have hlen : xs.length = 9 := hlen
  rw [cells_met] at hl
  obtain ⟨a0, e0, _, w0⟩ := int_part (j := 0) (by omega) (hf 0 _ rfl)
  have h1 := hf 1 _ rfl
  rw [List.getElem?_eq_getElem (show 1 < xs.length by omega)] at h1
  obtain ⟨c, e1, w1⟩ := con_cells h1
  replace e1 : (cs.drop 1).take (Tryd.prog.cellsOf 33) = conL c := e1
  rw [cells_con] at e1
  obtain ⟨a2, e2, _, w2⟩ := int_part (j := 2) (by omega) (hf 2 _ rfl)
  obtain ⟨a3, e3, _, w3⟩ := int_part (j := 3) (by omega) (hf 3 _ rfl)
  obtain ⟨a4, e4, _, w4⟩ := int_part (j := 4) (by omega) (hf 4 _ rfl)
  obtain ⟨a5, e5, _, w5⟩ := int_part (j := 5) (by omega) (hf 5 _ rfl)
  obtain ⟨a6, e6, _, w6⟩ := int_part (j := 6) (by omega) (hf 6 _ rfl)
  obtain ⟨a7, e7, _, w7⟩ := int_part (j := 7) (by omega) (hf 7 _ rfl)
  obtain ⟨s8, e8, w8⟩ := text_part (j := 8) (by omega) (hf 8 _ rfl)
  refine ⟨⟨a0, c, a2, a3, a4, a5, a6, a7, s8⟩, ?_, ⟨w0, w1, w2, w3, w4, w5, w6, w7, w8⟩⟩
  exact joined_of e0 e1 (seven_of (by rw [List.length_drop, hl]) (drop_at' e2) (drop_at' e3) (drop_at' e4) (drop_at' e5) (drop_at' e6) (drop_at' e7) (drop_at' e8))
set_option maxRecDepth 100000 in
theorem open_met {r : Reach} {b0 : Nat} {v : Value} {d : DataW H} {p : List MemPlace} (hv : Value.okWide Tryd.prog W r b0 35 v)
    (h : DataW.Trod enc Tryd.prog W base sp held 35 v d p) : ∃ m : Mta, v = .agg (mcells m) ∧ MetOk m := by
  obtain ⟨cs, rfl, _⟩ := okWide_struct Tryd.underlying35 hv
  obtain ⟨fuel, hf⟩ := h
  obtain ⟨m, hm, ok⟩ := met_cells hf
  have hm' : cs.toList = (mcells m).toList := hm
  exact ⟨m, by rw [Array.toList_inj.1 hm'], ok⟩
end
end Go.Proofs.YtjbdgndejbiikaaDoor.Ct
/-
  fresh.told, fresh.within and its closure, fresh.between: what each returns. No condition but what each states.
-/
-- cut by strips.py
namespace Go.Proofs.YtjbdgndejbiikaaDoor.Fh
open Go.RowKit Go.Proofs.YtjbdgndejbiikaaDoor.Ct Go.Proofs.YtjbdgndejbiikaaDoor.Fd
set_option linter.unusedVariables false

/-- A variable of one int. -/
def IVar (w : World) (b : Nat) (n : Int) : Prop := w.heap[b]? = some (.cells #[.int .i64 n] 3 (0, 0))
theorem IVar.cell {w : World} {b : Nat} {n : Int} (h : IVar w b n) : w.cell? ⟨b, 0, none⟩ = some (.int .i64 n) := by rw [Lib.cell_of_heap h]; rfl
theorem IVar.more {w w' : World} {b : Nat} {n : Int} (h : IVar w b n) {B : Nat} (hb : Below B w w') (hl : b < B) : IVar w' b n := Bl.old hb hl h
def clampT (l m n : Int) : Int := if (if n < l then l else n) < m then (if n < l then l else n) else m

theorem ret_int {k : IntKind} {a b : Int} (h : a = b) : Ending.returned (.int k a) = .returned (.int k b) := by rw [h]
theorem clamp_told (n : Int) : clampT 0 mostT n = toldT n := by
  unfold clampT toldT cutT
  have h5 : mostT = 1099511627776 := rfl
  repeat' split
  all_goals omega
theorem clamp_age {n : Int} (h : 0 ≤ n) : clampT 0 mostA n = atMost n mostA := by
  unfold clampT atMost
  have h5 : mostA = 2147483648 := rfl
  repeat' split
  all_goals omega
theorem clamp_bd (l m n : Int) (h : l ≤ m) : l ≤ clampT l m n ∧ clampT l m n ≤ m := by
  unfold clampT
  repeat' split
  all_goals omega
/-- A second, brought into its range: not told, or at most mostT. -/
def secT (n : Int) : Int := clampT (-1) mostT n
theorem secT_bd (n : Int) : -1 ≤ secT n ∧ secT n ≤ 1099511627776 := clamp_bd _ _ _ (by decide)
theorem secT_of {n : Int} (h : 0 ≤ n) : secT n = cutT n := by
  unfold secT clampT cutT
  have h5 : mostT = 1099511627776 := rfl
  repeat' split
  all_goals omega
theorem secT_neg {n : Int} (h : n < 0) : secT n = -1 := by
  unfold secT clampT
  have h5 : mostT = 1099511627776 := rfl
  repeat' split
  all_goals omega
theorem less_neg {a b : Int} (h : secT a < 0 ∨ secT b < 0) : lessT a b = 0 := by
  unfold lessT
  rw [if_pos]
  rcases h with h | h
  · by_cases ha : a < 0
    · exact .inl ha
    · rw [secT_of (by omega)] at h; have := cutT_bd (n := a) (by omega); omega
  · by_cases ha : b < 0
    · exact .inr (.inl ha)
    · rw [secT_of (by omega)] at h; have := cutT_bd (n := b) (by omega); omega
theorem less_told {a b : Int} (h : 0 ≤ secT a) (h2 : 0 ≤ secT b) : lessT a b = if secT a - secT b < 0 then 0 else secT a - secT b := by
  have ha : 0 ≤ a := by
    rcases (show a < 0 ∨ 0 ≤ a by omega) with g | g
    · rw [secT_neg g] at h; omega
    · exact g
  have hb : 0 ≤ b := by
    rcases (show b < 0 ∨ 0 ≤ b by omega) with g | g
    · rw [secT_neg g] at h2; omega
    · exact g
  rw [secT_of ha, secT_of hb]
  unfold lessT
  repeat' split
  all_goals omega

end Go.Proofs.YtjbdgndejbiikaaDoor.Fh
/-
  fresh.Heuristic: what it returns. Condition: the listed table of codes.
-/
namespace Go.Proofs.YtjbdgndejbiikaaDoor.Fh
open Go.RowKit Go.Proofs.YtjbdgndejbiikaaDoor.Ct Go.Proofs.YtjbdgndejbiikaaDoor.Fd
set_option linter.unusedVariables false

/-- The table of codes that are kept without being told, in memory. -/
def Codes (w : World) : Prop := ∀ n : Nat, n < 12 → w.cell? ⟨0, n, none⟩ = some (.int .i64 (codes.getD n 0))
theorem Codes.below {B : Nat} {w w' : World} (h : Codes w) (hb : Below B w w') (hg : 0 < B) : Codes w' := fun n hn => (hb.cell (p := ⟨0, n, none⟩) hg).trans (h n hn)
theorem Codes.lt {w : World} (h : Codes w) : 0 < w.heap.size := block_lt_of_cell (h 0 (by decide))
def codesArr : Value := .agg #[.int .i64 200, .int .i64 203, .int .i64 204, .int .i64 206, .int .i64 300, .int .i64 301, .int .i64 308, .int .i64 404, .int .i64 405, .int .i64 410, .int .i64 414, .int .i64 501]
theorem idx0 (w : World) : (Instr.index 99 codesArr (.int .i64 0)).run Tryd.prog w = .ok (.int .i64 200) w := by kernel_rfl
theorem idx1 (w : World) : (Instr.index 99 codesArr (.int .i64 1)).run Tryd.prog w = .ok (.int .i64 203) w := by kernel_rfl
theorem idx2 (w : World) : (Instr.index 99 codesArr (.int .i64 2)).run Tryd.prog w = .ok (.int .i64 204) w := by kernel_rfl
theorem idx3 (w : World) : (Instr.index 99 codesArr (.int .i64 3)).run Tryd.prog w = .ok (.int .i64 206) w := by kernel_rfl
theorem idx4 (w : World) : (Instr.index 99 codesArr (.int .i64 4)).run Tryd.prog w = .ok (.int .i64 300) w := by kernel_rfl
theorem idx5 (w : World) : (Instr.index 99 codesArr (.int .i64 5)).run Tryd.prog w = .ok (.int .i64 301) w := by kernel_rfl
theorem idx6 (w : World) : (Instr.index 99 codesArr (.int .i64 6)).run Tryd.prog w = .ok (.int .i64 308) w := by kernel_rfl
theorem idx7 (w : World) : (Instr.index 99 codesArr (.int .i64 7)).run Tryd.prog w = .ok (.int .i64 404) w := by kernel_rfl
theorem idx8 (w : World) : (Instr.index 99 codesArr (.int .i64 8)).run Tryd.prog w = .ok (.int .i64 405) w := by kernel_rfl
theorem idx9 (w : World) : (Instr.index 99 codesArr (.int .i64 9)).run Tryd.prog w = .ok (.int .i64 410) w := by kernel_rfl
theorem idx10 (w : World) : (Instr.index 99 codesArr (.int .i64 10)).run Tryd.prog w = .ok (.int .i64 414) w := by kernel_rfl
theorem idx11 (w : World) : (Instr.index 99 codesArr (.int .i64 11)).run Tryd.prog w = .ok (.int .i64 501) w := by kernel_rfl
theorem idx_any (k : Nat) (hk : k < 12) (w : World) : (Instr.index 99 codesArr (.int .i64 (k : Int))).run Tryd.prog w = .ok (.int .i64 (codes.getD k 0)) w := by
  match k, hk with
  | 0, _ => exact idx0 w
  | 1, _ => exact idx1 w
  | 2, _ => exact idx2 w
  | 3, _ => exact idx3 w
  | 4, _ => exact idx4 w
  | 5, _ => exact idx5 w
  | 6, _ => exact idx6 w
  | 7, _ => exact idx7 w
  | 8, _ => exact idx8 w
  | 9, _ => exact idx9 w
  | 10, _ => exact idx10 w
  | 11, _ => exact idx11 w
def seen (k : Nat) (n : Int) : Bool := (codes.take k).contains n
theorem seen_next (k : Nat) (hk : k < 12) (n : Int) : seen (k + 1) n = (seen k n || decide (n = codes.getD k 0)) := by
  match k, hk with
  | 0, _ | 1, _ | 2, _ | 3, _ | 4, _ | 5, _ | 6, _ | 7, _ | 8, _ | 9, _ | 10, _ | 11, _ => simp [seen, codes, List.take, Bool.or_assoc]
theorem seen_all (n : Int) : seen 12 n = heurOf n := rfl
theorem seen_more (k : Nat) (hk : k < 12) (n : Int) (h : (codes.getD k 0 == n) = true) : heurOf n = true := by
  have hn : codes.getD k 0 = n := beq_iff_eq.1 h
  subst hn
  match k, hk with
  | 0, _ | 1, _ | 2, _ | 3, _ | 4, _ | 5, _ | 6, _ | 7, _ | 8, _ | 9, _ | 10, _ | 11, _ => rfl
set_option maxHeartbeats 1000000 in
theorem heur_any (n : Int) (w : World) (hC : Codes w) : Calls Tryd.prog 32 #[.int .i64 n] w fun e w' => e = .returned (.bool (heurOf n)) ∧ w = w' := by
  have c0 := hC 0 (by decide)
  have c1 := hC 1 (by decide)
  have c2 := hC 2 (by decide)
  have c3 := hC 3 (by decide)
  have c4 := hC 4 (by decide)
  have c5 := hC 5 (by decide)
  have c6 := hC 6 (by decide)
  have c7 := hC 7 (by decide)
  have c8 := hC 8 (by decide)
  have c9 := hC 9 (by decide)
  have c10 := hC 10 (by decide)
  have c11 := hC 11 (by decide)
  simp only [codes, List.getD_cons_zero, List.getD_cons_succ] at c0 c1 c2 c3 c4 c5 c6 c7 c8 c9 c10 c11
  clear hC
  go_enter Tryd.func32, Tryd.ntmps32
  go_wp2_with fail
  clear c0 c1 c2 c3 c4 c5 c6 c7 c8 c9 c10 c11
  go_loop [6] (fun i => ∃ k : Nat, k ≤ 12 ∧ i = .int .i64 (k : Int) ∧ seen k n = false) (fun i => 12 - (intOf i).toNat)
  case atStart => exact ⟨0, by omega, rfl, rfl⟩
  case round =>
    obtain ⟨k, hk, rfl, hs⟩ := hrel
    by_cases hlt : k < 12
    · have hi := idx_any k hlt
      unfold codesArr at hi
      have HN := Lib.hid (seen_next k hlt n)
      have HM := Lib.hid (seen_more k hlt n)
      have HS := Lib.hid hs
      clear hs
      obtain ⟨c, hc⟩ : ∃ c, codes.getD k 0 = c := ⟨_, rfl⟩
      rw [hc] at hi HN HM
      clear hc
      by_cases e : c = n
      · have e1 : (c == n) = true := beq_iff_eq.2 e
        have HT := Lib.hid (HM.out e1)
        clear HN HM e
        go_wp2_with fail
        go_ret
        exact ⟨by rw [HT.out]; rfl, rfl⟩
      · have e1 : (c == n) = false := beq_eq_false_iff_ne.2 e
        have HT := Lib.hid (show seen (k + 1) n = false from by rw [HN.out, HS.out]; simp only [Bool.false_or, decide_eq_false_iff_not]; exact fun h => beq_eq_false_iff_ne.1 e1 h.symm)
        clear HN HM HS e
        go_wp2_with fail
        go_round
        case rel => exact ⟨k + 1, by omega, by go_num, HT.out⟩
        case measure => simp [intOf]; omega
    · obtain rfl : k = 12 := by omega
      rw [seen_all] at hs
      have HS := Lib.hid hs
      clear hs
      go_wp2_with fail
      go_ret
      exact ⟨by rw [HS.out]; rfl, rfl⟩
end Go.Proofs.YtjbdgndejbiikaaDoor.Fh
