/-
  The struct that ControlJoins wants, made of two others, whatever order its operations come in. No condition but what each states.
-/
import Derived.Test.YtmnnbefigepgfaaDoorCtParse
import Derived.Test.YtmnnbefigepgfaaDoorRgInv
import Derived.Deep.WholeRow
namespace Go.Proofs.YtmnnbefigepgfaaDoor.Ct
open Go.RowKit Go.Proofs.YtmnnbefigepgfaaDoor.Tk Go.Proofs.YtmnnbefigepgfaaDoor.Fd Go.Proofs.YtmnnbefigepgfaaDoor.Hd Go.Proofs.YtmnnbefigepgfaaDoor.Rg
set_option linter.unusedVariables false

theorem less_any (a b : Int) (w : World) : Calls Tryd.prog 10 #[.int .i64 a, .int .i64 b] w fun e w' => e = .returned (.int .i64 (less a b)) ∧ w = w' := by
  by_cases h1 : a < 0
  · have HV := Lib.hid (show less a b = b from by unfold less; rw [if_pos (.inl h1)])
    go_enter Tryd.func10, Tryd.ntmps10
    go_wp2
    go_ret
    exact ⟨by rw [HV.out]; rfl, rfl⟩
  · by_cases h2 : 0 ≤ b
    · by_cases h3 : b < a
      · have HV := Lib.hid (show less a b = b from by unfold less; rw [if_pos (.inr ⟨h2, h3⟩)])
        go_enter Tryd.func10, Tryd.ntmps10
        go_wp2
        go_ret
        exact ⟨by rw [HV.out]; rfl, rfl⟩
      · have HV := Lib.hid (show less a b = a from by unfold less; rw [if_neg (by omega)])
        go_enter Tryd.func10, Tryd.ntmps10
        go_wp2
        go_ret
        exact ⟨by rw [HV.out]; rfl, rfl⟩
    · have HV := Lib.hid (show less a b = a from by unfold less; rw [if_neg (by omega)])
      go_enter Tryd.func10, Tryd.ntmps10
      go_wp2
      go_ret
      exact ⟨by rw [HV.out]; rfl, rfl⟩
def isOpG (ops : Array Oper) (i : Nat) (gd : Option (Nat × Bool)) (d : Option Tmp) (op : Op) : Prop := (ops[i]?).map (fun o => (o.guard, o.dst, o.op)) = some (gd, d, op)
theorem isOpG.oper {ops : Array Oper} {i : Nat} {gd : Option (Nat × Bool)} {d : Option Tmp} {op : Op} (h : isOpG ops i gd d op) : ∃ o, ops[i]? = some o ∧ o.guard = gd ∧ o.dst = d ∧ o.op = op := by
  unfold isOpG at h
  rw [Option.map_eq_some_iff] at h
  obtain ⟨o, h1, h2⟩ := h
  injection h2 with h3 h4
  injection h4 with h4 h5
  exact ⟨o, h1, h3, h4, h5⟩
def flagAt (c : Con) : Nat → Bool
  | 0 => c.ns | 1 => c.nc | 2 => c.pr | 3 => c.pu | 4 => c.mu | 5 => c.px | _ => c.oc
def ptr (g k : Nat) : Value := .pointer (some ⟨g, k, none⟩)
def flagV (gx gy : Nat) (cx cy : Con) (k : Nat) : Nat → Value
  | 0 => ptr gx k
  | 1 => .bool (flagAt cx k)
  | 2 => .bool (flagAt cx k)
  | 3 => if flagAt cx k then undef else ptr gy k
  | 4 => if flagAt cx k then undef else .bool (flagAt cy k)
  | _ => .bool (flagAt cx k || flagAt cy k)
def numW (gx gy : Nat) (cx cy : Con) (k : Nat) : Nat → Value
  | 0 => ptr gx k
  | 1 => .int .i64 (numAt cx k)
  | 2 => ptr gy k
  | 3 => .int .i64 (numAt cy k)
  | _ => .int .i64 (less (numAt cx k) (numAt cy k))
/-- What each operation leaves. -/
def valJ (gx gy : Nat) (cx cy : Con) (i : Nat) : Value :=
  if i < 42 then flagV gx gy cx cy (i / 6) (i % 6) else if i < 72 then numW gx gy cx cy (7 + (i - 42) / 5) ((i - 42) % 5) else .agg (cells (both cx cy))
theorem valJ_flag (gx gy : Nat) (cx cy : Con) (k r : Nat) (hk : k < 7) (hr : r < 6) : valJ gx gy cx cy (6 * k + r) = flagV gx gy cx cy k r := by
  unfold valJ
  rw [if_pos (by omega), show (6 * k + r) / 6 = k by omega, show (6 * k + r) % 6 = r by omega]
theorem valJ_num (gx gy : Nat) (cx cy : Con) (k r : Nat) (hk : k < 6) (hr : r < 5) : valJ gx gy cx cy (42 + 5 * k + r) = numW gx gy cx cy (k + 7) r := by
  unfold valJ
  rw [if_neg (by omega), if_pos (by omega), show 7 + (42 + 5 * k + r - 42) / 5 = k + 7 by omega, show (42 + 5 * k + r - 42) % 5 = r by omega]
/-- The region's operations. -/
structure ShapeJ (ops : Array Oper) : Prop where
  size : ops.size = 75
  fwd : (List.range 75).all (fun i => ((ops[i]?).map fun o => o.after.all fun e => decide (e.on < i)).getD true) = true
  a0 : ∀ k, k < 7 → isOpG ops (6 * k) none (some (70 + 6 * k)) (Op.fieldAddr 26 (Operand.tmp 7) k)
  a1 : ∀ k, k < 7 → isOpG ops (6 * k + 1) none (some (71 + 6 * k)) (Op.load 4 (Operand.tmp (70 + 6 * k)))
  a1w : ∀ k, k < 7 → waits ops (6 * k + 1) (6 * k)
  a2 : ∀ k, k < 7 → isOpG ops (6 * k + 2) none (some (72 + 6 * k)) (Op.move (Operand.tmp (71 + 6 * k)))
  a2w : ∀ k, k < 7 → waits ops (6 * k + 2) (6 * k + 1)
  a3 : ∀ k, k < 7 → isOpG ops (6 * k + 3) (some (6 * k + 2, false)) (some (73 + 6 * k)) (Op.fieldAddr 26 (Operand.tmp 9) k)
  a3w : ∀ k, k < 7 → waits ops (6 * k + 3) (6 * k + 2)
  a4 : ∀ k, k < 7 → isOpG ops (6 * k + 4) (some (6 * k + 2, false)) (some (74 + 6 * k)) (Op.load 4 (Operand.tmp (73 + 6 * k)))
  a4w : ∀ k, k < 7 → waits ops (6 * k + 4) (6 * k + 2)
  a4v : ∀ k, k < 7 → waits ops (6 * k + 4) (6 * k + 3)
  a5 : ∀ k, k < 7 → isOpG ops (6 * k + 5) none (some (75 + 6 * k)) (Op.pick (Operand.tmp (72 + 6 * k)) (Operand.const (.bool true)) (Operand.tmp (74 + 6 * k)))
  a5w : ∀ k, k < 7 → waits ops (6 * k + 5) (6 * k + 2)
  a5v : ∀ k, k < 7 → waits ops (6 * k + 5) (6 * k + 4)
  b0 : ∀ k, k < 6 → isOpG ops (42 + 5 * k) none (some (112 + 5 * k)) (Op.fieldAddr 26 (Operand.tmp 7) (k + 7))
  b1 : ∀ k, k < 6 → isOpG ops (42 + 5 * k + 1) none (some (113 + 5 * k)) (Op.load 3 (Operand.tmp (112 + 5 * k)))
  b1w : ∀ k, k < 6 → waits ops (42 + 5 * k + 1) (42 + 5 * k)
  b2 : ∀ k, k < 6 → isOpG ops (42 + 5 * k + 2) none (some (114 + 5 * k)) (Op.fieldAddr 26 (Operand.tmp 9) (k + 7))
  b3 : ∀ k, k < 6 → isOpG ops (42 + 5 * k + 3) none (some (115 + 5 * k)) (Op.load 3 (Operand.tmp (114 + 5 * k)))
  b3w : ∀ k, k < 6 → waits ops (42 + 5 * k + 3) (42 + 5 * k + 2)
  b4 : ∀ k, k < 6 → isOpG ops (42 + 5 * k + 4) none (some (116 + 5 * k)) (Op.call { callee := Callee.value (Operand.func 10), args := #[Operand.tmp (113 + 5 * k), Operand.tmp (115 + 5 * k)], argTypes := #[3, 3] })
  b4w : ∀ k, k < 6 → waits ops (42 + 5 * k + 4) (42 + 5 * k + 1)
  b4v : ∀ k, k < 6 → waits ops (42 + 5 * k + 4) (42 + 5 * k + 3)
  c : isOpG ops 72 none (some 142) (Op.build 26 #[(0, Operand.tmp 75), (1, Operand.tmp 81), (2, Operand.tmp 87), (3, Operand.tmp 93), (4, Operand.tmp 99), (5, Operand.tmp 105), (6, Operand.tmp 111), (7, Operand.tmp 116), (8, Operand.tmp 121), (9, Operand.tmp 126), (10, Operand.tmp 131), (11, Operand.tmp 136), (12, Operand.tmp 141)])
  cw : ∀ k, k < 7 → waits ops 72 (6 * k + 5)
  cv : ∀ k, k < 6 → waits ops 72 (42 + 5 * k + 4)
  al : isOpG ops 73 none (some 15) (Op.alloc 26)
  st : isOpG ops 74 none none (Op.store 26 (Operand.tmp 15) (Operand.tmp 142))
  stw : waits ops 74 72
  stv : waits ops 74 73
theorem ShapeJ.fwd' {ops : Array Oper} (h : ShapeJ ops) (i : Nat) (o : Oper) (ho : ops[i]? = some o) : ∀ e ∈ o.after, e.on < i := by
  have hi : i < 75 := by have := (Array.getElem?_eq_some_iff.1 ho).1; rw [h.size] at this; exact this
  have h1 := List.all_eq_true.1 h.fwd i (List.mem_range.2 hi)
  rw [ho] at h1
  intro e he
  exact of_decide_eq_true (Array.all_eq_true_iff_forall_mem.1 h1 e he)
/-- The world, by what has come up. -/
def worldJ (w0 : World) (v : Array Value) : Bool → Bool → World
  | _, true => w0.alloc (.cells v 26)
  | true, false => w0.alloc (.cells blank13 26)
  | false, false => w0
/-- What holds whatever has come up. -/
structure InvJ (w0 : World) (gx gy : Nat) (cx cy : Con) (a0 : Array Value) (f : Nat) (listed : Array Bool) (a : Act) (w : World) : Prop where
  lsz : listed.size = 75
  tsz : a.tmps.size = 157
  dfr : a.defers = []
  low : ∀ t, t < 15 → a.tmps.getD t undef = a0.getD t undef
  val : ∀ i, i < 73 → listed.getD i false = true → a.tmps.getD (70 + i) undef = valJ gx gy cx cy i
  al : listed.getD 73 false = true → a.tmps.getD 15 undef = ptr w0.heap.size 0
  o74 : listed.getD 74 false = true → listed.getD 73 false = true
  wd : w = worldJ w0 (cells (both cx cy)) (listed.getD 73 false) (listed.getD 74 false)
theorem worldJ_con {w0 : World} {g : Nat} {c : Con} (h : ConAt w0 g c) (v : Array Value) (p q : Bool) : ConAt (worldJ w0 v p q) g c := by
  unfold worldJ
  split
  · exact (old_block _ _ (block_lt h)).trans h
  · exact (old_block _ _ (block_lt h)).trans h
  · exact h
theorem InvJ.name {w0 w : World} {gx gy f : Nat} {cx cy : Con} {a0 : Array Value} {listed : Array Bool} {a : Act} (h : InvJ w0 gx gy cx cy a0 (f + 1) listed a w) (i : Nat) (hi : i < 73) :
    InvJ w0 gx gy cx cy a0 f (listed.setIfInBounds i true) (a.put (some (70 + i)) (valJ gx gy cx cy i)) w := by
  refine ⟨by rw [Array.size_setIfInBounds]; exact h.lsz, by rw [put_size]; exact h.tsz, h.dfr, fun t ht => by rw [put_other _ _ (by omega)]; exact h.low t ht, ?_, ?_, ?_, ?_⟩
  · intro j hj hl
    by_cases e : j = i
    · subst e; rw [put_same _ _ _ (by rw [h.tsz]; omega)]
    · rw [put_other _ _ (by omega)]; exact h.val j hj (set_old hl (by omega))
  · intro hl; rw [put_other _ _ (by omega)]; exact h.al (set_old hl (by omega))
  · intro hl; exact getD_set_true (h.o74 (set_old hl (by omega)))
  · rw [getD_set_ne false (by omega), getD_set_ne false (by omega)]; exact h.wd
theorem InvJ.make {w0 w : World} {gx gy f : Nat} {cx cy : Con} {a0 : Array Value} {listed : Array Bool} {a : Act} (h : InvJ w0 gx gy cx cy a0 (f + 1) listed a w) (hn : listed.getD 73 false = false) :
    w = w0 ∧ InvJ w0 gx gy cx cy a0 f (listed.setIfInBounds 73 true) (a.put (some 15) (ptr w0.heap.size 0)) (w0.alloc (.cells blank13 26)) := by
  have h74 : listed.getD 74 false = false := by
    cases h4 : listed.getD 74 false with
    | false => rfl
    | true => rw [h.o74 h4] at hn; cases hn
  have hwd := h.wd
  rw [hn, h74] at hwd
  refine ⟨hwd, by rw [Array.size_setIfInBounds]; exact h.lsz, by rw [put_size]; exact h.tsz, h.dfr, fun t ht => by rw [put_other _ _ (by omega)]; exact h.low t ht, ?_, ?_, ?_, ?_⟩
  · intro j hj hl; rw [put_other _ _ (by omega)]; exact h.val j hj (set_old hl (by omega))
  · intro _; rw [put_same _ _ _ (by rw [h.tsz]; omega)]
  · intro hl; rw [set_old hl (by omega)] at h74; cases h74
  · have e1 : (listed.setIfInBounds 73 true).getD 73 false = true := by have := h.lsz; simp [this]
    have e2 : (listed.setIfInBounds 73 true).getD 74 false = false := by rw [getD_set_ne false (by omega)]; exact h74
    rw [e1, e2]; rfl
theorem InvJ.store {w0 w : World} {gx gy f : Nat} {cx cy : Con} {a0 : Array Value} {listed : Array Bool} {a : Act} (h : InvJ w0 gx gy cx cy a0 (f + 1) listed a w) (hn : listed.getD 74 false = false) (h3 : listed.getD 73 false = true) (h2 : listed.getD 72 false = true) :
    w = w0.alloc (.cells blank13 26) ∧ a.tmps.getD 15 undef = ptr w0.heap.size 0 ∧ a.tmps.getD 142 undef = .agg (cells (both cx cy)) ∧ InvJ w0 gx gy cx cy a0 f (listed.setIfInBounds 74 true) (a.put none undef) (w0.alloc (.cells (cells (both cx cy)) 26)) := by
  have hwd := h.wd
  rw [hn, h3] at hwd
  refine ⟨hwd, h.al h3, h.val 72 (by omega) h2, by rw [Array.size_setIfInBounds]; exact h.lsz, h.tsz, h.dfr, h.low, ?_, ?_, ?_, ?_⟩
  · intro j hj hl; exact h.val j hj (set_old hl (by omega))
  · intro _; exact h.al h3
  · intro _; exact getD_set_true h3
  · have e1 : (listed.setIfInBounds 74 true).getD 74 false = true := by have := h.lsz; simp [this]
    rw [e1]; unfold worldJ; rfl
theorem enters_less (x y : Value) (w : World) : (callFunc 10 #[x, y]).run Tryd.prog w = .ok (.enter 10 #[x, y]) w := by kernel_rfl
theorem load_bool {w : World} {g k : Nat} {b : Bool} (h : w.cell? ⟨g, k, none⟩ = some (.bool b)) : (Instr.loadAt 4 (ptr g k)).run Tryd.prog w = .ok (.bool b) w := by
  unfold ptr
  go_simp
theorem load_int {w : World} {g k : Nat} {n : Int} (h : w.cell? ⟨g, k, none⟩ = some (.int .i64 n)) : (Instr.loadAt 3 (ptr g k)).run Tryd.prog w = .ok (.int .i64 n) w := by
  unfold ptr
  go_simp
theorem flag_cell {w : World} {g : Nat} {c : Con} (h : ConAt w g c) (k : Nat) (hk : k < 7) : w.cell? ⟨g, k, none⟩ = some (.bool (flagAt c k)) := by
  rw [conAt_cell h]
  rcases (by omega : k = 0 ∨ k = 1 ∨ k = 2 ∨ k = 3 ∨ k = 4 ∨ k = 5 ∨ k = 6) with rfl | rfl | rfl | rfl | rfl | rfl | rfl <;> rfl
theorem num_cell {w : World} {g : Nat} {c : Con} (h : ConAt w g c) (k : Nat) (hk : k < 6) : w.cell? ⟨g, k + 7, none⟩ = some (.int .i64 (numAt c (k + 7))) := by
  rw [conAt_cell h]
  rcases (by omega : k = 0 ∨ k = 1 ∨ k = 2 ∨ k = 3 ∨ k = 4 ∨ k = 5) with rfl | rfl | rfl | rfl | rfl | rfl <;> rfl
theorem build13 (w : World) (b0 b1 b2 b3 b4 b5 b6 : Bool) (n0 n1 n2 n3 n4 n5 : Int) :
    (Instr.build 26 #[(0, .bool b0), (1, .bool b1), (2, .bool b2), (3, .bool b3), (4, .bool b4), (5, .bool b5), (6, .bool b6), (7, .int .i64 n0), (8, .int .i64 n1), (9, .int .i64 n2), (10, .int .i64 n3), (11, .int .i64 n4), (12, .int .i64 n5)]).run Tryd.prog w =
      .ok (.agg #[.bool b0, .bool b1, .bool b2, .bool b3, .bool b4, .bool b5, .bool b6, .int .i64 n0, .int .i64 n1, .int .i64 n2, .int .i64 n3, .int .i64 n4, .int .i64 n5]) w := by kernel_rfl
theorem alloc13 (w : World) : (Instr.alloc 26 true (.tuple #[])).run Tryd.prog w = .ok (ptr w.heap.size 0) (w.alloc (.cells blank13 26)) := by
  unfold ptr blank13
  go_simp
theorem field_of (g : Nat) (w : World) (k : Nat) (hk : k < 13) : (Instr.fieldAt 26 (ptr g 0) k).run Tryd.prog w = .ok (ptr g k) w := field_at g w k hk
theorem yield_of {ops : Array Oper} {a : Act} {i d : Nat} {gd : Option (Nat × Bool)} {op : Op} {b : Bool} (h : isOpG ops i gd (some d) op) (hd : d < a.tmps.size) (hv : a.tmps.getD d undef = .bool b) : yielded ops a.tmps i = some b := by
  obtain ⟨o, h1, _, h3, _⟩ := h.oper
  unfold yielded
  have e : a.tmps[d]? = some (.bool b) := by
    rw [Array.getElem?_eq_getElem hd]
    simpa [hd] using hv
  rw [h1]
  simp only [Option.bind_some, h3]
  rw [e]
theorem op_guarded {P : Program} {ops : Array Oper} {Q : Exit → Act → World → Prop} {i g : Nat} {o : Oper} {a : Act} {w : World} {v : Value} {b : Bool} {K : Act → World → Prop} (hi : ops[i]? = some o) (hg : o.guard = some (g, false)) (hy : yielded ops a.tmps g = some b)
    (hrun : b = false → (execOp a.eval o).run P w = .ok (.value v) w) (hK : K (a.put o.dst (if b then undef else v)) w) : wpOp P ops Q i K a w := by
  unfold wpOp
  simp only [hi, Region.wanted, hg, hy]
  cases b with
  | true => simpa using hK
  | false =>
    refine .inl ?_
    unfold Oper.wp
    rw [hrun rfl]
    exact hK
theorem InvJ.step {w0 w : World} {gx gy f i : Nat} {cx cy : Con} {a0 : Array Value} {ops : Array Oper} {Q : Exit → Act → World → Prop} {listed : Array Bool} {a : Act} (hS : ShapeJ ops) (hx : ConAt w0 gx cx) (hy : ConAt w0 gy cy) (h7 : a0.getD 7 undef = ptr gx 0) (h9 : a0.getD 9 undef = ptr gy 0)
    (h : InvJ w0 gx gy cx cy a0 (f + 1) listed a w) (hr : i ∈ Region.ready .any ops listed) :
    wpOp Tryd.prog ops Q i (fun a' w' => InvJ w0 gx gy cx cy a0 f (listed.setIfInBounds i true) a' w') a w := by
  have hi : i < 75 := by
    obtain ⟨_, o, ho, _⟩ := mem_ready.1 hr
    have := (Array.getElem?_eq_some_iff.1 ho).1
    rw [hS.size] at this; exact this
  have hnew := ready_new hr
  have hcx : ConAt w gx cx := by rw [h.wd]; exact worldJ_con hx _ _ _
  have hcy : ConAt w gy cy := by rw [h.wd]; exact worldJ_con hy _ _ _
  have t7 : a.tmps.getD 7 undef = ptr gx 0 := (h.low 7 (by omega)).trans h7
  have t9 : a.tmps.getD 9 undef = ptr gy 0 := (h.low 9 (by omega)).trans h9
  have hex : i = 72 ∨ i = 73 ∨ i = 74 ∨ (∃ k r, k < 7 ∧ r < 6 ∧ i = 6 * k + r) ∨ ∃ k r, k < 6 ∧ r < 5 ∧ i = 42 + 5 * k + r := by
    by_cases e0 : i = 72
    · exact .inl e0
    · by_cases e1 : i = 73
      · exact .inr (.inl e1)
      · by_cases e2 : i = 74
        · exact .inr (.inr (.inl e2))
        · by_cases e3 : i < 42
          · exact .inr (.inr (.inr (.inl ⟨i / 6, i % 6, by omega, by omega, by omega⟩)))
          · exact .inr (.inr (.inr (.inr ⟨(i - 42) / 5, (i - 42) % 5, by omega, by omega, by omega⟩)))
  rcases hex with rfl | rfl | rfl | ⟨k, r, hk, hr6, rfl⟩ | ⟨k, r, hk, hr5, rfl⟩
  · have hf : ∀ k, k < 7 → a.tmps.getD (75 + 6 * k) undef = .bool (flagAt cx k || flagAt cy k) := fun k hk => by
      have e := h.val (6 * k + 5) (by omega) ((hS.cw k hk).listed hr)
      rw [valJ_flag _ _ _ _ _ _ hk (by omega), show 70 + (6 * k + 5) = 75 + 6 * k by omega] at e
      exact e
    have hn : ∀ k, k < 6 → a.tmps.getD (116 + 5 * k) undef = .int .i64 (less (numAt cx (k + 7)) (numAt cy (k + 7))) := fun k hk => by
      have e := h.val (42 + 5 * k + 4) (by omega) ((hS.cv k hk).listed hr)
      rw [valJ_num _ _ _ _ _ _ hk (by omega), show 70 + (42 + 5 * k + 4) = 116 + 5 * k by omega] at e
      exact e
    obtain ⟨o, ho, hg, hd, hop⟩ := hS.c.oper
    refine op_value ho hg (v := .agg (cells (both cx cy))) (w' := w) ?_ ?_
    · unfold execOp
      rw [hop]
      have f0 := hf 0 (by omega)
      have f1 := hf 1 (by omega)
      have f2 := hf 2 (by omega)
      have f3 := hf 3 (by omega)
      have f4 := hf 4 (by omega)
      have f5 := hf 5 (by omega)
      have f6 := hf 6 (by omega)
      have n0 := hn 0 (by omega)
      have n1 := hn 1 (by omega)
      have n2 := hn 2 (by omega)
      have n3 := hn 3 (by omega)
      have n4 := hn 4 (by omega)
      have n5 := hn 5 (by omega)
      simp only [Nat.mul_zero, Nat.add_zero, Nat.reduceMul, Nat.reduceAdd] at f0 f1 f2 f3 f4 f5 f6 n0 n1 n2 n3 n4 n5
      simp only [List.map_toArray, List.map_cons, List.map_nil, Act.eval, f0, f1, f2, f3, f4, f5, f6, n0, n1, n2, n3, n4, n5]
      rw [Sem.run_bind, build13]
      rfl
    · rw [hd]
      have e := h.name 72 (by omega)
      exact e
  · obtain ⟨e, hI⟩ := h.make hnew
    subst e
    obtain ⟨o, ho, hg, hd, hop⟩ := hS.al.oper
    refine op_value ho hg (v := ptr w.heap.size 0) (w' := w.alloc (.cells blank13 26)) ?_ ?_
    · unfold execOp
      rw [hop]
      simp only
      rw [Sem.run_bind, alloc13]
      rfl
    · rw [hd]; exact hI
  · obtain ⟨e, h15, h142, hI⟩ := h.store hnew ((hS.stv).listed hr) ((hS.stw).listed hr)
    subst e
    obtain ⟨o, ho, hg, hd, hop⟩ := hS.st.oper
    refine op_skip ho hg (w' := w0.alloc (.cells (cells (both cx cy)) 26)) ?_ ?_
    · unfold execOp
      rw [hop]
      simp only [Act.eval, h15, h142]
      rw [Sem.run_bind]
      have hrun := run_storeAt_new (P := Tryd.prog) w0 26 blank13 (cells (both cx cy)) infoCon rfl (by simp [cells, Value.oneCell'])
      unfold ptr
      rw [hrun]
      rfl
    · rw [hd]; exact hI
  · have hput := h.name (6 * k + r) (by omega)
    rw [valJ_flag _ _ _ _ _ _ hk hr6] at hput
    rcases (by omega : r = 0 ∨ r = 1 ∨ r = 2 ∨ r = 3 ∨ r = 4 ∨ r = 5) with rfl | rfl | rfl | rfl | rfl | rfl
    · obtain ⟨o, ho, hg, hd, hop⟩ := (hS.a0 k hk).oper
      refine op_value ho hg (v := ptr gx k) (w' := w) ?_ ?_
      · unfold execOp
        rw [hop]
        simp only [Act.eval, t7]
        rw [Sem.run_bind, field_of gx w k (by omega)]
        rfl
      · rw [hd]; exact hput
    · have e1 := h.val (6 * k) (by omega) ((hS.a1w k hk).listed hr)
      rw [show 6 * k = 6 * k + 0 by omega, valJ_flag _ _ _ _ _ _ hk (by omega)] at e1
      have e2 : a.tmps.getD (70 + 6 * k) undef = ptr gx k := e1
      obtain ⟨o, ho, hg, hd, hop⟩ := (hS.a1 k hk).oper
      refine op_value ho hg (v := .bool (flagAt cx k)) (w' := w) ?_ ?_
      · unfold execOp
        rw [hop]
        simp only [Act.eval, e2]
        rw [Sem.run_bind, load_bool (flag_cell hcx k hk)]
        rfl
      · rw [hd, show 71 + 6 * k = 70 + (6 * k + 1) by omega]; exact hput
    · have e1 := h.val (6 * k + 1) (by omega) ((hS.a2w k hk).listed hr)
      rw [valJ_flag _ _ _ _ _ _ hk (by omega), show 70 + (6 * k + 1) = 71 + 6 * k by omega] at e1
      obtain ⟨o, ho, hg, hd, hop⟩ := (hS.a2 k hk).oper
      refine op_value ho hg (v := .bool (flagAt cx k)) (w' := w) ?_ ?_
      · unfold execOp
        rw [hop]
        simp only [Act.eval, e1]
        rfl
      · rw [hd, show 72 + 6 * k = 70 + (6 * k + 2) by omega]; exact hput
    · have e1 := h.val (6 * k + 2) (by omega) ((hS.a3w k hk).listed hr)
      rw [valJ_flag _ _ _ _ _ _ hk (by omega), show 70 + (6 * k + 2) = 72 + 6 * k by omega] at e1
      have hyl := yield_of (hS.a2 k hk) (by rw [h.tsz]; omega) e1
      obtain ⟨o, ho, hg, hd, hop⟩ := (hS.a3 k hk).oper
      refine op_guarded ho hg hyl (v := ptr gy k) (fun _ => ?_) ?_
      · unfold execOp
        rw [hop]
        simp only [Act.eval, t9]
        rw [Sem.run_bind, field_of gy w k (by omega)]
        rfl
      · rw [hd, show 73 + 6 * k = 70 + (6 * k + 3) by omega]; exact hput
    · have e1 := h.val (6 * k + 2) (by omega) ((hS.a4w k hk).listed hr)
      rw [valJ_flag _ _ _ _ _ _ hk (by omega), show 70 + (6 * k + 2) = 72 + 6 * k by omega] at e1
      have e2 := h.val (6 * k + 3) (by omega) ((hS.a4v k hk).listed hr)
      rw [valJ_flag _ _ _ _ _ _ hk (by omega), show 70 + (6 * k + 3) = 73 + 6 * k by omega] at e2
      have hyl := yield_of (hS.a2 k hk) (by rw [h.tsz]; omega) e1
      obtain ⟨o, ho, hg, hd, hop⟩ := (hS.a4 k hk).oper
      refine op_guarded ho hg hyl (v := .bool (flagAt cy k)) (fun hb => ?_) ?_
      · have e3 : a.tmps.getD (73 + 6 * k) undef = ptr gy k := by rw [e2]; show (if flagAt cx k then undef else ptr gy k) = _; rw [hb]; rfl
        unfold execOp
        rw [hop]
        simp only [Act.eval, e3]
        rw [Sem.run_bind, load_bool (flag_cell hcy k hk)]
        rfl
      · rw [hd, show 74 + 6 * k = 70 + (6 * k + 4) by omega]; exact hput
    · have e1 := h.val (6 * k + 2) (by omega) ((hS.a5w k hk).listed hr)
      rw [valJ_flag _ _ _ _ _ _ hk (by omega), show 70 + (6 * k + 2) = 72 + 6 * k by omega] at e1
      have e2 := h.val (6 * k + 4) (by omega) ((hS.a5v k hk).listed hr)
      rw [valJ_flag _ _ _ _ _ _ hk (by omega), show 70 + (6 * k + 4) = 74 + 6 * k by omega] at e2
      have e1' : a.tmps.getD (72 + 6 * k) undef = .bool (flagAt cx k) := e1
      have e2' : a.tmps.getD (74 + 6 * k) undef = if flagAt cx k then undef else .bool (flagAt cy k) := e2
      obtain ⟨o, ho, hg, hd, hop⟩ := (hS.a5 k hk).oper
      refine op_value ho hg (v := .bool (flagAt cx k || flagAt cy k)) (w' := w) ?_ ?_
      · unfold execOp
        rw [hop]
        simp only [Act.eval, e1', e2']
        cases flagAt cx k <;> rfl
      · rw [hd, show 75 + 6 * k = 70 + (6 * k + 5) by omega]; exact hput
  · have hput := h.name (42 + 5 * k + r) (by omega)
    rw [valJ_num _ _ _ _ _ _ hk hr5] at hput
    rcases (by omega : r = 0 ∨ r = 1 ∨ r = 2 ∨ r = 3 ∨ r = 4) with rfl | rfl | rfl | rfl | rfl
    · obtain ⟨o, ho, hg, hd, hop⟩ := (hS.b0 k hk).oper
      refine op_value ho hg (v := ptr gx (k + 7)) (w' := w) ?_ ?_
      · unfold execOp
        rw [hop]
        simp only [Act.eval, t7]
        rw [Sem.run_bind, field_of gx w (k + 7) (by omega)]
        rfl
      · rw [hd, show 112 + 5 * k = 70 + (42 + 5 * k + 0) by omega]; exact hput
    · have e1 := h.val (42 + 5 * k + 0) (by omega) ((hS.b1w k hk).listed hr)
      rw [valJ_num _ _ _ _ _ _ hk (by omega), show 70 + (42 + 5 * k + 0) = 112 + 5 * k by omega] at e1
      have e2 : a.tmps.getD (112 + 5 * k) undef = ptr gx (k + 7) := e1
      obtain ⟨o, ho, hg, hd, hop⟩ := (hS.b1 k hk).oper
      refine op_value ho hg (v := .int .i64 (numAt cx (k + 7))) (w' := w) ?_ ?_
      · unfold execOp
        rw [hop]
        simp only [Act.eval, e2]
        rw [Sem.run_bind, load_int (num_cell hcx k hk)]
        rfl
      · rw [hd, show 113 + 5 * k = 70 + (42 + 5 * k + 1) by omega]; exact hput
    · obtain ⟨o, ho, hg, hd, hop⟩ := (hS.b2 k hk).oper
      refine op_value ho hg (v := ptr gy (k + 7)) (w' := w) ?_ ?_
      · unfold execOp
        rw [hop]
        simp only [Act.eval, t9]
        rw [Sem.run_bind, field_of gy w (k + 7) (by omega)]
        rfl
      · rw [hd, show 114 + 5 * k = 70 + (42 + 5 * k + 2) by omega]; exact hput
    · have e1 := h.val (42 + 5 * k + 2) (by omega) ((hS.b3w k hk).listed hr)
      rw [valJ_num _ _ _ _ _ _ hk (by omega), show 70 + (42 + 5 * k + 2) = 114 + 5 * k by omega] at e1
      have e2 : a.tmps.getD (114 + 5 * k) undef = ptr gy (k + 7) := e1
      obtain ⟨o, ho, hg, hd, hop⟩ := (hS.b3 k hk).oper
      refine op_value ho hg (v := .int .i64 (numAt cy (k + 7))) (w' := w) ?_ ?_
      · unfold execOp
        rw [hop]
        simp only [Act.eval, e2]
        rw [Sem.run_bind, load_int (num_cell hcy k hk)]
        rfl
      · rw [hd, show 115 + 5 * k = 70 + (42 + 5 * k + 3) by omega]; exact hput
    · have e1 := h.val (42 + 5 * k + 1) (by omega) ((hS.b4w k hk).listed hr)
      rw [valJ_num _ _ _ _ _ _ hk (by omega), show 70 + (42 + 5 * k + 1) = 113 + 5 * k by omega] at e1
      have e2 := h.val (42 + 5 * k + 3) (by omega) ((hS.b4v k hk).listed hr)
      rw [valJ_num _ _ _ _ _ _ hk (by omega), show 70 + (42 + 5 * k + 3) = 115 + 5 * k by omega] at e2
      have e1' : a.tmps.getD (113 + 5 * k) undef = .int .i64 (numAt cx (k + 7)) := e1
      have e2' : a.tmps.getD (115 + 5 * k) undef = .int .i64 (numAt cy (k + 7)) := e2
      obtain ⟨o, ho, hg, hd, hop⟩ := (hS.b4 k hk).oper
      refine op_call ho hg (f := 10) (args := #[.int .i64 (numAt cx (k + 7)), .int .i64 (numAt cy (k + 7))]) ?_ (less_any _ _ w) ?_
      · unfold execOp
        rw [hop]
        simp only [resolve, List.map_toArray, List.map_cons, List.map_nil, Act.eval, e1', e2']
        exact enters_less _ _ _
      · rintro e w' ⟨rfl, rfl⟩
        refine ⟨_, rfl, ?_⟩
        rw [hd, show 116 + 5 * k = 70 + (42 + 5 * k + 4) by omega]; exact hput
theorem tmps_eq (ts : Array Value) (n : Nat) (h : ts.size = n) : ts = ((List.range n).map fun t => ts.getD t undef).toArray := by
  apply Array.ext
  · simp [h]
  · intro i h1 h2
    simp [h1]
set_option maxRecDepth 100000 in
theorem act_lit {Q : Act → Prop} (a' : Act) (hs : a'.tmps.size = 157) (hd : a'.defers = []) (x0 x1 x2 x3 x4 x5 x6 x7 x8 x9 x10 x11 x12 x13 x14 x15 : Value) (h0 : a'.tmps.getD 0 undef = x0) (h1 : a'.tmps.getD 1 undef = x1) (h2 : a'.tmps.getD 2 undef = x2) (h3 : a'.tmps.getD 3 undef = x3) (h4 : a'.tmps.getD 4 undef = x4) (h5 : a'.tmps.getD 5 undef = x5) (h6 : a'.tmps.getD 6 undef = x6) (h7 : a'.tmps.getD 7 undef = x7) (h8 : a'.tmps.getD 8 undef = x8) (h9 : a'.tmps.getD 9 undef = x9) (h10 : a'.tmps.getD 10 undef = x10) (h11 : a'.tmps.getD 11 undef = x11) (h12 : a'.tmps.getD 12 undef = x12) (h13 : a'.tmps.getD 13 undef = x13) (h14 : a'.tmps.getD 14 undef = x14) (h15 : a'.tmps.getD 15 undef = x15)
    (h : ∀ f : Nat → Value, Q ⟨(x0 :: x1 :: x2 :: x3 :: x4 :: x5 :: x6 :: x7 :: x8 :: x9 :: x10 :: x11 :: x12 :: x13 :: x14 :: x15 :: f 16 :: f 17 :: f 18 :: f 19 :: f 20 :: f 21 :: f 22 :: f 23 :: f 24 :: f 25 :: f 26 :: f 27 :: f 28 :: f 29 :: f 30 :: f 31 :: f 32 :: f 33 :: f 34 :: f 35 :: f 36 :: f 37 :: f 38 :: f 39 :: f 40 :: f 41 :: f 42 :: f 43 :: f 44 :: f 45 :: f 46 :: f 47 :: f 48 :: f 49 :: f 50 :: f 51 :: f 52 :: f 53 :: f 54 :: f 55 :: f 56 :: f 57 :: f 58 :: f 59 :: f 60 :: f 61 :: f 62 :: f 63 :: f 64 :: f 65 :: f 66 :: f 67 :: f 68 :: f 69 :: f 70 :: f 71 :: f 72 :: f 73 :: f 74 :: f 75 :: f 76 :: f 77 :: f 78 :: f 79 :: f 80 :: f 81 :: f 82 :: f 83 :: f 84 :: f 85 :: f 86 :: f 87 :: f 88 :: f 89 :: f 90 :: f 91 :: f 92 :: f 93 :: f 94 :: f 95 :: f 96 :: f 97 :: f 98 :: f 99 :: f 100 :: f 101 :: f 102 :: f 103 :: f 104 :: f 105 :: f 106 :: f 107 :: f 108 :: f 109 :: f 110 :: f 111 :: f 112 :: f 113 :: f 114 :: f 115 :: f 116 :: f 117 :: f 118 :: f 119 :: f 120 :: f 121 :: f 122 :: f 123 :: f 124 :: f 125 :: f 126 :: f 127 :: f 128 :: f 129 :: f 130 :: f 131 :: f 132 :: f 133 :: f 134 :: f 135 :: f 136 :: f 137 :: f 138 :: f 139 :: f 140 :: f 141 :: f 142 :: f 143 :: f 144 :: f 145 :: f 146 :: f 147 :: f 148 :: f 149 :: f 150 :: f 151 :: f 152 :: f 153 :: f 154 :: f 155 :: f 156 :: []).toArray, []⟩) : Q a' := by
  obtain ⟨ts, df⟩ := a'
  have hd2 : df = [] := hd
  subst hd2
  have e := tmps_eq ts 157 hs
  have hq := h (fun t => ts.getD t undef)
  subst h0 h1 h2 h3 h4 h5 h6 h7 h8 h9 h10 h11 h12 h13 h14 h15
  rw [e]
  exact hq
theorem join_region {w0 : World} {gx gy : Nat} {cx cy : Con} {ops : Array Oper} {Q : Exit → Act → World → Prop} {a : Act} (hS : ShapeJ ops) (hx : ConAt w0 gx cx) (hy : ConAt w0 gy cy) (h7 : a.tmps.getD 7 undef = ptr gx 0) (h9 : a.tmps.getD 9 undef = ptr gy 0) (hsz : a.tmps.size = 157) (hdf : a.defers = [])
    (hQ : ∀ a', a'.tmps.size = 157 → a'.defers = [] → (∀ t, t < 15 → a'.tmps.getD t undef = a.tmps.getD t undef) → a'.tmps.getD 15 undef = ptr w0.heap.size 0 → Q .normal a' (w0.drew.alloc (.cells (cells (both cx cy)) 26))) : (Code.region 12 ops true).wp Tryd.prog Q a w0 := by
  have hnl : ∀ i, (Array.replicate 75 false).getD i false = false := fun i => by
    rcases Nat.lt_or_ge i 75 with h | h
    · simp [h]
    · simp [h]
  refine wp_region_any (by kernel_rfl) ?_
  rw [hS.size]
  have h1 := any_inv (P := Tryd.prog) (ops := ops) (Q := Q) (md := .any) (I := fun f listed a' w => InvJ w0.drew gx gy cx cy a.tmps f listed a' w)
    (fun f listed a' w i hI hr => InvJ.step hS (w0 := w0.drew) hx hy h7 h9 hI hr)
    (fun f listed a' w hI hr => by
      have h2 := all_listed hS.fwd' (by rw [hS.size]; exact hI.lsz) hr
      rw [hS.size] at h2
      have e := hI.wd
      rw [h2 73 (by omega), h2 74 (by omega)] at e
      rw [e]
      exact hQ a' hI.tsz hI.dfr hI.low (hI.al (h2 73 (by omega))))
    75 (Array.replicate 75 false) a w0.drew (by rw [hS.size]; exact all_unlisted 75)
    ⟨by simp, hsz, hdf, fun _ _ => rfl, fun i _ h => by rw [hnl] at h; (cases h), fun h => by rw [hnl] at h; (cases h), fun h => by rw [hnl] at h; (cases h), by rw [hnl, hnl]; rfl⟩
  exact h1
end Go.Proofs.YtmnnbefigepgfaaDoor.Ct
