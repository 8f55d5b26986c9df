/-
  Texts that the laws' proofs stand on, 3 of them in one file; each one's head says what it proves and under which condition.
-/
import Derived.Test.YtjbdgndejbiikaaDoorSgBP18
import Derived.Carry
import Derived.Test.YtjbdgndejbiikaaDoorRows
import Derived.Test.YtjbdgndejbiikaaDoorSgBP1
import Derived.Test.YtjbdgndejbiikaaDoorSgBP9
import Derived.WalkKit
import Derived.WalkLawsBesides
import Derived.WalkSpells
import Derived.Outline
import Derived.Lib.Hide
import Derived.Lib.Bytealg
import Derived.Lib.BufferWrite
import Derived.Lib.UnsafeStr
import Derived.Laws.CopyOwn
import Derived.Deep.QuietTactic
import Derived.BigQuiet
import Derived.Test.YtjbdgndejbiikaaDoorSgBP2
/-
  control.directives: the map that it makes, whatever order its literal's calls and stores come in. No condition but what each states.
-/
namespace Go.Proofs.YtjbdgndejbiikaaDoor.Ct
open Go.RowKit Go.Proofs.YtjbdgndejbiikaaDoor.Tk Go.Proofs.YtjbdgndejbiikaaDoor.Fd Go.Proofs.YtjbdgndejbiikaaDoor.Hd Go.Maps Go.Proofs.YtjbdgndejbiikaaDoor.Rg
set_option maxRecDepth 100000
set_option linter.unusedVariables false

def nameOf : Nat → Bs
  | 0 => nst
  | 1 => nca
  | 2 => pri
  | 3 => pub
  | 4 => mus
  | 5 => pro
  | 6 => onl
  | 7 => age
  | 8 => sma
  | 9 => swr
  | 10 => sie
  | 11 => mif
  | 12 => mst
  | _ => []
def kindOf : Nat → Kind
  | 0 => .flag 0
  | 1 => .flag 1
  | 2 => .flag 2
  | 3 => .flag 3
  | 4 => .flag 4
  | 5 => .flag 5
  | 6 => .flag 6
  | 7 => .num 7 0 0
  | 8 => .num 8 0 0
  | 9 => .num 9 (-1) (-1)
  | 10 => .num 10 (-1) (-1)
  | 11 => .num 11 (-1) (-1)
  | 12 => .num 12 2147483648 (-1)
  | _ => .flag 0
/-- What is known of each name. -/
def table : List (Bs × Kind) := (List.range 13).map fun k => (nameOf k, kindOf k)
def callOf (k : Nat) : Op := match kindOf k with
  | .flag _ => Op.call { callee := Callee.value (Operand.func 57), args := #[Operand.tmp (4 * k + 6)], argTypes := #[110] }
  | .num _ b wr => Op.call { callee := Callee.value (Operand.func 58), args := #[Operand.tmp (4 * k + 6), Operand.const (Value.int IntKind.i64 b), Operand.const (Value.int IntKind.i64 wr)], argTypes := #[112, 3, 3] }
def isOp (ops : Array Oper) (i : Nat) (d : Option Tmp) (op : Op) : Prop := (ops[i]?).map (fun o => (o.guard, o.dst, o.op)) = some (none, d, op)
def waits (ops : Array Oper) (i j : Nat) : Prop := (ops[i]?).map (fun o => o.after.any fun e => e.on == j && Region.binds .any e) = some true
theorem isOp.oper {ops : Array Oper} {i : Nat} {d : Option Tmp} {op : Op} (h : isOp ops i d op) : ∃ o, ops[i]? = some o ∧ o.guard = none ∧ o.dst = d ∧ o.op = op := by
  unfold isOp at h
  rw [Option.map_eq_some_iff] at h
  obtain ⟨o, h1, h2⟩ := h
  injection h2 with h3 h4
  injection h4 with h4 h5
  exact ⟨o, h1, h3, h4, h5⟩
theorem waits.listed {ops : Array Oper} {i j : Nat} {listed : Array Bool} (h : waits ops i j) (hr : i ∈ Region.ready .any ops listed) : listed.getD j false = true := by
  unfold waits at h
  rw [Option.map_eq_some_iff] at h
  obtain ⟨o, h1, h2⟩ := h
  obtain ⟨_, o', h3, h4⟩ := mem_ready.1 hr
  rw [h1] at h3
  injection h3 with h3
  subst h3
  obtain ⟨e, he, hb⟩ := Array.any_eq_true'.1 h2
  rw [Bool.and_eq_true, beq_iff_eq] at hb
  rw [← hb.1]
  exact h4 e he hb.2
theorem ready_new {ops : Array Oper} {i : Nat} {listed : Array Bool} (hr : i ∈ Region.ready .any ops listed) : listed.getD i false = false := by
  have h0 := (mem_ready.1 hr).1
  rcases Nat.lt_or_ge i listed.size with h' | h'
  · simp [h'] at h0 ⊢; exact h0
  · simp [Array.getElem?_eq_none h'] at h0
/-- The literal's operations: for each name its pointer, its call, its store. -/
structure Shape (ops : Array Oper) : Prop where
  size : ops.size = 68
  fwd : (List.range 68).all (fun i => ((ops[i]?).map fun o => o.after.all fun e => decide (e.on < i)).getD true) = true
  made : isOp ops 0 (some 3) (Op.makeMap 86 none)
  mv : ∀ k, k < 13 → isOp ops (5 * k + 1) (some (4 * k + 4)) (Op.move (Operand.tmp 0))
  nc : ∀ k, k < 13 → isOp ops (5 * k + 2) (some (4 * k + 5)) (Op.nilCheck (Operand.tmp (4 * k + 4)))
  ncw : ∀ k, k < 13 → waits ops (5 * k + 2) (5 * k + 1)
  fa : ∀ k, k < 13 → isOp ops (5 * k + 3) (some (4 * k + 6)) (Op.fieldAddr 33 (Operand.tmp (4 * k + 5)) k)
  faw : ∀ k, k < 13 → waits ops (5 * k + 3) (5 * k + 2)
  cl : ∀ k, k < 13 → isOp ops (5 * k + 4) (some (4 * k + 7)) (callOf k)
  clw : ∀ k, k < 13 → waits ops (5 * k + 4) (5 * k + 3)
  ins : ∀ k, k < 13 → isOp ops (5 * k + 5) none (Op.insert 86 (Operand.tmp 3) (Operand.const (.string ⟨(nameOf k).toArray⟩)) (Operand.tmp (4 * k + 7)))
  insw : ∀ k, k < 13 → waits ops (5 * k + 5) (5 * k + 4)
  ins0 : ∀ k, k < 13 → waits ops (5 * k + 5) 0
  m66 : isOp ops 66 (some 56) (Op.move (Operand.tmp 3))
  w66 : waits ops 66 0
  a67 : isOp ops 67 (some 2) (Op.assign (Operand.tmp 56))
  w67 : waits ops 67 66
theorem Shape.fwd' {ops : Array Oper} (h : Shape ops) (i : Nat) (o : Oper) (ho : ops[i]? = some o) : ∀ e ∈ o.after, e.on < i := by
  have hi : i < 68 := by have := (Array.getElem?_eq_some_iff.1 ho).1; rw [h.size] at this; exact this
  have h1 := List.all_eq_true.1 h.fwd i (List.mem_range.2 hi)
  rw [ho] at h1
  intro e he
  exact of_decide_eq_true (Array.all_eq_true_iff_forall_mem.1 h1 e he)
/-- What the r-th of a name's temporaries holds. -/
def Val (w : World) (g k : Nat) : Nat → Value → Prop
  | 0, v => v = .pointer (some ⟨g, 0, none⟩)
  | 1, v => v = .pointer (some ⟨g, 0, none⟩)
  | 2, v => v = .pointer (some ⟨g, k, none⟩)
  | _, v => DirOf w g (kindOf k) v
theorem Val.kept {w w' : World} {g k r : Nat} {v : Value} (h : Val w g k r v) (hb : ∀ b cs t fr, g < b → w.heap[b]? = some (.cells cs t fr) → w'.heap[b]? = w.heap[b]?) : Val w' g k r v := by
  match r, h with
  | 0, h => exact h
  | 1, h => exact h
  | 2, h => exact h
  | r + 3, h => exact DirOf.kept h hb
/-- What holds whatever has come up. -/
structure Inv (w0 : World) (g f : Nat) (listed : Array Bool) (a : Act) (w : World) : Prop where
  lsz : listed.size = 68
  tsz : a.tmps.size = 57
  dfr : a.defers = []
  t0 : a.tmps.getD 0 undef = .pointer (some ⟨g, 0, none⟩)
  bel : Below w0.heap.size w0 w
  val : ∀ k r, k < 13 → r < 4 → listed.getD (5 * k + 1 + r) false = true → Val w g k r (a.tmps.getD (4 * k + 4 + r) undef)
  ord : ∀ k, k < 13 → listed.getD (5 * k + 5) false = true → listed.getD 0 false = true
  o66 : listed.getD 66 false = true → listed.getD 0 false = true
  m66 : listed.getD 66 false = true → a.tmps.getD 56 undef = a.tmps.getD 3 undef
  m67 : listed.getD 67 false = true → a.tmps.getD 2 undef = a.tmps.getD 56 undef
  o67 : listed.getD 67 false = true → listed.getD 66 false = true
  mp : listed.getD 0 false = true → ∃ M D n, a.tmps.getD 3 undef = .map (some M) ∧ w0.heap.size ≤ M ∧ w.ownsMap Tryd.prog 9 heldE M n D ∧ n + f ≤ 68 ∧
    (∀ k, k < 13 → listed.getD (5 * k + 5) false = true → Has w g D (nameOf k) (some (kindOf k))) ∧ ∀ nm, (∀ k, k < 13 → nm ≠ nameOf k) → Has w g D nm none
theorem nameOf_inj : ∀ k j, k < 13 → j < 13 → nameOf k = nameOf j → k = j := by
  have h : (List.range 13).all (fun k => (List.range 13).all fun j => k == j || nameOf k != nameOf j) = true := by decide +kernel
  intro k j hk hj e
  have h1 := List.all_eq_true.1 (List.all_eq_true.1 h k (List.mem_range.2 hk)) j (List.mem_range.2 hj)
  rw [Bool.or_eq_true, beq_iff_eq] at h1
  rcases h1 with h1 | h1
  · exact h1
  · rw [e] at h1; simp at h1
theorem same_kept (w : World) (g : Nat) : ∀ b cs t fr, g < b → w.heap[b]? = some (.cells cs t fr) → w.heap[b]? = w.heap[b]? := fun _ _ _ _ _ _ => rfl
theorem below_kept {w w' : World} (g : Nat) (h : Below w.heap.size w w') : ∀ b cs t fr, g < b → w.heap[b]? = some (.cells cs t fr) → w'.heap[b]? = w.heap[b]? := fun b cs t fr _ hc => h.block b (block_lt hc)
/-- A name's temporary. -/
theorem Inv.name {w0 w w' : World} {g f : Nat} {listed : Array Bool} {a : Act} (h : Inv w0 g (f + 1) listed a w) (k r : Nat) (hk : k < 13) (hr : r < 4) (v : Value) (hb : Below w.heap.size w w') (hv : Val w' g k r v) :
    Inv w0 g f (listed.setIfInBounds (5 * k + 1 + r) true) (a.put (some (4 * k + 4 + r)) v) w' := by
  have hk2 := below_kept g hb
  refine ⟨by rw [Array.size_setIfInBounds]; exact h.lsz, by rw [put_size]; exact h.tsz, h.dfr, by rw [put_other _ _ (by omega)]; exact h.t0, Bl.next h.bel hb, ?_, ?_, ?_, ?_, ?_, ?_, ?_⟩
  · intro j q hj hq hl
    by_cases e : j = k ∧ q = r
    · obtain ⟨rfl, rfl⟩ := e
      rw [put_same _ _ _ (by rw [h.tsz]; omega)]
      exact hv
    · rw [put_other _ _ (by omega)]
      exact (h.val j q hj hq (set_old hl (by omega))).kept hk2
  · intro j hj hl
    exact getD_set_true (h.ord j hj (set_old hl (by omega)))
  · intro hl; exact getD_set_true (h.o66 (set_old hl (by omega)))
  · intro hl
    rw [put_other _ _ (by omega), put_other _ _ (by omega)]
    exact h.m66 (set_old hl (by omega))
  · intro hl
    rw [put_other _ _ (by omega), put_other _ _ (by omega)]
    exact h.m67 (set_old hl (by omega))
  · intro hl; exact getD_set_true (h.o67 (set_old hl (by omega)))
  · intro hl
    obtain ⟨M, D, n, h1, h2, ⟨es, c, hg, h3⟩, h4, h5, h6⟩ := h.mp (set_old hl (by omega))
    exact ⟨M, D, n, by rw [put_other _ _ (by omega)]; exact h1, h2, ⟨es, c, (hb.block M (block_lt hg)).trans hg, h3⟩, by omega, fun j hj hl2 => (h5 j hj (set_old hl2 (by omega))).kept hk2, fun nm hn => (h6 nm hn).kept hk2⟩
/-- The map is made. -/
theorem Inv.make {w0 w : World} {g f : Nat} {listed : Array Bool} {a : Act} (h : Inv w0 g (f + 1) listed a w) (hn : listed.getD 0 false = false) (hf : f + 1 ≤ 68) :
    Inv w0 g f (listed.setIfInBounds 0 true) (a.put (some 3) (.map (some w.heap.size))) (w.alloc (.map #[] 0)) := by
  have hb : Below w.heap.size w (w.alloc (.map #[] 0)) := (Below.refl _ _).alloc (Nat.le_refl _) _
  have hk2 := below_kept g hb
  refine ⟨by rw [Array.size_setIfInBounds]; exact h.lsz, by rw [put_size]; exact h.tsz, h.dfr, by rw [put_other _ _ (by omega)]; exact h.t0, Bl.next h.bel hb, ?_, ?_, ?_, ?_, ?_, ?_, ?_⟩
  · intro j q hj hq hl
    rw [put_other _ _ (by omega)]
    exact (h.val j q hj hq (set_old hl (by omega))).kept hk2
  · intro j hj hl
    exact getD_set_true (h.ord j hj (set_old hl (by omega)))
  · intro hl; exact getD_set_true (h.o66 (set_old hl (by omega)))
  · intro hl
    have h1 := h.o66 (set_old hl (by omega))
    rw [hn] at h1; cases h1
  · intro hl
    have h1 := h.o66 (h.o67 (set_old hl (by omega)))
    rw [hn] at h1; cases h1
  · intro hl; exact getD_set_true (h.o67 (set_old hl (by omega)))
  · intro hl
    refine ⟨w.heap.size, _, 0, by rw [put_same _ _ _ (by rw [h.tsz]; omega)], h.bel.size, World.ownsMap_made _ _ _ _, by omega, fun j hj hl2 => ?_, fun nm _ => rfl⟩
    have h1 := h.ord j hj (set_old hl2 (by omega))
    rw [hn] at h1; cases h1
/-- A store. -/
theorem Inv.store {w0 w : World} {g f : Nat} {listed : Array Bool} {a : Act} (h : Inv w0 g (f + 1) listed a w) (k : Nat) (hk : k < 13) (h0 : listed.getD 0 false = true) (hc : listed.getD (5 * k + 4) false = true) (hf : f + 1 ≤ 68) (hgw : g < w0.heap.size) :
    ∃ w', (Instr.mapUpdate 86 (a.tmps.getD 3 undef) (.string ⟨(nameOf k).toArray⟩) (a.tmps.getD (4 * k + 7) undef)).run Tryd.prog w = .ok () w' ∧ Inv w0 g f (listed.setIfInBounds (5 * k + 5) true) (a.put none undef) w' := by
  obtain ⟨M, D, n, h1, h2, h3, h4, h5, h6⟩ := h.mp h0
  have hd : DirOf w g (kindOf k) (a.tmps.getD (4 * k + 7) undef) := h.val k 3 hk (by omega) hc
  have hs : (⟨(nameOf k).toArray⟩ : ByteArray).size ≤ maxLen := by
    have h7 : (List.range 13).all (fun k => decide ((⟨(nameOf k).toArray⟩ : ByteArray).size ≤ 100)) = true := by decide +kernel
    have h8 := of_decide_eq_true (List.all_eq_true.1 h7 k (List.mem_range.2 hk))
    exact Nat.le_trans h8 (by decide)
  obtain ⟨w', hrun, ho, hb, hk2, hnew, hold⟩ := has_store (g := g) h3 ⟨(nameOf k).toArray⟩ hs (by unfold maxLen; omega) (kindOf k) _ hd
  rw [h1]
  have hBw : Below w0.heap.size w0 w' := h.bel.trans (hb.mono h2)
  refine ⟨w', hrun, by rw [Array.size_setIfInBounds]; exact h.lsz, h.tsz, h.dfr, h.t0, hBw, ?_, ?_, ?_, ?_, ?_, ?_, ?_⟩
  · intro j q hj hq hl
    exact (h.val j q hj hq (set_old hl (by omega))).kept hk2
  · intro j hj hl
    exact getD_set_true h0
  · intro hl; exact getD_set_true h0
  · intro hl; exact h.m66 (set_old hl (by omega))
  · intro hl; exact h.m67 (set_old hl (by omega))
  · intro hl; exact getD_set_true (h.o67 (set_old hl (by omega)))
  · intro _
    refine ⟨M, _, n + 1, h1, h2, ho, by omega, fun j hj hl2 => ?_, fun nm hn => hold nm none (hn k hk) (h6 nm hn)⟩
    by_cases e : j = k
    · subst e; exact hnew
    · exact hold _ _ (fun e2 => e (nameOf_inj j k hj hk e2)) (h5 j hj (set_old hl2 (by omega)))
theorem Inv.m56 {w0 w : World} {g f : Nat} {listed : Array Bool} {a : Act} (h : Inv w0 g (f + 1) listed a w) (h0 : listed.getD 0 false = true) (hn : listed.getD 66 false = false) :
    Inv w0 g f (listed.setIfInBounds 66 true) (a.put (some 56) (a.tmps.getD 3 undef)) w := by
  refine ⟨by rw [Array.size_setIfInBounds]; exact h.lsz, by rw [put_size]; exact h.tsz, h.dfr, by rw [put_other _ _ (by omega)]; exact h.t0, h.bel, ?_, ?_, ?_, ?_, ?_, ?_, ?_⟩
  · intro j q hj hq hl
    rw [put_other _ _ (by omega)]
    exact h.val j q hj hq (set_old hl (by omega))
  · intro j hj hl; exact getD_set_true h0
  · intro hl; exact getD_set_true h0
  · intro hl
    rw [put_same _ _ _ (by rw [h.tsz]; omega), put_other _ _ (by omega)]
  · intro hl
    have h1 := h.o67 (set_old hl (by omega))
    rw [hn] at h1; cases h1
  · intro hl; exact getD_set_true (h.o67 (set_old hl (by omega)))
  · intro hl
    obtain ⟨M, D, n, h1, h2, h3, h4, h5, h6⟩ := h.mp h0
    exact ⟨M, D, n, by rw [put_other _ _ (by omega)]; exact h1, h2, h3, by omega, fun j hj hl2 => h5 j hj (set_old hl2 (by omega)), h6⟩
theorem Inv.m2 {w0 w : World} {g f : Nat} {listed : Array Bool} {a : Act} (h : Inv w0 g (f + 1) listed a w) (h6 : listed.getD 66 false = true) :
    Inv w0 g f (listed.setIfInBounds 67 true) (a.put (some 2) (a.tmps.getD 56 undef)) w := by
  have h0 := h.o66 h6
  refine ⟨by rw [Array.size_setIfInBounds]; exact h.lsz, by rw [put_size]; exact h.tsz, h.dfr, by rw [put_other _ _ (by omega)]; exact h.t0, h.bel, ?_, ?_, ?_, ?_, ?_, ?_, ?_⟩
  · intro j q hj hq hl
    rw [put_other _ _ (by omega)]
    exact h.val j q hj hq (set_old hl (by omega))
  · intro j hj hl; exact getD_set_true h0
  · intro hl; exact getD_set_true h0
  · intro hl
    rw [put_other _ _ (by omega), put_other _ _ (by omega)]
    exact h.m66 h6
  · intro hl
    rw [put_same _ _ _ (by rw [h.tsz]; omega), put_other _ _ (by omega)]
  · intro hl; exact getD_set_true h6
  · intro hl
    obtain ⟨M, D, n, h1, h2, h3, h4, h5, h6⟩ := h.mp h0
    exact ⟨M, D, n, by rw [put_other _ _ (by omega)]; exact h1, h2, h3, by omega, fun j hj hl2 => h5 j hj (set_old hl2 (by omega)), h6⟩
theorem below13 {p : Nat → Prop} (h0 : p 0) (h1 : p 1) (h2 : p 2) (h3 : p 3) (h4 : p 4) (h5 : p 5) (h6 : p 6) (h7 : p 7) (h8 : p 8) (h9 : p 9) (h10 : p 10) (h11 : p 11) (h12 : p 12) : ∀ k, k < 13 → p k := by
  intro k hk
  rcases (by omega : k = 0 ∨ k = 1 ∨ k = 2 ∨ k = 3 ∨ k = 4 ∨ k = 5 ∨ k = 6 ∨ k = 7 ∨ k = 8 ∨ k = 9 ∨ k = 10 ∨ k = 11 ∨ k = 12) with rfl | rfl | rfl | rfl | rfl | rfl | rfl | rfl | rfl | rfl | rfl | rfl | rfl <;> assumption
theorem table_at : ∀ k, k < 13 → table.lookup (nameOf k) = some (kindOf k) := by
  refine below13 ?_ ?_ ?_ ?_ ?_ ?_ ?_ ?_ ?_ ?_ ?_ ?_ ?_ <;> kernel_rfl
theorem lookup_none {l : List (Bs × Kind)} {nm : Bs} (h : ∀ p ∈ l, nm ≠ p.1) : l.lookup nm = none := by
  induction l with
  | nil => rfl
  | cons p r ih =>
    rw [List.lookup_cons]
    have h1 : (nm == p.1) = false := by simpa using h p (by simp)
    rw [h1]
    exact ih fun q hq => h q (by simp [hq])
theorem Inv.known {w0 w : World} {g f : Nat} {listed : Array Bool} {a : Act} (h : Inv w0 g f listed a w) (hall : ∀ i, i < 68 → listed.getD i false = true) :
    ∃ M, a.tmps.getD 2 undef = .map (some M) ∧ w0.heap.size ≤ M ∧ Known w g M table := by
  obtain ⟨M, D, n, h1, h2, h3, h4, h5, h6⟩ := h.mp (hall 0 (by omega))
  refine ⟨M, by rw [h.m67 (hall 67 (by omega)), h.m66 (hall 66 (by omega)), h1], h2, D, n, h3, fun nm => ?_⟩
  by_cases hx : ∃ k, k < 13 ∧ nm = nameOf k
  · obtain ⟨k, hk, rfl⟩ := hx
    rw [table_at k hk]
    exact h5 k hk (hall _ (by omega))
  · have h7 : ∀ k, k < 13 → nm ≠ nameOf k := fun k hk e => hx ⟨k, hk, e⟩
    rw [lookup_none (fun p hp => by obtain ⟨k, hk, rfl⟩ := List.mem_map.1 hp; exact h7 k (List.mem_range.1 hk))]
    exact h6 nm h7
theorem enters_flag (x : Value) (w : World) : (callFunc 57 #[x]).run Tryd.prog w = .ok (.enter 57 #[x]) w := by kernel_rfl
theorem enters_number (x y z : Value) (w : World) : (callFunc 58 #[x, y, z]).run Tryd.prog w = .ok (.enter 58 #[x, y, z]) w := by kernel_rfl
theorem field_at (g : Nat) (w : World) : ∀ k, k < 13 → (Instr.fieldAt 33 (.pointer (some ⟨g, 0, none⟩)) k).run Tryd.prog w = .ok (.pointer (some ⟨g, k, none⟩)) w := by
  refine below13 ?_ ?_ ?_ ?_ ?_ ?_ ?_ ?_ ?_ ?_ ?_ ?_ ?_ <;> kernel_rfl
theorem call_of {w w1 : World} {g k i : Nat} {ops : Array Oper} {Q : Exit → Act → World → Prop} {K : Act → World → Prop} {a : Act} {o : Oper} (hk : k < 13) (hi : ops[i]? = some o) (hgd : o.guard = none) (hop : o.op = callOf k)
    (hp : a.tmps.getD (4 * k + 6) undef = .pointer (some ⟨g, k, none⟩)) (hg : g < w.heap.size) (hK : ∀ v w', DirOf w' g (kindOf k) v → Below w.heap.size w w' → K (a.put o.dst v) w') : wpOp Tryd.prog ops Q i K a w := by
  have hf : callOf k = Op.call { callee := Callee.value (Operand.func 57), args := #[Operand.tmp (4 * k + 6)], argTypes := #[110] } → kindOf k = .flag k → wpOp Tryd.prog ops Q i K a w := by
    intro e1 e2
    refine op_call hi hgd (f := 57) (args := #[.pointer (some ⟨g, k, none⟩)]) ?_ (flag_any g k w hg) ?_
    · unfold execOp
      rw [hop, e1]
      simp only [resolve, List.map_toArray, List.map_cons, List.map_nil, Act.eval, hp]
      exact enters_flag _ _
    · rintro e w' ⟨v, rfl, hd, hb⟩
      exact ⟨v, rfl, hK v w' (by rw [e2]; exact hd) hb⟩
  have hn : ∀ b wr, callOf k = Op.call { callee := Callee.value (Operand.func 58), args := #[Operand.tmp (4 * k + 6), Operand.const (Value.int IntKind.i64 b), Operand.const (Value.int IntKind.i64 wr)], argTypes := #[112, 3, 3] } → kindOf k = .num k b wr → wpOp Tryd.prog ops Q i K a w := by
    intro b wr e1 e2
    refine op_call hi hgd (f := 58) (args := #[.pointer (some ⟨g, k, none⟩), .int .i64 b, .int .i64 wr]) ?_ (number_any g k b wr w hg) ?_
    · unfold execOp
      rw [hop, e1]
      simp only [resolve, List.map_toArray, List.map_cons, List.map_nil, Act.eval, hp]
      exact enters_number _ _ _ _
    · rintro e w' ⟨v, rfl, hd, hb⟩
      exact ⟨v, rfl, hK v w' (by rw [e2]; exact hd) hb⟩
  match k, hk with
  | 0, _ => exact hf rfl rfl
  | 1, _ => exact hf rfl rfl
  | 2, _ => exact hf rfl rfl
  | 3, _ => exact hf rfl rfl
  | 4, _ => exact hf rfl rfl
  | 5, _ => exact hf rfl rfl
  | 6, _ => exact hf rfl rfl
  | 7, _ => exact hn _ _ rfl rfl
  | 8, _ => exact hn _ _ rfl rfl
  | 9, _ => exact hn _ _ rfl rfl
  | 10, _ => exact hn _ _ rfl rfl
  | 11, _ => exact hn _ _ rfl rfl
  | 12, _ => exact hn _ _ rfl rfl
theorem Inv.step {w0 w : World} {g f i : Nat} {ops : Array Oper} {Q : Exit → Act → World → Prop} {listed : Array Bool} {a : Act} (hS : Shape ops) (hgw : g < w0.heap.size) (h : Inv w0 g (f + 1) listed a w) (hf : f + 1 ≤ 68) (hr : i ∈ Region.ready .any ops listed) :
    wpOp Tryd.prog ops Q i (fun a' w' => Inv w0 g f (listed.setIfInBounds i true) a' w') a w := by
  have hi : i < 68 := by
    obtain ⟨_, o, ho, _⟩ := mem_ready.1 hr
    have := (Array.getElem?_eq_some_iff.1 ho).1
    rw [hS.size] at this; exact this
  have hnew := ready_new hr
  have hbr : Below w.heap.size w w := Below.refl _ _
  have hex : i = 0 ∨ i = 66 ∨ i = 67 ∨ ∃ k r, k < 13 ∧ r < 5 ∧ i = 5 * k + 1 + r := by
    by_cases h0 : i = 0
    · exact .inl h0
    · by_cases h1 : i = 66
      · exact .inr (.inl h1)
      · by_cases h2 : i = 67
        · exact .inr (.inr (.inl h2))
        · exact .inr (.inr (.inr ⟨(i - 1) / 5, (i - 1) % 5, by omega, by omega, by omega⟩))
  rcases hex with rfl | rfl | rfl | ⟨k, r, hk, hr5, rfl⟩
  · obtain ⟨o, ho, hg, hd, hop⟩ := hS.made.oper
    refine op_value ho hg (v := .map (some w.heap.size)) (w' := w.alloc (.map #[] 0)) ?_ ?_
    · unfold execOp
      rw [hop]
      simp [run_makeMap, Result.andThen]
    · rw [hd]; exact h.make hnew hf
  · obtain ⟨o, ho, hg, hd, hop⟩ := hS.m66.oper
    refine op_value ho hg (v := a.tmps.getD 3 undef) (w' := w) ?_ ?_
    · unfold execOp
      rw [hop]
      rfl
    · rw [hd]; exact h.m56 (hS.w66.listed hr) hnew
  · obtain ⟨o, ho, hg, hd, hop⟩ := hS.a67.oper
    refine op_value ho hg (v := a.tmps.getD 56 undef) (w' := w) ?_ ?_
    · unfold execOp
      rw [hop]
      rfl
    · rw [hd]; exact h.m2 (hS.w67.listed hr)
  · rcases (by omega : r = 0 ∨ r = 1 ∨ r = 2 ∨ r = 3 ∨ r = 4) with rfl | rfl | rfl | rfl | rfl
    · obtain ⟨o, ho, hg, hd, hop⟩ := (hS.mv k hk).oper
      refine op_value ho hg (v := .pointer (some ⟨g, 0, none⟩)) (w' := w) ?_ ?_
      · unfold execOp
        rw [hop]
        simp only [Act.eval, h.t0]
        rfl
      · rw [hd]; exact h.name k 0 hk (by omega) _ hbr rfl
    · have h1 : a.tmps.getD (4 * k + 4) undef = .pointer (some ⟨g, 0, none⟩) := h.val k 0 hk (by omega) ((hS.ncw k hk).listed hr)
      obtain ⟨o, ho, hg, hd, hop⟩ := (hS.nc k hk).oper
      refine op_value ho hg (v := .pointer (some ⟨g, 0, none⟩)) (w' := w) ?_ ?_
      · unfold execOp
        rw [hop]
        simp only [Act.eval, h1]
        rfl
      · rw [hd]; exact h.name k 1 hk (by omega) _ hbr rfl
    · have h1 : a.tmps.getD (4 * k + 5) undef = .pointer (some ⟨g, 0, none⟩) := h.val k 1 hk (by omega) ((hS.faw k hk).listed hr)
      obtain ⟨o, ho, hg, hd, hop⟩ := (hS.fa k hk).oper
      refine op_value ho hg (v := .pointer (some ⟨g, k, none⟩)) (w' := w) ?_ ?_
      · unfold execOp
        rw [hop]
        simp only [Act.eval, h1]
        simp [field_at g w k hk, Result.andThen]
      · rw [hd]; exact h.name k 2 hk (by omega) _ hbr rfl
    · have h1 : a.tmps.getD (4 * k + 6) undef = .pointer (some ⟨g, k, none⟩) := h.val k 2 hk (by omega) ((hS.clw k hk).listed hr)
      obtain ⟨o, ho, hg, hd, hop⟩ := (hS.cl k hk).oper
      refine call_of (g := g) (w1 := w) hk ho hg hop h1 (Nat.lt_of_lt_of_le hgw h.bel.size) fun v w' hdv hb => ?_
      rw [hd]; exact h.name k 3 hk (by omega) _ hb hdv
    · obtain ⟨o, ho, hg, hd, hop⟩ := (hS.ins k hk).oper
      obtain ⟨w', hrun, hI⟩ := h.store k hk ((hS.ins0 k hk).listed hr) ((hS.insw k hk).listed hr) hf hgw
      refine op_skip ho hg (w' := w') ?_ ?_
      · unfold execOp
        rw [hop]
        simp only [Act.eval]
        generalize a.tmps.getD 3 undef = u3 at hrun ⊢
        generalize a.tmps.getD (4 * k + 7) undef = u7 at hrun ⊢
        simp [hrun, Result.andThen]
      · rw [hd]; exact hI
theorem dirs_region {w0 : World} {g : Nat} {ops : Array Oper} {Q : Exit → Act → World → Prop} {a : Act} (hS : Shape ops) (hgw : g < w0.heap.size) (h : Inv w0 g 68 (Array.replicate 68 false) a w0.drew)
    (hQ : ∀ a w, a.defers = [] → Below w0.heap.size w0 w → (∃ M, a.tmps.getD 2 undef = .map (some M) ∧ w0.heap.size ≤ M ∧ Known w g M table) → Q .normal a w) : (Code.region 1 ops true).wp Tryd.prog Q a w0 := by
  refine wp_region_any (by kernel_rfl) ?_
  rw [hS.size]
  have h1 := any_inv (P := Tryd.prog) (ops := ops) (Q := Q) (md := .any) (I := fun f listed a w => f ≤ 68 ∧ Inv w0 g f listed a w)
    (fun f listed a w i hI hr => wpOp_mono (fun a' w' h' => ⟨by have := hI.1; omega, h'⟩) (Inv.step hS hgw hI.2 hI.1 hr))
    (fun f listed a w hI hr => hQ a w hI.2.dfr hI.2.bel (hI.2.known (by have h2 := all_listed hS.fwd' (by rw [hS.size]; exact hI.2.lsz) hr; rw [hS.size] at h2; exact h2)))
    68 (Array.replicate 68 false) a w0.drew (by rw [hS.size]; exact all_unlisted 68) ⟨Nat.le_refl _, h⟩
  exact h1

theorem none_listed (i : Nat) : (Array.replicate 68 false).getD i false = false := by
  rcases Nat.lt_or_ge i 68 with h | h
  · simp [h]
  · simp [h]
set_option maxHeartbeats 8000000 in
set_option maxRecDepth 100000 in
theorem directives_any (g : Nat) (w : World) (hg : g < w.heap.size) : Calls Tryd.prog 43 #[.pointer (some ⟨g, 0, none⟩)] w fun e w' => Below w.heap.size w w' ∧ ∃ M, e = .returned (.map (some M)) ∧ w.heap.size ≤ M ∧ Known w' g M table := by
  go_enter Tryd.func43, Tryd.ntmps43
  go_wp2_with fail
  refine dirs_region (g := g) ?_ hg ?_ ?_
  · constructor
    · kernel_rfl
    · kernel_rfl
    · unfold isOp; kernel_rfl
    · refine below13 ?_ ?_ ?_ ?_ ?_ ?_ ?_ ?_ ?_ ?_ ?_ ?_ ?_ <;> (unfold isOp; kernel_rfl)
    · refine below13 ?_ ?_ ?_ ?_ ?_ ?_ ?_ ?_ ?_ ?_ ?_ ?_ ?_ <;> (unfold isOp; kernel_rfl)
    · refine below13 ?_ ?_ ?_ ?_ ?_ ?_ ?_ ?_ ?_ ?_ ?_ ?_ ?_ <;> (unfold waits; kernel_rfl)
    · refine below13 ?_ ?_ ?_ ?_ ?_ ?_ ?_ ?_ ?_ ?_ ?_ ?_ ?_ <;> (unfold isOp; kernel_rfl)
    · refine below13 ?_ ?_ ?_ ?_ ?_ ?_ ?_ ?_ ?_ ?_ ?_ ?_ ?_ <;> (unfold waits; kernel_rfl)
    · refine below13 ?_ ?_ ?_ ?_ ?_ ?_ ?_ ?_ ?_ ?_ ?_ ?_ ?_ <;> (unfold isOp; kernel_rfl)
    · refine below13 ?_ ?_ ?_ ?_ ?_ ?_ ?_ ?_ ?_ ?_ ?_ ?_ ?_ <;> (unfold waits; kernel_rfl)
    · refine below13 ?_ ?_ ?_ ?_ ?_ ?_ ?_ ?_ ?_ ?_ ?_ ?_ ?_ <;> (unfold isOp; kernel_rfl)
    · refine below13 ?_ ?_ ?_ ?_ ?_ ?_ ?_ ?_ ?_ ?_ ?_ ?_ ?_ <;> (unfold waits; kernel_rfl)
    · refine below13 ?_ ?_ ?_ ?_ ?_ ?_ ?_ ?_ ?_ ?_ ?_ ?_ ?_ <;> (unfold waits; kernel_rfl)
    · unfold isOp; kernel_rfl
    · unfold waits; kernel_rfl
    · unfold isOp; kernel_rfl
    · unfold waits; kernel_rfl
  · refine ⟨rfl, rfl, rfl, rfl, (Below.refl _ _).drew, ?_, ?_, ?_, ?_, ?_, ?_, ?_⟩
    · intro k r hk hr h; rw [none_listed] at h; cases h
    · intro k hk h; rw [none_listed] at h; cases h
    · intro h; rw [none_listed] at h; cases h
    · intro h; rw [none_listed] at h; cases h
    · intro h; rw [none_listed] at h; cases h
    · intro h; rw [none_listed] at h; cases h
    · intro h; rw [none_listed] at h; cases h
  · rename_i Qf Kf hgo
    intro a w' hd hb ⟨M, h2, hMw, hK⟩
    refine hgo a w' ?_
    go_wp2_with fail
    refine bodyPost_ret (results_tmp rfl _ _ _) hd ?_
    exact ⟨hb, M, by rw [h2], hMw, hK⟩
end Go.Proofs.YtjbdgndejbiikaaDoor.Ct
/-
  strings.Cut at "=" and strings.Clone, as the library's own text has them: what each returns. Condition: a text of at most 2^47 bytes.
-/
namespace Go.Proofs.YtjbdgndejbiikaaDoor.Tk
open Go.RowKit
set_option maxRecDepth 100000

theorem run_idx (args : Array Value) (w : World) : (callFunc 93 args).run Tryd.prog w = ((Extern.BytealgIndexByte.indexByte args).run Tryd.prog w).andThen fun v w' => .ok (.value v) w' :=
  run_callFunc_extern Tryd.func93 (by kernel_rfl) (by kernel_rfl) (by kernel_rfl) (e := Extern.BytealgIndexByte.indexByte) (by kernel_rfl) args w

theorem indexByte_any (s : ByteArray) (c : UInt8) (w : World) :
    Calls Tryd.prog 88 #[.string s, .int .u8 (c.toNat : Int)] w fun e w' => e = .returned (.int .i64 (Lib.indexByte s.data.toList c)) ∧ w = w' := by
  have hc : ((c.toNat : Int).toNat).toUInt8 = c := by simp
  go_enter Tryd.func88, Tryd.ntmps88
  go_wp2
  rw [run_idx, Lib.run_indexByteString, hc]
  simp only [Result.andThen]
  rw [Oper.upon_value]
  go_wp2
  go_ret
  exact ⟨rfl, rfl⟩

theorem eq_text_ne {s : ByteArray} (h : s ≠ ⟨#[61]⟩) : (([61] : List UInt8) == s.toList) = false := by
  rw [beq_eq_false_iff_ne, ByteArray.toList_eq]; intro e; apply h
  cases s with
  | mk d => cases d with
    | mk l => simp at e; subst e; rfl

set_option maxHeartbeats 1000000 in
theorem index_any (s : ByteArray) (w : World) :
    Calls Tryd.prog 84 #[.string s, .string ⟨#[61]⟩] w fun e w' => e = .returned (.int .i64 (Lib.indexByte s.data.toList 61)) ∧ w = w' := by
  by_cases he : s = ⟨#[61]⟩
  · have h1 : (([61] : List UInt8) == s.toList) = true := by rw [he]; simp
    have HV := Lib.hid (show Lib.indexByte s.data.toList 61 = 0 from by rw [he]; rfl)
    clear he
    go_enter Tryd.func84, Tryd.ntmps84
    go_wp2_with fail
    go_ret
    exact ⟨by rw [HV.out]; rfl, rfl⟩
  · have h1 := eq_text_ne he
    clear he
    go_enter Tryd.func84, Tryd.ntmps84
    go_wp2_with fail
    refine (indexByte_any s 61 _).mono ?_
    rintro e w' ⟨rfl, rfl⟩
    go_wp2_with fail
    go_ret
    exact ⟨rfl, rfl⟩

/-- What Cut at "=" answers. -/
def cutVal (s : ByteArray) : Value :=
  if eqIdx s.data.toList < s.size then .tuple #[.string (s.extract 0 (eqIdx s.data.toList)), .string (s.extract (eqIdx s.data.toList + 1) s.size), .bool true]
  else .tuple #[.string s, .string ⟨#[]⟩, .bool false]

set_option maxHeartbeats 1000000 in
theorem cutLite_any (s : ByteArray) (w : World) (hs : s.size ≤ maxLen) :
    Calls Tryd.prog 70 #[.string s, .string ⟨#[61]⟩] w fun e w' => e = .returned (cutVal s) ∧ ∃ n, w' = w.drewN n := by
  unfold maxLen at hs
  have hlen : s.data.toList.length = s.size := by simp
  obtain ⟨k, hk⟩ : ∃ k, k = eqIdx s.data.toList := ⟨_, rfl⟩
  by_cases h : k < s.size
  · have HV := Lib.hid (show cutVal s = .tuple #[.string (s.extract 0 k), .string (s.extract (k + 1) s.size), .bool true] from by unfold cutVal; rw [← hk, if_pos h])
    have HI := Lib.hid (show Lib.indexByte s.data.toList 61 = (k : Int) from by rw [indexByte_eq, ← hk, if_pos (by omega)])
    clear hk hlen
    go_enter Tryd.func70, Tryd.ntmps70
    go_wp2_with fail
    refine (index_any s _).mono ?_
    rintro e w' ⟨rfl, rfl⟩
    rw [HI.out]
    go_wp2_with fail
    go_quiet (fail)
    go_wp2_with fail
    go_ret3
    exact ⟨by rw [HV.out]; rfl, _, rfl⟩
  · have HV := Lib.hid (show cutVal s = .tuple #[.string s, .string ⟨#[]⟩, .bool false] from by unfold cutVal; rw [← hk, if_neg h])
    have HI := Lib.hid (show Lib.indexByte s.data.toList 61 = -1 from by rw [indexByte_eq, ← hk, if_neg (by omega)])
    clear hk hlen
    go_enter Tryd.func70, Tryd.ntmps70
    go_wp2_with fail
    refine (index_any s _).mono ?_
    rintro e w' ⟨rfl, rfl⟩
    rw [HI.out]
    go_wp2_with fail
    go_ret3
    exact ⟨by rw [HV.out]; rfl, 0, rfl⟩
end Go.Proofs.YtjbdgndejbiikaaDoor.Tk
/-
  strings.Clone: what it returns. Condition: a text of at most 2^47 bytes.
-/
namespace Go.Proofs.YtjbdgndejbiikaaDoor.Tk
open Go.RowKit

theorem infoByte : (Tryd.prog.info? 5).map (fun i => (i.zero, i.size, i.bytes)) = some (some (.int .u8 0), 1, 1) := by kernel_rfl
theorem infoByteSize : (Tryd.prog.info? 5).map (·.size) = some 1 := by kernel_rfl
theorem cellsByte : Tryd.prog.cellsOf 5 = 1 := by kernel_rfl

/-- What Clone does to memory: a new row, the bytes copied over, the row frozen. -/
theorem clone_runs (s : ByteArray) (w : World) (h0 : 0 < s.size) (hs : s.size ≤ 140737488355328) : ∃ (M : Array Value) (W2 W3 : World),
    (Instr.makeSlice 77 (.int .i64 (s.size : Int)) (.int .i64 (s.size : Int))).run Tryd.prog w = .ok (.slice (some ⟨w.heap.size, 0, none⟩) s.size s.size) (w.alloc (.cells M 5)) ∧
    (∀ ty, (Builtin.copy_ #[77, 9] ty #[.slice (some ⟨w.heap.size, 0, none⟩) s.size s.size, .string s]).run Tryd.prog (w.alloc (.cells M 5)) = .ok (goInt s.size) W2) ∧
    (∀ ty, (Builtin.unsafeString_ #[107, 3] ty #[.pointer (some ⟨w.heap.size, 0, none⟩), .int .i64 (s.size : Int)]).run Tryd.prog W2 = .ok (.string s) W3) ∧
    Below w.heap.size w W3 := by
  obtain ⟨i0, hi, hz0, hz1, hz2⟩ := info_parts infoByte
  have hlen : s.data.toList.length = s.size := by simp
  have hmk := run_make (P := Tryd.prog) w 77 5 i0 (.int .u8 0) Tryd.underlying77 hi hz0 .i64 .i64 (s.size : Int) (s.size : Int) (by omega) (by omega) (by rw [hz2]; omega) (by omega)
  rw [hz1, Int.toNat_natCast, Nat.mul_one] at hmk
  obtain ⟨M, hM⟩ : ∃ M, M = madeCells (Value.int .u8 0).cells s.size := ⟨_, rfl⟩
  have hMs : M.size = s.size := by rw [hM, size_madeCells]
  rw [← hM] at hmk
  have hg : (w.alloc (.cells M 5)).heap[w.heap.size]? = some (.cells M 5 (0, 0)) := by show (w.heap.push _)[w.heap.size]? = _; simp
  have hcp := fun ty => Lib.run_copy_row_string (P := Tryd.prog) (w.alloc (.cells M 5)) 77 9 ty 5 w.heap.size 0 s.size s.size s M 5 Tryd.underlying77 infoByteSize hg (Nat.le_refl _) (by omega)
  have hR : (M.toList.take 0 ++ Lib.byteCells s.data.toList ++ M.toList.drop (0 + s.size)).toArray = (Lib.byteCells s.data.toList).toArray := by
    rw [List.take_zero, List.nil_append, List.drop_eq_nil_of_le (by simp; omega), List.append_nil]
  rw [hR] at hcp
  have hb2 : Below w.heap.size w ((w.alloc (.cells M 5)).setRow w.heap.size (Lib.byteCells s.data.toList).toArray) :=
    below_setRow ((Below.refl _ _).alloc (Nat.le_refl _) _) (Nat.le_refl _) _
  have hg2 := setRow_heap (w.alloc (.cells M 5)) w.heap.size M (Lib.byteCells s.data.toList).toArray 5 (0, 0) hg
  have hus := fun ty => Lib.run_unsafeString_row (P := Tryd.prog) (w := (w.alloc (.cells M 5)).setRow w.heap.size (Lib.byteCells s.data.toList).toArray) 107 3 ty 5 Tryd.underlying107 cellsByte w.heap.size s.size
    (by unfold World.shape?; rw [hg2]; simp [Lib.byteCells]) s.data.toList (by intro e; rw [e] at hlen; simp at hlen; omega) (by omega) (by omega) (by
      intro j x hx
      rw [Addr.add_lit, Nat.zero_add]
      have hj : j < s.data.toList.length := (List.getElem?_eq_some_iff.1 hx).1
      simp only [World.cell?, hg2]
      simp [Lib.byteCells, hx])
  rw [hlen] at hus
  exact ⟨M, _, _, hmk, hcp, fun ty => hus ty, Lib.below_freeze hb2 (Nat.le_refl _) _⟩

set_option maxHeartbeats 1000000 in
theorem cloneLite_any (s : ByteArray) (w : World) (hs : s.size ≤ 140737488355328) :
    Calls Tryd.prog 52 #[.string s] w fun e w' => e = .returned (.string s) ∧ Below w.heap.size w w' := by
  by_cases h0 : s.size = 0
  · have h1 : ((s.size : Int) == 0) = true := by rw [h0]; rfl
    have HE := Lib.hid (show s = ⟨#[]⟩ from by
      have := nil_of_size h0
      cases s with
      | mk d => cases d with
        | mk l => simp at this; subst this; rfl)
    clear h0
    go_enter Tryd.func52, Tryd.ntmps52
    go_wp2_with fail
    go_ret
    exact ⟨by rw [HE.out]; rfl, Below.refl _ _⟩
  · have h1 : ((s.size : Int) == 0) = false := beq_eq_false_iff_ne.2 (by omega)
    have hp : 0 < s.size := by omega
    obtain ⟨M, W2, W3, hmk, hcp, hus, hb⟩ := clone_runs s w hp hs
    clear h0
    go_enter Tryd.func52, Tryd.ntmps52
    go_wp2_with fail
    go_ret
    exact ⟨rfl, hb⟩

theorem clone_any (s : ByteArray) (w : World) (hs : s.size ≤ 140737488355328) :
    Calls Tryd.prog 37 #[.string s] w fun e w' => e = .returned (.string s) ∧ Below w.heap.size w w' := by
  go_enter Tryd.func37, Tryd.ntmps37
  go_wp2_with fail
  refine (cloneLite_any s _ hs).mono ?_
  rintro e w' ⟨rfl, hb⟩
  go_wp2_with fail
  go_ret
  exact ⟨rfl, hb⟩
end Go.Proofs.YtjbdgndejbiikaaDoor.Tk
