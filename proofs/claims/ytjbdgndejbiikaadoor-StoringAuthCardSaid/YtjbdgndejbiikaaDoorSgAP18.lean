/-
  Texts that the laws' proofs stand on, 3 of them in one file; each one's head says what it proves and under which condition.
-/
import Derived.Test.YtjbdgndejbiikaaDoorSgAP17
import Derived.Maps.OwnSet
import Derived.StringKeys
import Derived.Test.YtjbdgndejbiikaaDoorRows
import Derived.Orders
import Derived.WalkKit
import Derived.Carry
/-
  A map of directives: what a look-up in it tells, what a store leaves. No condition but what each states.
-/
namespace Go.Proofs.YtjbdgndejbiikaaDoor.Ct
open Go.RowKit Go.Proofs.YtjbdgndejbiikaaDoor.Tk Go.Proofs.YtjbdgndejbiikaaDoor.Fd Go.Proofs.YtjbdgndejbiikaaDoor.Hd Go.Maps
set_option maxRecDepth 100000
set_option linter.unusedVariables false

theorem keyed : Keyed Tryd.prog 9 := string_keyed Tryd.underlying9
/-- An element of the map, as it is. -/
def heldE (v : Value) : Option (DataW Value × List MemPlace) := some (.held v, [])
theorem zeroDir (w : World) : (zeroValue 93).run Tryd.prog w = .ok (.agg #[.nilFunc]) w := by kernel_rfl
theorem key_of {s : ByteArray} (h : s.size ≤ maxLen) : keyOf Tryd.prog 9 (.string s) = some (.string s.data.toList) := Go.WideMaps.keyOf_string_mk Tryd.underlying9 h
/-- What a map's reading has of a name. -/
def Has (W : World) (g : Nat) (D : DataW Value) (nm : Bs) : Option Kind → Prop
  | none => Maps.has D (.string nm) = false
  | some k => Maps.has D (.string nm) = true ∧ ∃ v, (∀ z, D.atKey (.string nm) z = .held v) ∧ DirOf W g k v
/-- Block M of W is a map of just these directives; of two of one name the first counts. -/
def Known (W : World) (g M : Nat) (l : List (Bs × Kind)) : Prop := ∃ (D : DataW Value) (n : Nat), W.ownsMap Tryd.prog 9 heldE M n D ∧ ∀ nm, Has W g D nm (l.lookup nm)
theorem DirOf.kept {w w' : World} {g : Nat} {k : Kind} {v : Value} (h : DirOf w g k v) (hb : ∀ b cs t fr, g < b → w.heap[b]? = some (.cells cs t fr) → w'.heap[b]? = w.heap[b]?) : DirOf w' g k v := by
  cases k with
  | flag i =>
    obtain ⟨b, e, hg, hv⟩ := h
    exact ⟨b, e, hg, (hb b _ _ _ hg hv).trans hv⟩
  | num i bare wrong =>
    obtain ⟨b0, b1, b2, e, g0, g1, g2, v0, v1, v2⟩ := h
    exact ⟨b0, b1, b2, e, g0, g1, g2, (hb b0 _ _ _ g0 v0).trans v0, (hb b1 _ _ _ g1 v1).trans v1, (hb b2 _ _ _ g2 v2).trans v2⟩
theorem Has.kept {w w' : World} {g : Nat} {D : DataW Value} {nm : Bs} {k : Option Kind} (h : Has w g D nm k) (hb : ∀ b cs t fr, g < b → w.heap[b]? = some (.cells cs t fr) → w'.heap[b]? = w.heap[b]?) : Has w' g D nm k := by
  cases k with
  | none => exact h
  | some k => obtain ⟨h1, v, h2, h3⟩ := h; exact ⟨h1, v, h2, h3.kept hb⟩
theorem Known.lt {W : World} {g M : Nat} {l : List (Bs × Kind)} (h : Known W g M l) : M < W.heap.size := by obtain ⟨D, n, h, _⟩ := h; exact World.ownsMap.lt h
/-- It hangs on the blocks behind g alone. -/
theorem Known.kept {W W' : World} {g M : Nat} {l : List (Bs × Kind)} (h : Known W g M l) (hM : g < M) (hb : ∀ b, g < b → b < W.heap.size → W'.heap[b]? = W.heap[b]?) : Known W' g M l := by
  obtain ⟨D, n, ⟨es, c, hg, r⟩, h2⟩ := h
  exact ⟨D, n, ⟨es, c, (hb M hM (block_lt hg)).trans hg, r⟩, fun nm => (h2 nm).kept fun b cs t fr hgb hc => hb b hgb (block_lt hc)⟩
theorem Known.more {W W' : World} {g M : Nat} {l : List (Bs × Kind)} (h : Known W g M l) (hM : g < M) (hb : Below W.heap.size W W') : Known W' g M l := h.kept hM fun b _ hl => hb.block b hl
theorem Known.put {W W' : World} {g M i : Nat} {v : Value} {l : List (Bs × Kind)} (h : Known W g M l) (hM : g < M) (hp : PutAt W W' ⟨g, i, none⟩ v) : Known W' g M l := h.kept hM fun b hb _ => hp.far (by show b ≠ g; omega)
theorem Known.look {W : World} {g M : Nat} {l : List (Bs × Kind)} (h : Known W g M l) (s : ByteArray) (hs : s.size ≤ maxLen) :
    match l.lookup s.data.toList with
    | none => (Instr.lookup 86 (.map (some M)) (.string s) true).run Tryd.prog W = .ok (.tuple #[.agg #[.nilFunc], .bool false]) W
    | some k => ∃ v, (Instr.lookup 86 (.map (some M)) (.string s) true).run Tryd.prog W = .ok (.tuple #[v, .bool true]) W ∧ DirOf W g k v := by
  obtain ⟨D, n, hD, h2⟩ := h
  obtain ⟨v, ps, hrun, hv⟩ := World.ownsMap.look_ok hD keyed Tryd.underlying86 (zeroDir W) (zd := .held (.agg #[.nilFunc])) (zp := []) rfl (key_of hs)
  have h3 := h2 s.data.toList
  cases hl : l.lookup s.data.toList with
  | none =>
    rw [hl] at h3
    have h4 : Maps.has D (.string s.data.toList) = false := h3
    rw [Maps.atKey_of_not_has h4] at hv
    injection hv with hv; injection hv with hv _; injection hv with hv
    rw [hrun, h4, hv]
  | some k =>
    rw [hl] at h3
    obtain ⟨h4, v', h5, h6⟩ := h3
    rw [h5] at hv
    injection hv with hv; injection hv with hv _; injection hv with hv
    exact ⟨v', by rw [hrun, h4, hv], h6⟩
/-- A store, of what it leaves of each name. -/
theorem has_store {W : World} {g M n : Nat} {D : DataW Value} (hD : W.ownsMap Tryd.prog 9 heldE M n D) (s : ByteArray) (hs : s.size ≤ maxLen) (hn : n < maxLen) (k : Kind) (v : Value) (hd : DirOf W g k v) :
    ∃ W', (Instr.mapUpdate 86 (.map (some M)) (.string s) v).run Tryd.prog W = .ok () W' ∧ W'.ownsMap Tryd.prog 9 heldE M (n + 1) (D.put (.string s.data.toList) (.held v)) ∧ Below M W W' ∧
      (∀ b cs t fr, g < b → W.heap[b]? = some (.cells cs t fr) → W'.heap[b]? = W.heap[b]?) ∧ Has W' g (D.put (.string s.data.toList) (.held v)) s.data.toList (some k) ∧
      ∀ nm o, nm ≠ s.data.toList → Has W g D nm o → Has W' g (D.put (.string s.data.toList) (.held v)) nm o := by
  obtain ⟨W', hrun, ho, ht⟩ := World.ownsMap.store hD keyed Tryd.underlying86 hn (key_of hs) (val := v) (d := .held v) (ps := []) rfl
  have hg := ht.grown
  have hmap : ∃ es c, W.heap[M]? = some (.map es c) := by obtain ⟨es, c, _, _, h, _⟩ := ht; exact ⟨es, c, h⟩
  have hk : ∀ b cs t fr, g < b → W.heap[b]? = some (.cells cs t fr) → W'.heap[b]? = W.heap[b]? := by
    intro b cs t fr _ hb
    refine hg.block b (block_lt hb) ?_
    intro e
    injection e with e
    subst e
    obtain ⟨es, c, h3⟩ := hmap
    rw [hb] at h3
    injection h3 with h3
    cases h3
  have hK : WideAt.IsKeyLit (Lit.string s.data.toList) := trivial
  refine ⟨W', hrun, ho, ⟨hg.os, hg.tape, hg.output, hg.size, fun b hb => hg.block b (by have := World.ownsMap.lt hD; omega) (by intro e; injection e with e; omega)⟩, hk, ⟨Maps.has_put_same hD.isMap hK _, v, fun z => Maps.atKey_put_same hD.isMap hK _ z, hd.kept hk⟩, ?_⟩
  intro nm o h4 h
  have h5 : (Lit.string nm) ≠ .string s.data.toList := fun e => h4 (by injection e)
  have h6 := h.kept hk
  cases o with
  | none => exact (Maps.has_put_other h5 _).trans h6
  | some k' =>
    obtain ⟨h7, v', h8, h9⟩ := h6
    exact ⟨(Maps.has_put_other h5 _).trans h7, v', fun z => (Maps.atKey_put_other h5 _ z).trans (h8 z), h9⟩
end Go.Proofs.YtjbdgndejbiikaaDoor.Ct
/-
  A region that draws its order, by what holds whatever has come up. No condition.
-/
namespace Go.Proofs.YtjbdgndejbiikaaDoor.Rg
open Go.RowKit
set_option linter.unusedVariables false

section
variable {P : Program} {ops : Array Oper} {Q : Exit → Act → World → Prop} {md : Region.Mode}

theorem count_drop {listed : Array Bool} {n i : Nat} (hi : i < n) (h : listed.getD i true = false) (f : Nat) (hc : (List.range n).countP (fun j => !listed.getD j true) ≤ f + 1) :
    (List.range n).countP (fun j => !(listed.setIfInBounds i true).getD j true) ≤ f := by
  have hlt : i < listed.size := by
    rcases Nat.lt_or_ge i listed.size with h' | h'
    · exact h'
    · simp [Array.getElem?_eq_none h'] at h
  have h1 : ∀ l : List Nat, l.countP (fun j => !(listed.setIfInBounds i true).getD j true) + (if i ∈ l then 1 else 0) ≤ l.countP (fun j => !listed.getD j true) := by
    intro l
    induction l with
    | nil => simp
    | cons x r ih =>
      rw [List.countP_cons, List.countP_cons]
      by_cases hx : x = i
      · subst hx
        have e1 : (listed.setIfInBounds x true).getD x true = true := by simp [hlt]
        rw [e1, h]
        simp only [List.mem_cons, true_or, if_true, Bool.not_true, Bool.not_false, Bool.false_eq_true, if_false]
        split at ih <;> omega
      · have e1 : (listed.setIfInBounds i true).getD x true = listed.getD x true := getD_set_ne true (Ne.symm hx)
        rw [e1]
        have e2 : (i ∈ x :: r) ↔ i ∈ r := by simp [Ne.symm hx]
        simp only [e2]
        omega
  have h2 := h1 (List.range n)
  rw [if_pos (List.mem_range.2 hi)] at h2
  omega
/-- What holds ahead of an operation holds behind it, whichever may come up; so it holds at the end. The number tells how many have still to come. -/
theorem any_inv {I : Nat → Array Bool → Act → World → Prop}
    (hstep : ∀ f listed a w i, I (f + 1) listed a w → i ∈ Region.ready md ops listed → wpOp P ops Q i (fun a' w' => I f (listed.setIfInBounds i true) a' w') a w)
    (hdone : ∀ f listed a w, I f listed a w → Region.ready md ops listed = [] → Q .normal a w) :
    ∀ fuel listed a w, (List.range ops.size).countP (fun j => !listed.getD j true) ≤ fuel → I fuel listed a w → wpAny P md ops Q fuel listed a w
  | 0, listed, a, w, hc, h => by
    have hr : Region.ready md ops listed = [] := by
      cases hr : Region.ready md ops listed with
      | nil => rfl
      | cons i r =>
        have hi : i ∈ Region.ready md ops listed := by rw [hr]; simp
        obtain ⟨h0, o, ho, _⟩ := mem_ready.1 hi
        have hlt := (Array.getElem?_eq_some_iff.1 ho).1
        have : 0 < (List.range ops.size).countP (fun j => !listed.getD j true) := List.countP_pos_iff.2 ⟨i, List.mem_range.2 hlt, by rw [h0]; rfl⟩
        omega
    exact ⟨hr, hdone _ _ _ _ h hr⟩
  | fuel + 1, listed, a, w, hc, h => by
    refine ⟨fun hr => hdone _ _ _ _ h hr, fun i hi => ?_⟩
    obtain ⟨h0, o, ho, _⟩ := mem_ready.1 hi
    have hlt := (Array.getElem?_eq_some_iff.1 ho).1
    exact wpOp_mono (fun a' w' h' => any_inv hstep hdone fuel _ a' w' (count_drop hlt h0 fuel hc) h') (hstep _ _ _ _ _ h hi)
/-- Where no more may come up, and each waits for earlier ones alone, all have come up. -/
theorem all_listed {listed : Array Bool} (hfwd : ∀ (i : Nat) (o : Oper), ops[i]? = some o → ∀ e ∈ o.after, e.on < i) (hsz : listed.size = ops.size) (hr : Region.ready md ops listed = []) : ∀ i, i < ops.size → listed.getD i false = true := by
  intro i
  induction i using Nat.strongRecOn with
  | ind i ih =>
    intro hi
    cases hl : listed.getD i false with
    | true => rfl
    | false =>
      exfalso
      have h1 : listed.getD i true = false := by
        have hlt : i < listed.size := by omega
        simp [hlt] at hl ⊢
        exact hl
      have h2 : i ∈ Region.ready md ops listed := mem_ready.2 ⟨h1, ops[i], Array.getElem?_eq_getElem hi, fun e he _ => ih e.on (hfwd i ops[i] (Array.getElem?_eq_getElem hi) e he) (by have := hfwd i ops[i] (Array.getElem?_eq_getElem hi) e he; omega)⟩
      rw [hr] at h2
      cases h2
theorem all_unlisted (n : Nat) : (List.range n).countP (fun j => !(Array.replicate n false).getD j true) ≤ n := by
  have := List.countP_le_length (p := fun j => !(Array.replicate n false).getD j true) (l := List.range n)
  simpa using this

/-- An operation that leaves a value. -/
theorem op_value {i : Nat} {o : Oper} {a : Act} {w w' : World} {v : Value} {K : Act → World → Prop} (hi : ops[i]? = some o) (hg : o.guard = none) (hrun : (execOp a.eval o).run P w = .ok (.value v) w') (hK : K (a.put o.dst v) w') : wpOp P ops Q i K a w := by
  unfold wpOp
  simp only [hi, Region.wanted, hg, if_true]
  refine .inl ?_
  unfold Oper.wp
  rw [hrun]
  exact hK
theorem op_skip {i : Nat} {o : Oper} {a : Act} {w w' : World} {K : Act → World → Prop} (hi : ops[i]? = some o) (hg : o.guard = none) (hrun : (execOp a.eval o).run P w = .ok .skip w') (hK : K (a.put o.dst undef) w') : wpOp P ops Q i K a w := by
  unfold wpOp
  simp only [hi, Region.wanted, hg, if_true]
  refine .inl ?_
  unfold Oper.wp
  rw [hrun]
  exact hK
theorem op_call {i : Nat} {o : Oper} {a : Act} {w : World} {f : FuncId} {args : Array Value} {R : Ending → World → Prop} {K : Act → World → Prop} (hi : ops[i]? = some o) (hg : o.guard = none) (hrun : (execOp a.eval o).run P w = .ok (.enter f args) w)
    (hc : Calls P f args w R) (hK : ∀ e w', R e w' → ∃ v, e = .returned v ∧ K (a.put o.dst v) w') : wpOp P ops Q i K a w := by
  unfold wpOp
  simp only [hi, Region.wanted, hg, if_true]
  refine .inl ?_
  unfold Oper.wp
  rw [hrun]
  show Calls P f args w _
  refine hc.mono fun e w' he => ?_
  obtain ⟨v, rfl, h⟩ := hK e w' he
  exact h
theorem put_same (a : Act) (d : Nat) (v : Value) (h : d < a.tmps.size) : (a.put (some d) v).tmps.getD d undef = v := by simp [Act.put, h]
theorem put_other (a : Act) {d e : Nat} (v : Value) (h : e ≠ d) : (a.put (some d) v).tmps.getD e undef = a.tmps.getD e undef := by simp [Act.put, Array.getElem?_setIfInBounds_ne (Ne.symm h)]
theorem put_size (a : Act) (d : Nat) (v : Value) : (a.put (some d) v).tmps.size = a.tmps.size := by simp [Act.put]
theorem set_old {listed : Array Bool} {i j : Nat} (h : (listed.setIfInBounds i true).getD j false = true) (hne : j ≠ i) : listed.getD j false = true := by rwa [getD_set_ne false (Ne.symm hne)] at h
end
end Go.Proofs.YtjbdgndejbiikaaDoor.Rg
/-
  control.directives: the map that it makes, whatever order its literal's calls and stores come in. No condition but what each states.
-/
namespace Go.Proofs.YtjbdgndejbiikaaDoor.Ct
open Go.RowKit Go.Proofs.YtjbdgndejbiikaaDoor.Tk Go.Proofs.YtjbdgndejbiikaaDoor.Fd Go.Proofs.YtjbdgndejbiikaaDoor.Hd Go.Maps Go.Proofs.YtjbdgndejbiikaaDoor.Rg
set_option maxRecDepth 100000
set_option linter.unusedVariables false

def nameOf : Nat → Bs
  | 0 => nst
  | 1 => nca
  | 2 => pri
  | 3 => pub
  | 4 => mus
  | 5 => pro
  | 6 => onl
  | 7 => age
  | 8 => sma
  | 9 => swr
  | 10 => sie
  | 11 => mif
  | 12 => mst
  | _ => []
def kindOf : Nat → Kind
  | 0 => .flag 0
  | 1 => .flag 1
  | 2 => .flag 2
  | 3 => .flag 3
  | 4 => .flag 4
  | 5 => .flag 5
  | 6 => .flag 6
  | 7 => .num 7 0 0
  | 8 => .num 8 0 0
  | 9 => .num 9 (-1) (-1)
  | 10 => .num 10 (-1) (-1)
  | 11 => .num 11 (-1) (-1)
  | 12 => .num 12 2147483648 (-1)
  | _ => .flag 0
/-- What is known of each name. -/
def table : List (Bs × Kind) := (List.range 13).map fun k => (nameOf k, kindOf k)
def callOf (k : Nat) : Op := match kindOf k with
  | .flag _ => Op.call { callee := Callee.value (Operand.func 57), args := #[Operand.tmp (4 * k + 6)], argTypes := #[110] }
  | .num _ b wr => Op.call { callee := Callee.value (Operand.func 58), args := #[Operand.tmp (4 * k + 6), Operand.const (Value.int IntKind.i64 b), Operand.const (Value.int IntKind.i64 wr)], argTypes := #[112, 3, 3] }
def isOp (ops : Array Oper) (i : Nat) (d : Option Tmp) (op : Op) : Prop := (ops[i]?).map (fun o => (o.guard, o.dst, o.op)) = some (none, d, op)
def waits (ops : Array Oper) (i j : Nat) : Prop := (ops[i]?).map (fun o => o.after.any fun e => e.on == j && Region.binds .any e) = some true
theorem isOp.oper {ops : Array Oper} {i : Nat} {d : Option Tmp} {op : Op} (h : isOp ops i d op) : ∃ o, ops[i]? = some o ∧ o.guard = none ∧ o.dst = d ∧ o.op = op := by
  unfold isOp at h
  rw [Option.map_eq_some_iff] at h
  obtain ⟨o, h1, h2⟩ := h
  injection h2 with h3 h4
  injection h4 with h4 h5
  exact ⟨o, h1, h3, h4, h5⟩
theorem waits.listed {ops : Array Oper} {i j : Nat} {listed : Array Bool} (h : waits ops i j) (hr : i ∈ Region.ready .any ops listed) : listed.getD j false = true := by
  unfold waits at h
  rw [Option.map_eq_some_iff] at h
  obtain ⟨o, h1, h2⟩ := h
  obtain ⟨_, o', h3, h4⟩ := mem_ready.1 hr
  rw [h1] at h3
  injection h3 with h3
  subst h3
  obtain ⟨e, he, hb⟩ := Array.any_eq_true'.1 h2
  rw [Bool.and_eq_true, beq_iff_eq] at hb
  rw [← hb.1]
  exact h4 e he hb.2
theorem ready_new {ops : Array Oper} {i : Nat} {listed : Array Bool} (hr : i ∈ Region.ready .any ops listed) : listed.getD i false = false := by
  have h0 := (mem_ready.1 hr).1
  rcases Nat.lt_or_ge i listed.size with h' | h'
  · simp [h'] at h0 ⊢; exact h0
  · simp [Array.getElem?_eq_none h'] at h0
/-- The literal's operations: for each name its pointer, its call, its store. -/
structure Shape (ops : Array Oper) : Prop where
  size : ops.size = 68
  fwd : (List.range 68).all (fun i => ((ops[i]?).map fun o => o.after.all fun e => decide (e.on < i)).getD true) = true
  made : isOp ops 0 (some 3) (Op.makeMap 86 none)
  mv : ∀ k, k < 13 → isOp ops (5 * k + 1) (some (4 * k + 4)) (Op.move (Operand.tmp 0))
  nc : ∀ k, k < 13 → isOp ops (5 * k + 2) (some (4 * k + 5)) (Op.nilCheck (Operand.tmp (4 * k + 4)))
  ncw : ∀ k, k < 13 → waits ops (5 * k + 2) (5 * k + 1)
  fa : ∀ k, k < 13 → isOp ops (5 * k + 3) (some (4 * k + 6)) (Op.fieldAddr 33 (Operand.tmp (4 * k + 5)) k)
  faw : ∀ k, k < 13 → waits ops (5 * k + 3) (5 * k + 2)
  cl : ∀ k, k < 13 → isOp ops (5 * k + 4) (some (4 * k + 7)) (callOf k)
  clw : ∀ k, k < 13 → waits ops (5 * k + 4) (5 * k + 3)
  ins : ∀ k, k < 13 → isOp ops (5 * k + 5) none (Op.insert 86 (Operand.tmp 3) (Operand.const (.string ⟨(nameOf k).toArray⟩)) (Operand.tmp (4 * k + 7)))
  insw : ∀ k, k < 13 → waits ops (5 * k + 5) (5 * k + 4)
  ins0 : ∀ k, k < 13 → waits ops (5 * k + 5) 0
  m66 : isOp ops 66 (some 56) (Op.move (Operand.tmp 3))
  w66 : waits ops 66 0
  a67 : isOp ops 67 (some 2) (Op.assign (Operand.tmp 56))
  w67 : waits ops 67 66
theorem Shape.fwd' {ops : Array Oper} (h : Shape ops) (i : Nat) (o : Oper) (ho : ops[i]? = some o) : ∀ e ∈ o.after, e.on < i := by
  have hi : i < 68 := by have := (Array.getElem?_eq_some_iff.1 ho).1; rw [h.size] at this; exact this
  have h1 := List.all_eq_true.1 h.fwd i (List.mem_range.2 hi)
  rw [ho] at h1
  intro e he
  exact of_decide_eq_true (Array.all_eq_true_iff_forall_mem.1 h1 e he)
/-- What the r-th of a name's temporaries holds. -/
def Val (w : World) (g k : Nat) : Nat → Value → Prop
  | 0, v => v = .pointer (some ⟨g, 0, none⟩)
  | 1, v => v = .pointer (some ⟨g, 0, none⟩)
  | 2, v => v = .pointer (some ⟨g, k, none⟩)
  | _, v => DirOf w g (kindOf k) v
theorem Val.kept {w w' : World} {g k r : Nat} {v : Value} (h : Val w g k r v) (hb : ∀ b cs t fr, g < b → w.heap[b]? = some (.cells cs t fr) → w'.heap[b]? = w.heap[b]?) : Val w' g k r v := by
  match r, h with
  | 0, h => exact h
  | 1, h => exact h
  | 2, h => exact h
  | r + 3, h => exact DirOf.kept h hb
/-- What holds whatever has come up. -/
structure Inv (w0 : World) (g f : Nat) (listed : Array Bool) (a : Act) (w : World) : Prop where
  lsz : listed.size = 68
  tsz : a.tmps.size = 57
  dfr : a.defers = []
  t0 : a.tmps.getD 0 undef = .pointer (some ⟨g, 0, none⟩)
  bel : Below w0.heap.size w0 w
  val : ∀ k r, k < 13 → r < 4 → listed.getD (5 * k + 1 + r) false = true → Val w g k r (a.tmps.getD (4 * k + 4 + r) undef)
  ord : ∀ k, k < 13 → listed.getD (5 * k + 5) false = true → listed.getD 0 false = true
  o66 : listed.getD 66 false = true → listed.getD 0 false = true
  m66 : listed.getD 66 false = true → a.tmps.getD 56 undef = a.tmps.getD 3 undef
  m67 : listed.getD 67 false = true → a.tmps.getD 2 undef = a.tmps.getD 56 undef
  o67 : listed.getD 67 false = true → listed.getD 66 false = true
  mp : listed.getD 0 false = true → ∃ M D n, a.tmps.getD 3 undef = .map (some M) ∧ w0.heap.size ≤ M ∧ w.ownsMap Tryd.prog 9 heldE M n D ∧ n + f ≤ 68 ∧
    (∀ k, k < 13 → listed.getD (5 * k + 5) false = true → Has w g D (nameOf k) (some (kindOf k))) ∧ ∀ nm, (∀ k, k < 13 → nm ≠ nameOf k) → Has w g D nm none
theorem nameOf_inj : ∀ k j, k < 13 → j < 13 → nameOf k = nameOf j → k = j := by
  have h : (List.range 13).all (fun k => (List.range 13).all fun j => k == j || nameOf k != nameOf j) = true := by decide +kernel
  intro k j hk hj e
  have h1 := List.all_eq_true.1 (List.all_eq_true.1 h k (List.mem_range.2 hk)) j (List.mem_range.2 hj)
  rw [Bool.or_eq_true, beq_iff_eq] at h1
  rcases h1 with h1 | h1
  · exact h1
  · rw [e] at h1; simp at h1
theorem same_kept (w : World) (g : Nat) : ∀ b cs t fr, g < b → w.heap[b]? = some (.cells cs t fr) → w.heap[b]? = w.heap[b]? := fun _ _ _ _ _ _ => rfl
theorem below_kept {w w' : World} (g : Nat) (h : Below w.heap.size w w') : ∀ b cs t fr, g < b → w.heap[b]? = some (.cells cs t fr) → w'.heap[b]? = w.heap[b]? := fun b cs t fr _ hc => h.block b (block_lt hc)
/-- A name's temporary. -/
theorem Inv.name {w0 w w' : World} {g f : Nat} {listed : Array Bool} {a : Act} (h : Inv w0 g (f + 1) listed a w) (k r : Nat) (hk : k < 13) (hr : r < 4) (v : Value) (hb : Below w.heap.size w w') (hv : Val w' g k r v) :
    Inv w0 g f (listed.setIfInBounds (5 * k + 1 + r) true) (a.put (some (4 * k + 4 + r)) v) w' := by
  have hk2 := below_kept g hb
  refine ⟨by rw [Array.size_setIfInBounds]; exact h.lsz, by rw [put_size]; exact h.tsz, h.dfr, by rw [put_other _ _ (by omega)]; exact h.t0, Bl.next h.bel hb, ?_, ?_, ?_, ?_, ?_, ?_, ?_⟩
  · intro j q hj hq hl
    by_cases e : j = k ∧ q = r
    · obtain ⟨rfl, rfl⟩ := e
      rw [put_same _ _ _ (by rw [h.tsz]; omega)]
      exact hv
    · rw [put_other _ _ (by omega)]
      exact (h.val j q hj hq (set_old hl (by omega))).kept hk2
  · intro j hj hl
    exact getD_set_true (h.ord j hj (set_old hl (by omega)))
  · intro hl; exact getD_set_true (h.o66 (set_old hl (by omega)))
  · intro hl
    rw [put_other _ _ (by omega), put_other _ _ (by omega)]
    exact h.m66 (set_old hl (by omega))
  · intro hl
    rw [put_other _ _ (by omega), put_other _ _ (by omega)]
    exact h.m67 (set_old hl (by omega))
  · intro hl; exact getD_set_true (h.o67 (set_old hl (by omega)))
  · intro hl
    obtain ⟨M, D, n, h1, h2, ⟨es, c, hg, h3⟩, h4, h5, h6⟩ := h.mp (set_old hl (by omega))
    exact ⟨M, D, n, by rw [put_other _ _ (by omega)]; exact h1, h2, ⟨es, c, (hb.block M (block_lt hg)).trans hg, h3⟩, by omega, fun j hj hl2 => (h5 j hj (set_old hl2 (by omega))).kept hk2, fun nm hn => (h6 nm hn).kept hk2⟩
/-- The map is made. -/
theorem Inv.make {w0 w : World} {g f : Nat} {listed : Array Bool} {a : Act} (h : Inv w0 g (f + 1) listed a w) (hn : listed.getD 0 false = false) (hf : f + 1 ≤ 68) :
    Inv w0 g f (listed.setIfInBounds 0 true) (a.put (some 3) (.map (some w.heap.size))) (w.alloc (.map #[] 0)) := by
  have hb : Below w.heap.size w (w.alloc (.map #[] 0)) := (Below.refl _ _).alloc (Nat.le_refl _) _
  have hk2 := below_kept g hb
  refine ⟨by rw [Array.size_setIfInBounds]; exact h.lsz, by rw [put_size]; exact h.tsz, h.dfr, by rw [put_other _ _ (by omega)]; exact h.t0, Bl.next h.bel hb, ?_, ?_, ?_, ?_, ?_, ?_, ?_⟩
  · intro j q hj hq hl
    rw [put_other _ _ (by omega)]
    exact (h.val j q hj hq (set_old hl (by omega))).kept hk2
  · intro j hj hl
    exact getD_set_true (h.ord j hj (set_old hl (by omega)))
  · intro hl; exact getD_set_true (h.o66 (set_old hl (by omega)))
  · intro hl
    have h1 := h.o66 (set_old hl (by omega))
    rw [hn] at h1; cases h1
  · intro hl
    have h1 := h.o66 (h.o67 (set_old hl (by omega)))
    rw [hn] at h1; cases h1
  · intro hl; exact getD_set_true (h.o67 (set_old hl (by omega)))
  · intro hl
    refine ⟨w.heap.size, _, 0, by rw [put_same _ _ _ (by rw [h.tsz]; omega)], h.bel.size, World.ownsMap_made _ _ _ _, by omega, fun j hj hl2 => ?_, fun nm _ => rfl⟩
    have h1 := h.ord j hj (set_old hl2 (by omega))
    rw [hn] at h1; cases h1
/-- A store. -/
theorem Inv.store {w0 w : World} {g f : Nat} {listed : Array Bool} {a : Act} (h : Inv w0 g (f + 1) listed a w) (k : Nat) (hk : k < 13) (h0 : listed.getD 0 false = true) (hc : listed.getD (5 * k + 4) false = true) (hf : f + 1 ≤ 68) (hgw : g < w0.heap.size) :
    ∃ w', (Instr.mapUpdate 86 (a.tmps.getD 3 undef) (.string ⟨(nameOf k).toArray⟩) (a.tmps.getD (4 * k + 7) undef)).run Tryd.prog w = .ok () w' ∧ Inv w0 g f (listed.setIfInBounds (5 * k + 5) true) (a.put none undef) w' := by
  obtain ⟨M, D, n, h1, h2, h3, h4, h5, h6⟩ := h.mp h0
  have hd : DirOf w g (kindOf k) (a.tmps.getD (4 * k + 7) undef) := h.val k 3 hk (by omega) hc
  have hs : (⟨(nameOf k).toArray⟩ : ByteArray).size ≤ maxLen := by
    have h7 : (List.range 13).all (fun k => decide ((⟨(nameOf k).toArray⟩ : ByteArray).size ≤ 100)) = true := by decide +kernel
    have h8 := of_decide_eq_true (List.all_eq_true.1 h7 k (List.mem_range.2 hk))
    exact Nat.le_trans h8 (by decide)
  obtain ⟨w', hrun, ho, hb, hk2, hnew, hold⟩ := has_store (g := g) h3 ⟨(nameOf k).toArray⟩ hs (by unfold maxLen; omega) (kindOf k) _ hd
  rw [h1]
  have hBw : Below w0.heap.size w0 w' := h.bel.trans (hb.mono h2)
  refine ⟨w', hrun, by rw [Array.size_setIfInBounds]; exact h.lsz, h.tsz, h.dfr, h.t0, hBw, ?_, ?_, ?_, ?_, ?_, ?_, ?_⟩
  · intro j q hj hq hl
    exact (h.val j q hj hq (set_old hl (by omega))).kept hk2
  · intro j hj hl
    exact getD_set_true h0
  · intro hl; exact getD_set_true h0
  · intro hl; exact h.m66 (set_old hl (by omega))
  · intro hl; exact h.m67 (set_old hl (by omega))
  · intro hl; exact getD_set_true (h.o67 (set_old hl (by omega)))
  · intro _
    refine ⟨M, _, n + 1, h1, h2, ho, by omega, fun j hj hl2 => ?_, fun nm hn => hold nm none (hn k hk) (h6 nm hn)⟩
    by_cases e : j = k
    · subst e; exact hnew
    · exact hold _ _ (fun e2 => e (nameOf_inj j k hj hk e2)) (h5 j hj (set_old hl2 (by omega)))
theorem Inv.m56 {w0 w : World} {g f : Nat} {listed : Array Bool} {a : Act} (h : Inv w0 g (f + 1) listed a w) (h0 : listed.getD 0 false = true) (hn : listed.getD 66 false = false) :
    Inv w0 g f (listed.setIfInBounds 66 true) (a.put (some 56) (a.tmps.getD 3 undef)) w := by
  refine ⟨by rw [Array.size_setIfInBounds]; exact h.lsz, by rw [put_size]; exact h.tsz, h.dfr, by rw [put_other _ _ (by omega)]; exact h.t0, h.bel, ?_, ?_, ?_, ?_, ?_, ?_, ?_⟩
  · intro j q hj hq hl
    rw [put_other _ _ (by omega)]
    exact h.val j q hj hq (set_old hl (by omega))
  · intro j hj hl; exact getD_set_true h0
  · intro hl; exact getD_set_true h0
  · intro hl
    rw [put_same _ _ _ (by rw [h.tsz]; omega), put_other _ _ (by omega)]
  · intro hl
    have h1 := h.o67 (set_old hl (by omega))
    rw [hn] at h1; cases h1
  · intro hl; exact getD_set_true (h.o67 (set_old hl (by omega)))
  · intro hl
    obtain ⟨M, D, n, h1, h2, h3, h4, h5, h6⟩ := h.mp h0
    exact ⟨M, D, n, by rw [put_other _ _ (by omega)]; exact h1, h2, h3, by omega, fun j hj hl2 => h5 j hj (set_old hl2 (by omega)), h6⟩
theorem Inv.m2 {w0 w : World} {g f : Nat} {listed : Array Bool} {a : Act} (h : Inv w0 g (f + 1) listed a w) (h6 : listed.getD 66 false = true) :
    Inv w0 g f (listed.setIfInBounds 67 true) (a.put (some 2) (a.tmps.getD 56 undef)) w := by
  have h0 := h.o66 h6
  refine ⟨by rw [Array.size_setIfInBounds]; exact h.lsz, by rw [put_size]; exact h.tsz, h.dfr, by rw [put_other _ _ (by omega)]; exact h.t0, h.bel, ?_, ?_, ?_, ?_, ?_, ?_, ?_⟩
  · intro j q hj hq hl
    rw [put_other _ _ (by omega)]
    exact h.val j q hj hq (set_old hl (by omega))
  · intro j hj hl; exact getD_set_true h0
  · intro hl; exact getD_set_true h0
  · intro hl
    rw [put_other _ _ (by omega), put_other _ _ (by omega)]
    exact h.m66 h6
  · intro hl
    rw [put_same _ _ _ (by rw [h.tsz]; omega), put_other _ _ (by omega)]
  · intro hl; exact getD_set_true h6
  · intro hl
    obtain ⟨M, D, n, h1, h2, h3, h4, h5, h6⟩ := h.mp h0
    exact ⟨M, D, n, by rw [put_other _ _ (by omega)]; exact h1, h2, h3, by omega, fun j hj hl2 => h5 j hj (set_old hl2 (by omega)), h6⟩
theorem below13 {p : Nat → Prop} (h0 : p 0) (h1 : p 1) (h2 : p 2) (h3 : p 3) (h4 : p 4) (h5 : p 5) (h6 : p 6) (h7 : p 7) (h8 : p 8) (h9 : p 9) (h10 : p 10) (h11 : p 11) (h12 : p 12) : ∀ k, k < 13 → p k := by
  intro k hk
  rcases (by omega : k = 0 ∨ k = 1 ∨ k = 2 ∨ k = 3 ∨ k = 4 ∨ k = 5 ∨ k = 6 ∨ k = 7 ∨ k = 8 ∨ k = 9 ∨ k = 10 ∨ k = 11 ∨ k = 12) with rfl | rfl | rfl | rfl | rfl | rfl | rfl | rfl | rfl | rfl | rfl | rfl | rfl <;> assumption
theorem table_at : ∀ k, k < 13 → table.lookup (nameOf k) = some (kindOf k) := by
  refine below13 ?_ ?_ ?_ ?_ ?_ ?_ ?_ ?_ ?_ ?_ ?_ ?_ ?_ <;> kernel_rfl
theorem lookup_none {l : List (Bs × Kind)} {nm : Bs} (h : ∀ p ∈ l, nm ≠ p.1) : l.lookup nm = none := by
  induction l with
  | nil => rfl
  | cons p r ih =>
    rw [List.lookup_cons]
    have h1 : (nm == p.1) = false := by simpa using h p (by simp)
    rw [h1]
    exact ih fun q hq => h q (by simp [hq])
theorem Inv.known {w0 w : World} {g f : Nat} {listed : Array Bool} {a : Act} (h : Inv w0 g f listed a w) (hall : ∀ i, i < 68 → listed.getD i false = true) :
    ∃ M, a.tmps.getD 2 undef = .map (some M) ∧ w0.heap.size ≤ M ∧ Known w g M table := by
  obtain ⟨M, D, n, h1, h2, h3, h4, h5, h6⟩ := h.mp (hall 0 (by omega))
  refine ⟨M, by rw [h.m67 (hall 67 (by omega)), h.m66 (hall 66 (by omega)), h1], h2, D, n, h3, fun nm => ?_⟩
  by_cases hx : ∃ k, k < 13 ∧ nm = nameOf k
  · obtain ⟨k, hk, rfl⟩ := hx
    rw [table_at k hk]
    exact h5 k hk (hall _ (by omega))
  · have h7 : ∀ k, k < 13 → nm ≠ nameOf k := fun k hk e => hx ⟨k, hk, e⟩
    rw [lookup_none (fun p hp => by obtain ⟨k, hk, rfl⟩ := List.mem_map.1 hp; exact h7 k (List.mem_range.1 hk))]
    exact h6 nm h7
theorem enters_flag (x : Value) (w : World) : (callFunc 57 #[x]).run Tryd.prog w = .ok (.enter 57 #[x]) w := by kernel_rfl
theorem enters_number (x y z : Value) (w : World) : (callFunc 58 #[x, y, z]).run Tryd.prog w = .ok (.enter 58 #[x, y, z]) w := by kernel_rfl
theorem field_at (g : Nat) (w : World) : ∀ k, k < 13 → (Instr.fieldAt 33 (.pointer (some ⟨g, 0, none⟩)) k).run Tryd.prog w = .ok (.pointer (some ⟨g, k, none⟩)) w := by
  refine below13 ?_ ?_ ?_ ?_ ?_ ?_ ?_ ?_ ?_ ?_ ?_ ?_ ?_ <;> kernel_rfl
theorem call_of {w w1 : World} {g k i : Nat} {ops : Array Oper} {Q : Exit → Act → World → Prop} {K : Act → World → Prop} {a : Act} {o : Oper} (hk : k < 13) (hi : ops[i]? = some o) (hgd : o.guard = none) (hop : o.op = callOf k)
    (hp : a.tmps.getD (4 * k + 6) undef = .pointer (some ⟨g, k, none⟩)) (hg : g < w.heap.size) (hK : ∀ v w', DirOf w' g (kindOf k) v → Below w.heap.size w w' → K (a.put o.dst v) w') : wpOp Tryd.prog ops Q i K a w := by
  have hf : callOf k = Op.call { callee := Callee.value (Operand.func 57), args := #[Operand.tmp (4 * k + 6)], argTypes := #[110] } → kindOf k = .flag k → wpOp Tryd.prog ops Q i K a w := by
    intro e1 e2
    refine op_call hi hgd (f := 57) (args := #[.pointer (some ⟨g, k, none⟩)]) ?_ (flag_any g k w hg) ?_
    · unfold execOp
      rw [hop, e1]
      simp only [resolve, List.map_toArray, List.map_cons, List.map_nil, Act.eval, hp]
      exact enters_flag _ _
    · rintro e w' ⟨v, rfl, hd, hb⟩
      exact ⟨v, rfl, hK v w' (by rw [e2]; exact hd) hb⟩
  have hn : ∀ b wr, callOf k = Op.call { callee := Callee.value (Operand.func 58), args := #[Operand.tmp (4 * k + 6), Operand.const (Value.int IntKind.i64 b), Operand.const (Value.int IntKind.i64 wr)], argTypes := #[112, 3, 3] } → kindOf k = .num k b wr → wpOp Tryd.prog ops Q i K a w := by
    intro b wr e1 e2
    refine op_call hi hgd (f := 58) (args := #[.pointer (some ⟨g, k, none⟩), .int .i64 b, .int .i64 wr]) ?_ (number_any g k b wr w hg) ?_
    · unfold execOp
      rw [hop, e1]
      simp only [resolve, List.map_toArray, List.map_cons, List.map_nil, Act.eval, hp]
      exact enters_number _ _ _ _
    · rintro e w' ⟨v, rfl, hd, hb⟩
      exact ⟨v, rfl, hK v w' (by rw [e2]; exact hd) hb⟩
  match k, hk with
  | 0, _ => exact hf rfl rfl
  | 1, _ => exact hf rfl rfl
  | 2, _ => exact hf rfl rfl
  | 3, _ => exact hf rfl rfl
  | 4, _ => exact hf rfl rfl
  | 5, _ => exact hf rfl rfl
  | 6, _ => exact hf rfl rfl
  | 7, _ => exact hn _ _ rfl rfl
  | 8, _ => exact hn _ _ rfl rfl
  | 9, _ => exact hn _ _ rfl rfl
  | 10, _ => exact hn _ _ rfl rfl
  | 11, _ => exact hn _ _ rfl rfl
  | 12, _ => exact hn _ _ rfl rfl
theorem Inv.step {w0 w : World} {g f i : Nat} {ops : Array Oper} {Q : Exit → Act → World → Prop} {listed : Array Bool} {a : Act} (hS : Shape ops) (hgw : g < w0.heap.size) (h : Inv w0 g (f + 1) listed a w) (hf : f + 1 ≤ 68) (hr : i ∈ Region.ready .any ops listed) :
    wpOp Tryd.prog ops Q i (fun a' w' => Inv w0 g f (listed.setIfInBounds i true) a' w') a w := by
  have hi : i < 68 := by
    obtain ⟨_, o, ho, _⟩ := mem_ready.1 hr
    have := (Array.getElem?_eq_some_iff.1 ho).1
    rw [hS.size] at this; exact this
  have hnew := ready_new hr
  have hbr : Below w.heap.size w w := Below.refl _ _
  have hex : i = 0 ∨ i = 66 ∨ i = 67 ∨ ∃ k r, k < 13 ∧ r < 5 ∧ i = 5 * k + 1 + r := by
    by_cases h0 : i = 0
    · exact .inl h0
    · by_cases h1 : i = 66
      · exact .inr (.inl h1)
      · by_cases h2 : i = 67
        · exact .inr (.inr (.inl h2))
        · exact .inr (.inr (.inr ⟨(i - 1) / 5, (i - 1) % 5, by omega, by omega, by omega⟩))
  rcases hex with rfl | rfl | rfl | ⟨k, r, hk, hr5, rfl⟩
  · obtain ⟨o, ho, hg, hd, hop⟩ := hS.made.oper
    refine op_value ho hg (v := .map (some w.heap.size)) (w' := w.alloc (.map #[] 0)) ?_ ?_
    · unfold execOp
      rw [hop]
      simp [run_makeMap, Result.andThen]
    · rw [hd]; exact h.make hnew hf
  · obtain ⟨o, ho, hg, hd, hop⟩ := hS.m66.oper
    refine op_value ho hg (v := a.tmps.getD 3 undef) (w' := w) ?_ ?_
    · unfold execOp
      rw [hop]
      rfl
    · rw [hd]; exact h.m56 (hS.w66.listed hr) hnew
  · obtain ⟨o, ho, hg, hd, hop⟩ := hS.a67.oper
    refine op_value ho hg (v := a.tmps.getD 56 undef) (w' := w) ?_ ?_
    · unfold execOp
      rw [hop]
      rfl
    · rw [hd]; exact h.m2 (hS.w67.listed hr)
  · rcases (by omega : r = 0 ∨ r = 1 ∨ r = 2 ∨ r = 3 ∨ r = 4) with rfl | rfl | rfl | rfl | rfl
    · obtain ⟨o, ho, hg, hd, hop⟩ := (hS.mv k hk).oper
      refine op_value ho hg (v := .pointer (some ⟨g, 0, none⟩)) (w' := w) ?_ ?_
      · unfold execOp
        rw [hop]
        simp only [Act.eval, h.t0]
        rfl
      · rw [hd]; exact h.name k 0 hk (by omega) _ hbr rfl
    · have h1 : a.tmps.getD (4 * k + 4) undef = .pointer (some ⟨g, 0, none⟩) := h.val k 0 hk (by omega) ((hS.ncw k hk).listed hr)
      obtain ⟨o, ho, hg, hd, hop⟩ := (hS.nc k hk).oper
      refine op_value ho hg (v := .pointer (some ⟨g, 0, none⟩)) (w' := w) ?_ ?_
      · unfold execOp
        rw [hop]
        simp only [Act.eval, h1]
        rfl
      · rw [hd]; exact h.name k 1 hk (by omega) _ hbr rfl
    · have h1 : a.tmps.getD (4 * k + 5) undef = .pointer (some ⟨g, 0, none⟩) := h.val k 1 hk (by omega) ((hS.faw k hk).listed hr)
      obtain ⟨o, ho, hg, hd, hop⟩ := (hS.fa k hk).oper
      refine op_value ho hg (v := .pointer (some ⟨g, k, none⟩)) (w' := w) ?_ ?_
      · unfold execOp
        rw [hop]
        simp only [Act.eval, h1]
        simp [field_at g w k hk, Result.andThen]
      · rw [hd]; exact h.name k 2 hk (by omega) _ hbr rfl
    · have h1 : a.tmps.getD (4 * k + 6) undef = .pointer (some ⟨g, k, none⟩) := h.val k 2 hk (by omega) ((hS.clw k hk).listed hr)
      obtain ⟨o, ho, hg, hd, hop⟩ := (hS.cl k hk).oper
      refine call_of (g := g) (w1 := w) hk ho hg hop h1 (Nat.lt_of_lt_of_le hgw h.bel.size) fun v w' hdv hb => ?_
      rw [hd]; exact h.name k 3 hk (by omega) _ hb hdv
    · obtain ⟨o, ho, hg, hd, hop⟩ := (hS.ins k hk).oper
      obtain ⟨w', hrun, hI⟩ := h.store k hk ((hS.ins0 k hk).listed hr) ((hS.insw k hk).listed hr) hf hgw
      refine op_skip ho hg (w' := w') ?_ ?_
      · unfold execOp
        rw [hop]
        simp only [Act.eval]
        generalize a.tmps.getD 3 undef = u3 at hrun ⊢
        generalize a.tmps.getD (4 * k + 7) undef = u7 at hrun ⊢
        simp [hrun, Result.andThen]
      · rw [hd]; exact hI
theorem dirs_region {w0 : World} {g : Nat} {ops : Array Oper} {Q : Exit → Act → World → Prop} {a : Act} (hS : Shape ops) (hgw : g < w0.heap.size) (h : Inv w0 g 68 (Array.replicate 68 false) a w0.drew)
    (hQ : ∀ a w, a.defers = [] → Below w0.heap.size w0 w → (∃ M, a.tmps.getD 2 undef = .map (some M) ∧ w0.heap.size ≤ M ∧ Known w g M table) → Q .normal a w) : (Code.region 1 ops true).wp Tryd.prog Q a w0 := by
  refine wp_region_any (by kernel_rfl) ?_
  rw [hS.size]
  have h1 := any_inv (P := Tryd.prog) (ops := ops) (Q := Q) (md := .any) (I := fun f listed a w => f ≤ 68 ∧ Inv w0 g f listed a w)
    (fun f listed a w i hI hr => wpOp_mono (fun a' w' h' => ⟨by have := hI.1; omega, h'⟩) (Inv.step hS hgw hI.2 hI.1 hr))
    (fun f listed a w hI hr => hQ a w hI.2.dfr hI.2.bel (hI.2.known (by have h2 := all_listed hS.fwd' (by rw [hS.size]; exact hI.2.lsz) hr; rw [hS.size] at h2; exact h2)))
    68 (Array.replicate 68 false) a w0.drew (by rw [hS.size]; exact all_unlisted 68) ⟨Nat.le_refl _, h⟩
  exact h1

theorem none_listed (i : Nat) : (Array.replicate 68 false).getD i false = false := by
  rcases Nat.lt_or_ge i 68 with h | h
  · simp [h]
  · simp [h]
set_option maxHeartbeats 8000000 in
set_option maxRecDepth 100000 in
theorem directives_any (g : Nat) (w : World) (hg : g < w.heap.size) : Calls Tryd.prog 43 #[.pointer (some ⟨g, 0, none⟩)] w fun e w' => Below w.heap.size w w' ∧ ∃ M, e = .returned (.map (some M)) ∧ w.heap.size ≤ M ∧ Known w' g M table := by
  go_enter Tryd.func43, Tryd.ntmps43
  go_wp2_with fail
  refine dirs_region (g := g) ?_ hg ?_ ?_
  · constructor
    · kernel_rfl
    · kernel_rfl
    · unfold isOp; kernel_rfl
    · refine below13 ?_ ?_ ?_ ?_ ?_ ?_ ?_ ?_ ?_ ?_ ?_ ?_ ?_ <;> (unfold isOp; kernel_rfl)
    · refine below13 ?_ ?_ ?_ ?_ ?_ ?_ ?_ ?_ ?_ ?_ ?_ ?_ ?_ <;> (unfold isOp; kernel_rfl)
    · refine below13 ?_ ?_ ?_ ?_ ?_ ?_ ?_ ?_ ?_ ?_ ?_ ?_ ?_ <;> (unfold waits; kernel_rfl)
    · refine below13 ?_ ?_ ?_ ?_ ?_ ?_ ?_ ?_ ?_ ?_ ?_ ?_ ?_ <;> (unfold isOp; kernel_rfl)
    · refine below13 ?_ ?_ ?_ ?_ ?_ ?_ ?_ ?_ ?_ ?_ ?_ ?_ ?_ <;> (unfold waits; kernel_rfl)
    · refine below13 ?_ ?_ ?_ ?_ ?_ ?_ ?_ ?_ ?_ ?_ ?_ ?_ ?_ <;> (unfold isOp; kernel_rfl)
    · refine below13 ?_ ?_ ?_ ?_ ?_ ?_ ?_ ?_ ?_ ?_ ?_ ?_ ?_ <;> (unfold waits; kernel_rfl)
    · refine below13 ?_ ?_ ?_ ?_ ?_ ?_ ?_ ?_ ?_ ?_ ?_ ?_ ?_ <;> (unfold isOp; kernel_rfl)
    · refine below13 ?_ ?_ ?_ ?_ ?_ ?_ ?_ ?_ ?_ ?_ ?_ ?_ ?_ <;> (unfold waits; kernel_rfl)
    · refine below13 ?_ ?_ ?_ ?_ ?_ ?_ ?_ ?_ ?_ ?_ ?_ ?_ ?_ <;> (unfold waits; kernel_rfl)
    · unfold isOp; kernel_rfl
    · unfold waits; kernel_rfl
    · unfold isOp; kernel_rfl
    · unfold waits; kernel_rfl
  · refine ⟨rfl, rfl, rfl, rfl, (Below.refl _ _).drew, ?_, ?_, ?_, ?_, ?_, ?_, ?_⟩
    · intro k r hk hr h; rw [none_listed] at h; cases h
    · intro k hk h; rw [none_listed] at h; cases h
    · intro h; rw [none_listed] at h; cases h
    · intro h; rw [none_listed] at h; cases h
    · intro h; rw [none_listed] at h; cases h
    · intro h; rw [none_listed] at h; cases h
    · intro h; rw [none_listed] at h; cases h
  · rename_i Qf Kf hgo
    intro a w' hd hb ⟨M, h2, hMw, hK⟩
    refine hgo a w' ?_
    go_wp2_with fail
    refine bodyPost_ret (results_tmp rfl _ _ _) hd ?_
    exact ⟨hb, M, by rw [h2], hMw, hK⟩
end Go.Proofs.YtjbdgndejbiikaaDoor.Ct
