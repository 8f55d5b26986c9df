/-
  The region of ControlNumbers that makes a text and reads it, whatever order its operations come in. No condition but what each states.
-/
import Derived.Test.YtmnnbefigepgfaaDoorCtJoin
import Derived.Test.YtmnnbefigepgfaaDoorCtDec
namespace Go.Proofs.YtmnnbefigepgfaaDoor.Ct
open Go.RowKit Go.Proofs.YtmnnbefigepgfaaDoor.Tk Go.Proofs.YtmnnbefigepgfaaDoor.Fd Go.Proofs.YtmnnbefigepgfaaDoor.Hd Go.Proofs.YtmnnbefigepgfaaDoor.Rg
set_option linter.unusedVariables false

set_option maxRecDepth 100000 in
set_option maxHeartbeats 4000000 in
theorem store13 (w : World) (g : Nat) (h : w.heap[g]? = some (.cells blank13 26 (0, 0))) (c : Con) :
    (Instr.storeAt 26 (.pointer (some ⟨g, 0, none⟩)) (.agg (cells c))).run Tryd.prog w = .ok () (set13 w g c) := by
  obtain ⟨r0, r1, r2, r3, r4, r5, r6, r7, r8, r9, r10, r11, r12⟩ := blanks h
  have g0 := free h 0
  have g1 := free h 1
  have g2 := free h 2
  have g3 := free h 3
  have g4 := free h 4
  have g5 := free h 5
  have g6 := free h 6
  have g7 := free h 7
  have g8 := free h 8
  have g9 := free h 9
  have g10 := free h 10
  have g11 := free h 11
  have g12 := free h 12
  clear h
  unfold cells
  go_simp
  rfl
/-- The texts on the way, and what is read of the last. -/
structure Way (NK A B z1 z2 z3 z4 z5 z6 Z : ByteArray) : Prop where
  e1 : ∀ W : World, (Op.stringOp .add NK ⟨#[61]⟩).run Tryd.prog W = .ok (.string z1) W
  e2 : ∀ W : World, (Op.stringOp .add z1 A).run Tryd.prog W = .ok (.string z2) W
  e3 : ∀ W : World, (Op.stringOp .add z2 ⟨#[44, 32, 80, 117, 98, 108, 105, 99, 32, 44]⟩).run Tryd.prog W = .ok (.string z3) W
  e4 : ∀ W : World, (Op.stringOp .add z3 NK).run Tryd.prog W = .ok (.string z4) W
  e5 : ∀ W : World, (Op.stringOp .add z4 ⟨#[61, 34]⟩).run Tryd.prog W = .ok (.string z5) W
  e6 : ∀ W : World, (Op.stringOp .add z5 B).run Tryd.prog W = .ok (.string z6) W
  e7 : ∀ W : World, (Op.stringOp .add z6 ⟨#[34]⟩).run Tryd.prog W = .ok (.string Z) W
/-- The slot that an operation writes. -/
def dstN (i : Nat) : Nat := if i < 20 then 24 + i else if i = 20 then 23 else 23 + i
section
variable (gn j n m : Nat) (NK A B z1 z2 z3 z4 z5 z6 Z : ByteArray) (cc : Con)
/-- What each operation leaves. -/
def valN : Nat → Value
  | 0 => .slice (some ⟨gn, 0, none⟩) 6 6
  | 1 => .int .i64 (j : Int)
  | 2 => ptr gn j
  | 3 => .string NK
  | 4 => .string z1
  | 5 => .int .i64 (n : Int)
  | 6 => .string A
  | 7 => .string z2
  | 8 => .string z3
  | 9 => .slice (some ⟨gn, 0, none⟩) 6 6
  | 10 => .int .i64 (j : Int)
  | 11 => ptr gn j
  | 12 => .string NK
  | 13 => .string z4
  | 14 => .string z5
  | 15 => .int .i64 (m : Int)
  | 16 => .string B
  | 17 => .string z6
  | 18 => .string Z
  | 19 => .tuple #[.agg (cells cc), .bool true]
  | 20 => .tuple #[.agg (cells cc), .bool true]
  | 21 => .agg (cells cc)
  | _ => .bool true
end
structure ShapeN (ops : Array Oper) : Prop where
  size : ops.size = 26
  fwd : (List.range 26).all (fun i => ((ops[i]?).map fun o => o.after.all fun e => decide (e.on < i) || !Region.binds .any e).getD true) = true
  p0 : isOpG ops 0 none (some 24) (Op.move (.tmp 7))
  p1 : isOpG ops 1 none (some 25) (Op.move (.tmp 8))
  p2 : isOpG ops 2 none (some 26) (Op.indexAddr 33 (.tmp 24) (.tmp 25))
  w2_0 : waits ops 2 0
  w2_1 : waits ops 2 1
  p3 : isOpG ops 3 none (some 27) (Op.load 9 (.tmp 26))
  w3_2 : waits ops 3 2
  p4 : isOpG ops 4 none (some 28) (Op.binOp .add 9 (.tmp 27) (.const (.string ⟨#[61]⟩)) 9)
  w4_3 : waits ops 4 3
  p5 : isOpG ops 5 none (some 29) (Op.move (.tmp 0))
  p6 : isOpG ops 6 none (some 30) (Op.call { callee := .value (.func 11), args := #[.tmp 29], argTypes := #[3] })
  w6_5 : waits ops 6 5
  p7 : isOpG ops 7 none (some 31) (Op.binOp .add 9 (.tmp 28) (.tmp 30) 9)
  w7_4 : waits ops 7 4
  w7_6 : waits ops 7 6
  p8 : isOpG ops 8 none (some 32) (Op.binOp .add 9 (.tmp 31) (.const (.string ⟨#[44, 32, 80, 117, 98, 108, 105, 99, 32, 44]⟩)) 9)
  w8_7 : waits ops 8 7
  p9 : isOpG ops 9 none (some 33) (Op.move (.tmp 7))
  p10 : isOpG ops 10 none (some 34) (Op.move (.tmp 8))
  p11 : isOpG ops 11 none (some 35) (Op.indexAddr 33 (.tmp 33) (.tmp 34))
  w11_9 : waits ops 11 9
  w11_10 : waits ops 11 10
  p12 : isOpG ops 12 none (some 36) (Op.load 9 (.tmp 35))
  w12_11 : waits ops 12 11
  p13 : isOpG ops 13 none (some 37) (Op.binOp .add 9 (.tmp 32) (.tmp 36) 9)
  w13_8 : waits ops 13 8
  w13_12 : waits ops 13 12
  p14 : isOpG ops 14 none (some 38) (Op.binOp .add 9 (.tmp 37) (.const (.string ⟨#[61, 34]⟩)) 9)
  w14_13 : waits ops 14 13
  p15 : isOpG ops 15 none (some 39) (Op.move (.tmp 1))
  p16 : isOpG ops 16 none (some 40) (Op.call { callee := .value (.func 11), args := #[.tmp 39], argTypes := #[3] })
  w16_15 : waits ops 16 15
  p17 : isOpG ops 17 none (some 41) (Op.binOp .add 9 (.tmp 38) (.tmp 40) 9)
  w17_14 : waits ops 17 14
  w17_16 : waits ops 17 16
  p18 : isOpG ops 18 none (some 42) (Op.binOp .add 9 (.tmp 41) (.const (.string ⟨#[34]⟩)) 9)
  w18_17 : waits ops 18 17
  p19 : isOpG ops 19 none (some 43) (Op.call { callee := .value (.func 6), args := #[.tmp 42], argTypes := #[9] })
  w19_18 : waits ops 19 18
  p20 : isOpG ops 20 none (some 23) (Op.move (.tmp 43))
  w20_19 : waits ops 20 19
  p21 : isOpG ops 21 none (some 44) (Op.extract (.tmp 23) 0)
  w21_20 : waits ops 21 20
  p22 : isOpG ops 22 none (some 45) (Op.extract (.tmp 23) 1)
  w22_20 : waits ops 22 20
  al : isOpG ops 23 none (some 9) (Op.alloc 26)
  st : isOpG ops 24 none none (Op.store 26 (.tmp 9) (.tmp 44))
  st23 : waits ops 24 23
  st21 : waits ops 24 21
  a25 : isOpG ops 25 none (some 10) (Op.assign (.tmp 45))
  a25w : waits ops 25 22
/-- More: where no more may come up, all have come up, if each waits for earlier ones alone. -/
theorem all_listed_b {ops : Array Oper} {listed : Array Bool} (hfwd : ∀ (i : Nat) (o : Oper), ops[i]? = some o → ∀ e ∈ o.after, Region.binds .any e = true → e.on < i) (hsz : listed.size = ops.size) (hr : Region.ready .any ops listed = []) : ∀ i, i < ops.size → listed.getD i false = true := by
  intro i
  induction i using Nat.strongRecOn with
  | ind i ih =>
    intro hi
    cases hl : listed.getD i false with
    | true => rfl
    | false =>
      exfalso
      have h1 : listed.getD i true = false := by
        have hlt : i < listed.size := by omega
        simp [hlt] at hl ⊢
        exact hl
      have h2 : i ∈ Region.ready .any ops listed := mem_ready.2 ⟨h1, ops[i], Array.getElem?_eq_getElem hi, fun e he hb => ih e.on (hfwd i ops[i] (Array.getElem?_eq_getElem hi) e he hb) (by have := hfwd i ops[i] (Array.getElem?_eq_getElem hi) e he hb; omega)⟩
      rw [hr] at h2
      cases h2
theorem ShapeN.fwd' {ops : Array Oper} (h : ShapeN ops) (i : Nat) (o : Oper) (ho : ops[i]? = some o) : ∀ e ∈ o.after, Region.binds .any e = true → e.on < i := by
  have hi : i < 26 := by have := (Array.getElem?_eq_some_iff.1 ho).1; rw [h.size] at this; exact this
  have h1 := List.all_eq_true.1 h.fwd i (List.mem_range.2 hi)
  rw [ho] at h1
  intro e he hb
  have h2 := Array.all_eq_true_iff_forall_mem.1 h1 e he
  rw [hb] at h2
  simpa using h2
theorem dstN_ne {i k : Nat} (h : i ≠ k) : dstN i ≠ dstN k := by
  unfold dstN
  by_cases a : i < 20 <;> by_cases b : i = 20 <;> by_cases c : k < 20 <;> by_cases d : k = 20 <;> simp [a, b, c, d] <;> omega
theorem dstN_ge (i : Nat) : 23 ≤ dstN i := by unfold dstN; split <;> (try split) <;> omega
theorem dstN_lt {i : Nat} (h : i < 23) : dstN i < 99 := by unfold dstN; split <;> (try split) <;> omega
section
variable {gn j n m : Nat} {NK A B z1 z2 z3 z4 z5 z6 Z : ByteArray} {cc : Con}
/-- What holds whatever has come up. -/
structure InvN (gn j n m : Nat) (NK A B z1 z2 z3 z4 z5 z6 Z : ByteArray) (cc : Con) (Wn : World) (a0 : Array Value) (listed : Array Bool) (a : Act) (w : World) : Prop where
  lsz : listed.size = 26
  tsz : a.tmps.size = 99
  dfr : a.defers = []
  low : ∀ t, t < 9 → a.tmps.getD t undef = a0.getD t undef
  bel : Below Wn.heap.size Wn w
  val : ∀ i, i < 23 → listed.getD i false = true → a.tmps.getD (dstN i) undef = valN gn j n m NK A B z1 z2 z3 z4 z5 z6 Z cc i
  al : listed.getD 23 false = true → ∃ g, a.tmps.getD 9 undef = ptr g 0 ∧ Wn.heap.size ≤ g ∧ w.heap[g]? = some (.cells (if listed.getD 24 false then cells cc else blank13) 26 (0, 0))
  o24 : listed.getD 24 false = true → listed.getD 23 false = true
  a25 : listed.getD 25 false = true → a.tmps.getD 10 undef = .bool true
theorem InvN.name {Wn w w' : World} {a0 : Array Value} {listed : Array Bool} {a : Act} (h : InvN gn j n m NK A B z1 z2 z3 z4 z5 z6 Z cc Wn a0 listed a w) (i : Nat) (hi : i < 23) (hb : Below w.heap.size w w') :
    InvN gn j n m NK A B z1 z2 z3 z4 z5 z6 Z cc Wn a0 (listed.setIfInBounds i true) (a.put (some (dstN i)) (valN gn j n m NK A B z1 z2 z3 z4 z5 z6 Z cc i)) w' := by
  have hd := dstN_ge i
  refine ⟨by rw [Array.size_setIfInBounds]; exact h.lsz, by rw [put_size]; exact h.tsz, h.dfr, fun t ht => by rw [put_other _ _ (by omega)]; exact h.low t ht, Bl.next h.bel hb, ?_, ?_, ?_, ?_⟩
  · intro k hk hl
    by_cases e : k = i
    · subst e; rw [put_same _ _ _ (by rw [h.tsz]; exact dstN_lt hi)]
    · rw [put_other _ _ (dstN_ne e)]; exact h.val k hk (set_old hl e)
  · intro hl
    obtain ⟨g, h1, h2, h3⟩ := h.al (set_old hl (by omega))
    refine ⟨g, by rw [put_other _ _ (by omega)]; exact h1, h2, ?_⟩
    rw [getD_set_ne false (by omega)]
    exact Bl.old hb (block_lt h3) h3
  · intro hl; exact getD_set_true (h.o24 (set_old hl (by omega)))
  · intro hl; rw [put_other _ _ (by omega)]; exact h.a25 (set_old hl (by omega))
theorem InvN.make {Wn w : World} {a0 : Array Value} {listed : Array Bool} {a : Act} (h : InvN gn j n m NK A B z1 z2 z3 z4 z5 z6 Z cc Wn a0 listed a w) (hn : listed.getD 23 false = false) :
    InvN gn j n m NK A B z1 z2 z3 z4 z5 z6 Z cc Wn a0 (listed.setIfInBounds 23 true) (a.put (some 9) (ptr w.heap.size 0)) (w.alloc (.cells blank13 26)) := by
  have hb : Below w.heap.size w (w.alloc (.cells blank13 26)) := (Below.refl _ _).alloc (Nat.le_refl _) _
  have h74 : listed.getD 24 false = false := by
    cases h4 : listed.getD 24 false with
    | false => rfl
    | true => rw [h.o24 h4] at hn; cases hn
  refine ⟨by rw [Array.size_setIfInBounds]; exact h.lsz, by rw [put_size]; exact h.tsz, h.dfr, fun t ht => by rw [put_other _ _ (by omega)]; exact h.low t ht, Bl.next h.bel hb, ?_, ?_, ?_, ?_⟩
  · intro k hk hl
    have := dstN_ge k
    rw [put_other _ _ (by omega)]; exact h.val k hk (set_old hl (by omega))
  · intro _
    refine ⟨w.heap.size, by rw [put_same _ _ _ (by rw [h.tsz]; omega)], h.bel.size, ?_⟩
    rw [getD_set_ne false (by omega), h74]
    exact new_block _ _
  · intro hl; rw [set_old hl (by omega)] at h74; cases h74
  · intro hl; rw [put_other _ _ (by omega)]; exact h.a25 (set_old hl (by omega))
theorem InvN.store {Wn w : World} {a0 : Array Value} {listed : Array Bool} {a : Act} (h : InvN gn j n m NK A B z1 z2 z3 z4 z5 z6 Z cc Wn a0 listed a w) (hn : listed.getD 24 false = false) (h3 : listed.getD 23 false = true) (h2 : listed.getD 21 false = true) :
    ∃ g, a.tmps.getD 9 undef = ptr g 0 ∧ a.tmps.getD 44 undef = .agg (cells cc) ∧ w.heap[g]? = some (.cells blank13 26 (0, 0)) ∧ InvN gn j n m NK A B z1 z2 z3 z4 z5 z6 Z cc Wn a0 (listed.setIfInBounds 24 true) (a.put none undef) (set13 w g cc) := by
  obtain ⟨g, h4, h5, h6⟩ := h.al h3
  rw [hn] at h6
  refine ⟨g, h4, h.val 21 (by omega) h2, h6, by rw [Array.size_setIfInBounds]; exact h.lsz, h.tsz, h.dfr, h.low, set13_below h.bel h5 cc, ?_, ?_, ?_, ?_⟩
  · intro k hk hl; exact h.val k hk (set_old hl (by omega))
  · intro _
    refine ⟨g, h4, h5, ?_⟩
    have e1 : (listed.setIfInBounds 24 true).getD 24 false = true := by have := h.lsz; simp [this]
    rw [e1]
    exact set13_at h6 cc
  · intro _; exact getD_set_true h3
  · intro hl; exact h.a25 (set_old hl (by omega))
theorem InvN.last {Wn w : World} {a0 : Array Value} {listed : Array Bool} {a : Act} (h : InvN gn j n m NK A B z1 z2 z3 z4 z5 z6 Z cc Wn a0 listed a w) :
    InvN gn j n m NK A B z1 z2 z3 z4 z5 z6 Z cc Wn a0 (listed.setIfInBounds 25 true) (a.put (some 10) (.bool true)) w := by
  refine ⟨by rw [Array.size_setIfInBounds]; exact h.lsz, by rw [put_size]; exact h.tsz, h.dfr, fun t ht => by rw [put_other _ _ (by omega)]; exact h.low t ht, h.bel, ?_, ?_, ?_, ?_⟩
  · intro k hk hl
    have := dstN_ge k
    rw [put_other _ _ (by omega)]; exact h.val k hk (set_old hl (by omega))
  · intro hl
    obtain ⟨g, h1, h2, h3⟩ := h.al (set_old hl (by omega))
    refine ⟨g, by rw [put_other _ _ (by omega)]; exact h1, h2, ?_⟩
    rw [getD_set_ne false (by omega)]
    exact h3
  · intro hl; exact getD_set_true (h.o24 (set_old hl (by omega)))
  · intro _; rw [put_same _ _ _ (by rw [h.tsz]; omega)]
theorem enters_num (x : Value) (w : World) : (callFunc 11 #[x]).run Tryd.prog w = .ok (.enter 11 #[x]) w := by kernel_rfl
theorem enters_parse (x : Value) (w : World) : (callFunc 6 #[x]).run Tryd.prog w = .ok (.enter 6 #[x]) w := by kernel_rfl
theorem index_six (g j : Nat) (hj : j < 6) (w : World) : (Instr.indexAt 33 (.slice (some ⟨g, 0, none⟩) 6 6) (.int .i64 (j : Int))).run Tryd.prog w = .ok (ptr g j) w := by
  have h0 : (0 : Int) ≤ (j : Int) := by omega
  have h1 : (j : Int) < 6 := by omega
  unfold ptr
  go_simp
theorem load_text {w : World} {g k : Nat} {s : ByteArray} (h : w.cell? ⟨g, k, none⟩ = some (.string s)) : (Instr.loadAt 9 (ptr g k)).run Tryd.prog w = .ok (.string s) w := by
  unfold ptr
  go_simp
theorem add_texts {x y z : ByteArray} {w : World} (p q : Operand) (h : ∀ W : World, (Op.stringOp .add x y).run Tryd.prog W = .ok (.string z) W) : (do eqGuard .add 9 p q (.string x) (.string y); binOp .add 9 (.string x) (.string y)).run Tryd.prog w = .ok (.string z) w := by
  go_simp
/-- What the region stands on. -/
structure HypN (gn j n m : Nat) (NK A B z1 z2 z3 z4 z5 z6 Z : ByteArray) (cc : Con) (Wn : World) (a0 : Array Value) : Prop where
  j6 : j < 6
  cell : ∀ W : World, Below Wn.heap.size Wn W → W.cell? ⟨gn, j, none⟩ = some (.string NK)
  s0 : a0.getD 0 undef = .int .i64 (n : Int)
  s1 : a0.getD 1 undef = .int .i64 (m : Int)
  s7 : a0.getD 7 undef = .slice (some ⟨gn, 0, none⟩) 6 6
  s8 : a0.getD 8 undef = .int .i64 (j : Int)
  way : Way NK A B z1 z2 z3 z4 z5 z6 Z
  nA : ∀ W : World, Calls Tryd.prog 11 #[.int .i64 (n : Int)] W fun e w' => e = .returned (.string A) ∧ W = w'
  nB : ∀ W : World, Calls Tryd.prog 11 #[.int .i64 (m : Int)] W fun e w' => e = .returned (.string B) ∧ W = w'
  prs : ∀ W : World, Below Wn.heap.size Wn W → Calls Tryd.prog 6 #[.string Z] W fun e w' => e = .returned (.tuple #[.agg (cells cc), .bool true]) ∧ Below W.heap.size W w'
theorem InvN.step {Wn w : World} {a0 : Array Value} {ops : Array Oper} {Q : Exit → Act → World → Prop} {listed : Array Bool} {a : Act} {i : Nat} (hS : ShapeN ops) (H : HypN gn j n m NK A B z1 z2 z3 z4 z5 z6 Z cc Wn a0) (h : InvN gn j n m NK A B z1 z2 z3 z4 z5 z6 Z cc Wn a0 listed a w) (hr : i ∈ Region.ready .any ops listed) :
    wpOp Tryd.prog ops Q i (fun a' w' => InvN gn j n m NK A B z1 z2 z3 z4 z5 z6 Z cc Wn a0 (listed.setIfInBounds i true) a' w') a w := by
  have hi : i < 26 := by
    obtain ⟨_, o, ho, _⟩ := mem_ready.1 hr
    have := (Array.getElem?_eq_some_iff.1 ho).1
    rw [hS.size] at this; exact this
  have hnew := ready_new hr
  have hbr : Below w.heap.size w w := Below.refl _ _
  have t0 := (h.low 0 (by omega)).trans H.s0
  have t1 := (h.low 1 (by omega)).trans H.s1
  have t7 := (h.low 7 (by omega)).trans H.s7
  have t8 := (h.low 8 (by omega)).trans H.s8
  have hcl := H.cell w h.bel
  rcases (by omega : i = 0 ∨ i = 1 ∨ i = 2 ∨ i = 3 ∨ i = 4 ∨ i = 5 ∨ i = 6 ∨ i = 7 ∨ i = 8 ∨ i = 9 ∨ i = 10 ∨ i = 11 ∨ i = 12 ∨ i = 13 ∨ i = 14 ∨ i = 15 ∨ i = 16 ∨ i = 17 ∨ i = 18 ∨ i = 19 ∨ i = 20 ∨ i = 21 ∨ i = 22 ∨ i = 23 ∨ i = 24 ∨ i = 25) with rfl | rfl | rfl | rfl | rfl | rfl | rfl | rfl | rfl | rfl | rfl | rfl | rfl | rfl | rfl | rfl | rfl | rfl | rfl | rfl | rfl | rfl | rfl | rfl | rfl | rfl
  · obtain ⟨o, ho, hg, hd, hop⟩ := hS.p0.oper
    have hput := fun (w2 : World) (hb : Below w.heap.size w w2) => h.name 0 (by omega) hb
    simp only [show dstN 0 = 24 from rfl] at hput
    refine op_value ho hg (v := valN gn j n m NK A B z1 z2 z3 z4 z5 z6 Z cc 0) (w' := w) ?_ ?_
    · unfold execOp
      rw [hop]
      simp only [Act.eval, t7]
      rfl
    · rw [hd]; exact hput w hbr
  · obtain ⟨o, ho, hg, hd, hop⟩ := hS.p1.oper
    have hput := fun (w2 : World) (hb : Below w.heap.size w w2) => h.name 1 (by omega) hb
    simp only [show dstN 1 = 25 from rfl] at hput
    refine op_value ho hg (v := valN gn j n m NK A B z1 z2 z3 z4 z5 z6 Z cc 1) (w' := w) ?_ ?_
    · unfold execOp
      rw [hop]
      simp only [Act.eval, t8]
      rfl
    · rw [hd]; exact hput w hbr
  · obtain ⟨o, ho, hg, hd, hop⟩ := hS.p2.oper
    have e0 : a.tmps.getD 24 undef = valN gn j n m NK A B z1 z2 z3 z4 z5 z6 Z cc 0 := h.val 0 (by omega) (hS.w2_0.listed hr)
    have e1 : a.tmps.getD 25 undef = valN gn j n m NK A B z1 z2 z3 z4 z5 z6 Z cc 1 := h.val 1 (by omega) (hS.w2_1.listed hr)
    unfold valN at e0 e1
    have hput := fun (w2 : World) (hb : Below w.heap.size w w2) => h.name 2 (by omega) hb
    simp only [show dstN 2 = 26 from rfl] at hput
    refine op_value ho hg (v := valN gn j n m NK A B z1 z2 z3 z4 z5 z6 Z cc 2) (w' := w) ?_ ?_
    · unfold execOp
      rw [hop]
      simp only [Act.eval, e0, e1]
      rw [Sem.run_bind, index_six gn j H.j6 w]
      rfl
    · rw [hd]; exact hput w hbr
  · obtain ⟨o, ho, hg, hd, hop⟩ := hS.p3.oper
    have e2 : a.tmps.getD 26 undef = valN gn j n m NK A B z1 z2 z3 z4 z5 z6 Z cc 2 := h.val 2 (by omega) (hS.w3_2.listed hr)
    unfold valN at e2
    have hput := fun (w2 : World) (hb : Below w.heap.size w w2) => h.name 3 (by omega) hb
    simp only [show dstN 3 = 27 from rfl] at hput
    refine op_value ho hg (v := valN gn j n m NK A B z1 z2 z3 z4 z5 z6 Z cc 3) (w' := w) ?_ ?_
    · unfold execOp
      rw [hop]
      simp only [Act.eval, e2]
      rw [Sem.run_bind, load_text hcl]
      rfl
    · rw [hd]; exact hput w hbr
  · obtain ⟨o, ho, hg, hd, hop⟩ := hS.p4.oper
    have e3 : a.tmps.getD 27 undef = valN gn j n m NK A B z1 z2 z3 z4 z5 z6 Z cc 3 := h.val 3 (by omega) (hS.w4_3.listed hr)
    unfold valN at e3
    have hput := fun (w2 : World) (hb : Below w.heap.size w w2) => h.name 4 (by omega) hb
    simp only [show dstN 4 = 28 from rfl] at hput
    refine op_value ho hg (v := valN gn j n m NK A B z1 z2 z3 z4 z5 z6 Z cc 4) (w' := w) ?_ ?_
    · unfold execOp
      rw [hop]
      simp only [Act.eval, e3]
      rw [Sem.run_bind, add_texts _ _ H.way.e1]
      rfl
    · rw [hd]; exact hput w hbr
  · obtain ⟨o, ho, hg, hd, hop⟩ := hS.p5.oper
    have hput := fun (w2 : World) (hb : Below w.heap.size w w2) => h.name 5 (by omega) hb
    simp only [show dstN 5 = 29 from rfl] at hput
    refine op_value ho hg (v := valN gn j n m NK A B z1 z2 z3 z4 z5 z6 Z cc 5) (w' := w) ?_ ?_
    · unfold execOp
      rw [hop]
      simp only [Act.eval, t0]
      rfl
    · rw [hd]; exact hput w hbr
  · obtain ⟨o, ho, hg, hd, hop⟩ := hS.p6.oper
    have e5 : a.tmps.getD 29 undef = valN gn j n m NK A B z1 z2 z3 z4 z5 z6 Z cc 5 := h.val 5 (by omega) (hS.w6_5.listed hr)
    unfold valN at e5
    have hput := fun (w2 : World) (hb : Below w.heap.size w w2) => h.name 6 (by omega) hb
    simp only [show dstN 6 = 30 from rfl] at hput
    refine op_call ho hg (f := 11) (args := #[.int .i64 (n : Int)]) ?_ (H.nA w) ?_
    · unfold execOp
      rw [hop]
      simp only [resolve, List.map_toArray, List.map_cons, List.map_nil, Act.eval, e5]
      exact enters_num _ _
    · rintro e w' ⟨rfl, rfl⟩
      refine ⟨_, rfl, ?_⟩
      rw [hd]; exact hput _ hbr
  · obtain ⟨o, ho, hg, hd, hop⟩ := hS.p7.oper
    have e4 : a.tmps.getD 28 undef = valN gn j n m NK A B z1 z2 z3 z4 z5 z6 Z cc 4 := h.val 4 (by omega) (hS.w7_4.listed hr)
    have e6 : a.tmps.getD 30 undef = valN gn j n m NK A B z1 z2 z3 z4 z5 z6 Z cc 6 := h.val 6 (by omega) (hS.w7_6.listed hr)
    unfold valN at e4 e6
    have hput := fun (w2 : World) (hb : Below w.heap.size w w2) => h.name 7 (by omega) hb
    simp only [show dstN 7 = 31 from rfl] at hput
    refine op_value ho hg (v := valN gn j n m NK A B z1 z2 z3 z4 z5 z6 Z cc 7) (w' := w) ?_ ?_
    · unfold execOp
      rw [hop]
      simp only [Act.eval, e4, e6]
      rw [Sem.run_bind, add_texts _ _ H.way.e2]
      rfl
    · rw [hd]; exact hput w hbr
  · obtain ⟨o, ho, hg, hd, hop⟩ := hS.p8.oper
    have e7 : a.tmps.getD 31 undef = valN gn j n m NK A B z1 z2 z3 z4 z5 z6 Z cc 7 := h.val 7 (by omega) (hS.w8_7.listed hr)
    unfold valN at e7
    have hput := fun (w2 : World) (hb : Below w.heap.size w w2) => h.name 8 (by omega) hb
    simp only [show dstN 8 = 32 from rfl] at hput
    refine op_value ho hg (v := valN gn j n m NK A B z1 z2 z3 z4 z5 z6 Z cc 8) (w' := w) ?_ ?_
    · unfold execOp
      rw [hop]
      simp only [Act.eval, e7]
      rw [Sem.run_bind, add_texts _ _ H.way.e3]
      rfl
    · rw [hd]; exact hput w hbr
  · obtain ⟨o, ho, hg, hd, hop⟩ := hS.p9.oper
    have hput := fun (w2 : World) (hb : Below w.heap.size w w2) => h.name 9 (by omega) hb
    simp only [show dstN 9 = 33 from rfl] at hput
    refine op_value ho hg (v := valN gn j n m NK A B z1 z2 z3 z4 z5 z6 Z cc 9) (w' := w) ?_ ?_
    · unfold execOp
      rw [hop]
      simp only [Act.eval, t7]
      rfl
    · rw [hd]; exact hput w hbr
  · obtain ⟨o, ho, hg, hd, hop⟩ := hS.p10.oper
    have hput := fun (w2 : World) (hb : Below w.heap.size w w2) => h.name 10 (by omega) hb
    simp only [show dstN 10 = 34 from rfl] at hput
    refine op_value ho hg (v := valN gn j n m NK A B z1 z2 z3 z4 z5 z6 Z cc 10) (w' := w) ?_ ?_
    · unfold execOp
      rw [hop]
      simp only [Act.eval, t8]
      rfl
    · rw [hd]; exact hput w hbr
  · obtain ⟨o, ho, hg, hd, hop⟩ := hS.p11.oper
    have e9 : a.tmps.getD 33 undef = valN gn j n m NK A B z1 z2 z3 z4 z5 z6 Z cc 9 := h.val 9 (by omega) (hS.w11_9.listed hr)
    have e10 : a.tmps.getD 34 undef = valN gn j n m NK A B z1 z2 z3 z4 z5 z6 Z cc 10 := h.val 10 (by omega) (hS.w11_10.listed hr)
    unfold valN at e9 e10
    have hput := fun (w2 : World) (hb : Below w.heap.size w w2) => h.name 11 (by omega) hb
    simp only [show dstN 11 = 35 from rfl] at hput
    refine op_value ho hg (v := valN gn j n m NK A B z1 z2 z3 z4 z5 z6 Z cc 11) (w' := w) ?_ ?_
    · unfold execOp
      rw [hop]
      simp only [Act.eval, e9, e10]
      rw [Sem.run_bind, index_six gn j H.j6 w]
      rfl
    · rw [hd]; exact hput w hbr
  · obtain ⟨o, ho, hg, hd, hop⟩ := hS.p12.oper
    have e11 : a.tmps.getD 35 undef = valN gn j n m NK A B z1 z2 z3 z4 z5 z6 Z cc 11 := h.val 11 (by omega) (hS.w12_11.listed hr)
    unfold valN at e11
    have hput := fun (w2 : World) (hb : Below w.heap.size w w2) => h.name 12 (by omega) hb
    simp only [show dstN 12 = 36 from rfl] at hput
    refine op_value ho hg (v := valN gn j n m NK A B z1 z2 z3 z4 z5 z6 Z cc 12) (w' := w) ?_ ?_
    · unfold execOp
      rw [hop]
      simp only [Act.eval, e11]
      rw [Sem.run_bind, load_text hcl]
      rfl
    · rw [hd]; exact hput w hbr
  · obtain ⟨o, ho, hg, hd, hop⟩ := hS.p13.oper
    have e8 : a.tmps.getD 32 undef = valN gn j n m NK A B z1 z2 z3 z4 z5 z6 Z cc 8 := h.val 8 (by omega) (hS.w13_8.listed hr)
    have e12 : a.tmps.getD 36 undef = valN gn j n m NK A B z1 z2 z3 z4 z5 z6 Z cc 12 := h.val 12 (by omega) (hS.w13_12.listed hr)
    unfold valN at e8 e12
    have hput := fun (w2 : World) (hb : Below w.heap.size w w2) => h.name 13 (by omega) hb
    simp only [show dstN 13 = 37 from rfl] at hput
    refine op_value ho hg (v := valN gn j n m NK A B z1 z2 z3 z4 z5 z6 Z cc 13) (w' := w) ?_ ?_
    · unfold execOp
      rw [hop]
      simp only [Act.eval, e8, e12]
      rw [Sem.run_bind, add_texts _ _ H.way.e4]
      rfl
    · rw [hd]; exact hput w hbr
  · obtain ⟨o, ho, hg, hd, hop⟩ := hS.p14.oper
    have e13 : a.tmps.getD 37 undef = valN gn j n m NK A B z1 z2 z3 z4 z5 z6 Z cc 13 := h.val 13 (by omega) (hS.w14_13.listed hr)
    unfold valN at e13
    have hput := fun (w2 : World) (hb : Below w.heap.size w w2) => h.name 14 (by omega) hb
    simp only [show dstN 14 = 38 from rfl] at hput
    refine op_value ho hg (v := valN gn j n m NK A B z1 z2 z3 z4 z5 z6 Z cc 14) (w' := w) ?_ ?_
    · unfold execOp
      rw [hop]
      simp only [Act.eval, e13]
      rw [Sem.run_bind, add_texts _ _ H.way.e5]
      rfl
    · rw [hd]; exact hput w hbr
  · obtain ⟨o, ho, hg, hd, hop⟩ := hS.p15.oper
    have hput := fun (w2 : World) (hb : Below w.heap.size w w2) => h.name 15 (by omega) hb
    simp only [show dstN 15 = 39 from rfl] at hput
    refine op_value ho hg (v := valN gn j n m NK A B z1 z2 z3 z4 z5 z6 Z cc 15) (w' := w) ?_ ?_
    · unfold execOp
      rw [hop]
      simp only [Act.eval, t1]
      rfl
    · rw [hd]; exact hput w hbr
  · obtain ⟨o, ho, hg, hd, hop⟩ := hS.p16.oper
    have e15 : a.tmps.getD 39 undef = valN gn j n m NK A B z1 z2 z3 z4 z5 z6 Z cc 15 := h.val 15 (by omega) (hS.w16_15.listed hr)
    unfold valN at e15
    have hput := fun (w2 : World) (hb : Below w.heap.size w w2) => h.name 16 (by omega) hb
    simp only [show dstN 16 = 40 from rfl] at hput
    refine op_call ho hg (f := 11) (args := #[.int .i64 (m : Int)]) ?_ (H.nB w) ?_
    · unfold execOp
      rw [hop]
      simp only [resolve, List.map_toArray, List.map_cons, List.map_nil, Act.eval, e15]
      exact enters_num _ _
    · rintro e w' ⟨rfl, rfl⟩
      refine ⟨_, rfl, ?_⟩
      rw [hd]; exact hput _ hbr
  · obtain ⟨o, ho, hg, hd, hop⟩ := hS.p17.oper
    have e14 : a.tmps.getD 38 undef = valN gn j n m NK A B z1 z2 z3 z4 z5 z6 Z cc 14 := h.val 14 (by omega) (hS.w17_14.listed hr)
    have e16 : a.tmps.getD 40 undef = valN gn j n m NK A B z1 z2 z3 z4 z5 z6 Z cc 16 := h.val 16 (by omega) (hS.w17_16.listed hr)
    unfold valN at e14 e16
    have hput := fun (w2 : World) (hb : Below w.heap.size w w2) => h.name 17 (by omega) hb
    simp only [show dstN 17 = 41 from rfl] at hput
    refine op_value ho hg (v := valN gn j n m NK A B z1 z2 z3 z4 z5 z6 Z cc 17) (w' := w) ?_ ?_
    · unfold execOp
      rw [hop]
      simp only [Act.eval, e14, e16]
      rw [Sem.run_bind, add_texts _ _ H.way.e6]
      rfl
    · rw [hd]; exact hput w hbr
  · obtain ⟨o, ho, hg, hd, hop⟩ := hS.p18.oper
    have e17 : a.tmps.getD 41 undef = valN gn j n m NK A B z1 z2 z3 z4 z5 z6 Z cc 17 := h.val 17 (by omega) (hS.w18_17.listed hr)
    unfold valN at e17
    have hput := fun (w2 : World) (hb : Below w.heap.size w w2) => h.name 18 (by omega) hb
    simp only [show dstN 18 = 42 from rfl] at hput
    refine op_value ho hg (v := valN gn j n m NK A B z1 z2 z3 z4 z5 z6 Z cc 18) (w' := w) ?_ ?_
    · unfold execOp
      rw [hop]
      simp only [Act.eval, e17]
      rw [Sem.run_bind, add_texts _ _ H.way.e7]
      rfl
    · rw [hd]; exact hput w hbr
  · obtain ⟨o, ho, hg, hd, hop⟩ := hS.p19.oper
    have e18 : a.tmps.getD 42 undef = valN gn j n m NK A B z1 z2 z3 z4 z5 z6 Z cc 18 := h.val 18 (by omega) (hS.w19_18.listed hr)
    unfold valN at e18
    have hput := fun (w2 : World) (hb : Below w.heap.size w w2) => h.name 19 (by omega) hb
    simp only [show dstN 19 = 43 from rfl] at hput
    refine op_call ho hg (f := 6) (args := #[.string Z]) ?_ (H.prs w h.bel) ?_
    · unfold execOp
      rw [hop]
      simp only [resolve, List.map_toArray, List.map_cons, List.map_nil, Act.eval, e18]
      exact enters_parse _ _
    · rintro e w' ⟨rfl, hb⟩
      refine ⟨_, rfl, ?_⟩
      rw [hd]; exact hput _ hb
  · obtain ⟨o, ho, hg, hd, hop⟩ := hS.p20.oper
    have e19 : a.tmps.getD 43 undef = valN gn j n m NK A B z1 z2 z3 z4 z5 z6 Z cc 19 := h.val 19 (by omega) (hS.w20_19.listed hr)
    unfold valN at e19
    have hput := fun (w2 : World) (hb : Below w.heap.size w w2) => h.name 20 (by omega) hb
    simp only [show dstN 20 = 23 from rfl] at hput
    refine op_value ho hg (v := valN gn j n m NK A B z1 z2 z3 z4 z5 z6 Z cc 20) (w' := w) ?_ ?_
    · unfold execOp
      rw [hop]
      simp only [Act.eval, e19]
      rfl
    · rw [hd]; exact hput w hbr
  · obtain ⟨o, ho, hg, hd, hop⟩ := hS.p21.oper
    have e20 : a.tmps.getD 23 undef = valN gn j n m NK A B z1 z2 z3 z4 z5 z6 Z cc 20 := h.val 20 (by omega) (hS.w21_20.listed hr)
    unfold valN at e20
    have hput := fun (w2 : World) (hb : Below w.heap.size w w2) => h.name 21 (by omega) hb
    simp only [show dstN 21 = 44 from rfl] at hput
    refine op_value ho hg (v := valN gn j n m NK A B z1 z2 z3 z4 z5 z6 Z cc 21) (w' := w) ?_ ?_
    · unfold execOp
      rw [hop]
      simp only [Act.eval, e20]
      rfl
    · rw [hd]; exact hput w hbr
  · obtain ⟨o, ho, hg, hd, hop⟩ := hS.p22.oper
    have e20 : a.tmps.getD 23 undef = valN gn j n m NK A B z1 z2 z3 z4 z5 z6 Z cc 20 := h.val 20 (by omega) (hS.w22_20.listed hr)
    unfold valN at e20
    have hput := fun (w2 : World) (hb : Below w.heap.size w w2) => h.name 22 (by omega) hb
    simp only [show dstN 22 = 45 from rfl] at hput
    refine op_value ho hg (v := valN gn j n m NK A B z1 z2 z3 z4 z5 z6 Z cc 22) (w' := w) ?_ ?_
    · unfold execOp
      rw [hop]
      simp only [Act.eval, e20]
      rfl
    · rw [hd]; exact hput w hbr
  · obtain ⟨o, ho, hg, hd, hop⟩ := hS.al.oper
    refine op_value ho hg (v := ptr w.heap.size 0) (w' := w.alloc (.cells blank13 26)) ?_ ?_
    · unfold execOp
      rw [hop]
      simp only
      rw [Sem.run_bind, alloc13]
      rfl
    · rw [hd]; exact h.make hnew
  · obtain ⟨g, h9, h44, hg0, hI⟩ := h.store hnew (hS.st23.listed hr) (hS.st21.listed hr)
    obtain ⟨o, ho, hg, hd, hop⟩ := hS.st.oper
    refine op_skip ho hg (w' := set13 w g cc) ?_ ?_
    · unfold execOp
      rw [hop]
      simp only [Act.eval, h9, h44]
      rw [Sem.run_bind]
      have hrun := store13 w g hg0 cc
      unfold ptr
      rw [hrun]
      rfl
    · rw [hd]; exact hI
  · obtain ⟨o, ho, hg, hd, hop⟩ := hS.a25.oper
    have e22 : a.tmps.getD 45 undef = .bool true := h.val 22 (by omega) (hS.a25w.listed hr)
    refine op_value ho hg (v := .bool true) (w' := w) ?_ ?_
    · unfold execOp
      rw [hop]
      simp only [Act.eval, e22]
      rfl
    · rw [hd]; exact h.last
theorem num_region {Wn : World} {ops : Array Oper} {Q : Exit → Act → World → Prop} {a : Act} (hS : ShapeN ops) (H : HypN gn j n m NK A B z1 z2 z3 z4 z5 z6 Z cc Wn a.tmps) (hsz : a.tmps.size = 99) (hdf : a.defers = [])
    (hQ : ∀ a' w', a'.tmps.size = 99 → a'.defers = [] → (∀ t, t < 9 → a'.tmps.getD t undef = a.tmps.getD t undef) → Below Wn.heap.size Wn w' → (∃ g, a'.tmps.getD 9 undef = ptr g 0 ∧ ConAt w' g cc) → a'.tmps.getD 10 undef = .bool true → Q .normal a' w') : (Code.region 4 ops true).wp Tryd.prog Q a Wn := by
  have hnl : ∀ i, (Array.replicate 26 false).getD i false = false := fun i => by
    rcases Nat.lt_or_ge i 26 with h | h
    · simp [h]
    · simp [h]
  refine wp_region_any (by kernel_rfl) ?_
  rw [hS.size]
  have h1 := any_inv (P := Tryd.prog) (ops := ops) (Q := Q) (md := .any) (I := fun f listed a' w => InvN gn j n m NK A B z1 z2 z3 z4 z5 z6 Z cc Wn a.tmps listed a' w)
    (fun f listed a' w i hI hr => InvN.step hS H hI hr)
    (fun f listed a' w hI hr => by
      have h2 := all_listed_b hS.fwd' (by rw [hS.size]; exact hI.lsz) hr
      rw [hS.size] at h2
      obtain ⟨g, h3, h4, h5⟩ := hI.al (h2 23 (by omega))
      rw [h2 24 (by omega)] at h5
      exact hQ a' w hI.tsz hI.dfr hI.low hI.bel ⟨g, h3, h5⟩ (hI.a25 (h2 25 (by omega))))
    26 (Array.replicate 26 false) a Wn.drew (by rw [hS.size]; exact all_unlisted 26)
    ⟨by simp, hsz, hdf, fun _ _ => rfl, (Below.refl _ _).drew, fun i _ h => by rw [hnl] at h; (cases h), fun h => by rw [hnl] at h; (cases h), fun h => by rw [hnl] at h; (cases h), fun h => by rw [hnl] at h; (cases h)⟩
  exact h1
end
set_option maxRecDepth 100000 in
theorem act_lit99 {Q : Act → Prop} (a' : Act) (hs : a'.tmps.size = 99) (hd : a'.defers = []) (x0 x1 x2 x3 x4 x5 x6 x7 x8 x9 x10 : Value) (h0 : a'.tmps.getD 0 undef = x0) (h1 : a'.tmps.getD 1 undef = x1) (h2 : a'.tmps.getD 2 undef = x2) (h3 : a'.tmps.getD 3 undef = x3) (h4 : a'.tmps.getD 4 undef = x4) (h5 : a'.tmps.getD 5 undef = x5) (h6 : a'.tmps.getD 6 undef = x6) (h7 : a'.tmps.getD 7 undef = x7) (h8 : a'.tmps.getD 8 undef = x8) (h9 : a'.tmps.getD 9 undef = x9) (h10 : a'.tmps.getD 10 undef = x10)
    (h : ∀ f : Nat → Value, Q ⟨(x0 :: x1 :: x2 :: x3 :: x4 :: x5 :: x6 :: x7 :: x8 :: x9 :: x10 :: f 11 :: f 12 :: f 13 :: f 14 :: f 15 :: f 16 :: f 17 :: f 18 :: f 19 :: f 20 :: f 21 :: f 22 :: f 23 :: f 24 :: f 25 :: f 26 :: f 27 :: f 28 :: f 29 :: f 30 :: f 31 :: f 32 :: f 33 :: f 34 :: f 35 :: f 36 :: f 37 :: f 38 :: f 39 :: f 40 :: f 41 :: f 42 :: f 43 :: f 44 :: f 45 :: f 46 :: f 47 :: f 48 :: f 49 :: f 50 :: f 51 :: f 52 :: f 53 :: f 54 :: f 55 :: f 56 :: f 57 :: f 58 :: f 59 :: f 60 :: f 61 :: f 62 :: f 63 :: f 64 :: f 65 :: f 66 :: f 67 :: f 68 :: f 69 :: f 70 :: f 71 :: f 72 :: f 73 :: f 74 :: f 75 :: f 76 :: f 77 :: f 78 :: f 79 :: f 80 :: f 81 :: f 82 :: f 83 :: f 84 :: f 85 :: f 86 :: f 87 :: f 88 :: f 89 :: f 90 :: f 91 :: f 92 :: f 93 :: f 94 :: f 95 :: f 96 :: f 97 :: f 98 :: []).toArray, []⟩) : Q a' := by
  obtain ⟨ts, df⟩ := a'
  have hd2 : df = [] := hd
  subst hd2
  have e := tmps_eq ts 99 hs
  have hq := h (fun t => ts.getD t undef)
  subst h0 h1 h2 h3 h4 h5 h6 h7 h8 h9 h10
  rw [e]
  exact hq
end Go.Proofs.YtmnnbefigepgfaaDoor.Ct
