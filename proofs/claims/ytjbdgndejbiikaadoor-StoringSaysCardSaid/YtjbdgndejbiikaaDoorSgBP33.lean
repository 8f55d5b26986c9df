/-
  Texts that the laws' proofs stand on, 3 of them in one file; each one's head says what it proves and under which condition.
-/
import Derived.Test.YtjbdgndejbiikaaDoorSgBP32
import Derived.Test.YtjbdgndejbiikaaDoorSgBP19
import Derived.Test.YtjbdgndejbiikaaDoorSgBP31
import Derived.Test.YtjbdgndejbiikaaDoorSgBP17
import Derived.Deep.AppendLies
/-
  storing.lasting: what it returns. Conditions: the tables hold what the program's text lays; numbers are at least -1.
-/
namespace Go.Proofs.YtjbdgndejbiikaaDoor.Sg
open Go.RowKit Go.Proofs.YtjbdgndejbiikaaDoor.Tk Go.Proofs.YtjbdgndejbiikaaDoor.Fd Go.Proofs.YtjbdgndejbiikaaDoor.Ct Go.Proofs.YtjbdgndejbiikaaDoor.Fh Go.Proofs.YtjbdgndejbiikaaDoor.Rg
set_option maxRecDepth 100000
set_option linter.unusedVariables false

/-! An operation of a region, with its guard. -/
def isG (ops : Array Oper) (i : Nat) (g : Option (Nat × Bool)) (d : Option Tmp) (op : Op) : Prop := (ops[i]?).map (fun o => (o.guard, o.dst, o.op)) = some (g, d, op)
theorem isG.oper {ops : Array Oper} {i : Nat} {g : Option (Nat × Bool)} {d : Option Tmp} {op : Op} (h : isG ops i g d op) : ∃ o, ops[i]? = some o ∧ o.guard = g ∧ o.dst = d ∧ o.op = op := by
  unfold isG at h
  rw [Option.map_eq_some_iff] at h
  obtain ⟨o, h1, h2⟩ := h
  injection h2 with h3 h4
  injection h4 with h4 h5
  exact ⟨o, h1, h3, h4, h5⟩
theorem yields_at {ops : Array Oper} {a : Act} {i d : Nat} {gd : Option (Nat × Bool)} {op : Op} {b : Bool} (h : isG ops i gd (some d) op) (hd : d < a.tmps.size) (hv : a.tmps.getD d undef = .bool b) : yielded ops a.tmps i = some b := by
  obtain ⟨o, h1, _, h3, _⟩ := h.oper
  unfold yielded
  have e : a.tmps[d]? = some (.bool b) := by
    rw [Array.getElem?_eq_getElem hd]
    simpa [hd] using hv
  rw [h1]
  simp only [Option.bind_some, h3]
  rw [e]
section
variable {P : Program} {ops : Array Oper} {Q : Exit → Act → World → Prop}
theorem op_left {i g : Nat} {o : Oper} {a : Act} {w : World} {K : Act → World → Prop} (hi : ops[i]? = some o) (hg : o.guard = some (g, false)) (hy : yielded ops a.tmps g = some true) (hK : K (a.put o.dst undef) w) : wpOp P ops Q i K a w := by
  unfold wpOp
  simp only [hi, Region.wanted, hg, hy]
  simpa using hK
theorem op_taken {i g : Nat} {o : Oper} {a : Act} {w : World} {v : Value} {K : Act → World → Prop} (hi : ops[i]? = some o) (hg : o.guard = some (g, false)) (hy : yielded ops a.tmps g = some false)
    (hrun : (execOp a.eval o).run P w = .ok (.value v) w) (hK : K (a.put o.dst v) w) : wpOp P ops Q i K a w := by
  unfold wpOp
  simp only [hi, Region.wanted, hg, hy]
  refine .inl ?_
  unfold Oper.wp
  rw [hrun]
  exact hK
theorem op_called {i g : Nat} {o : Oper} {a : Act} {w : World} {f : FuncId} {args : Array Value} {R : Ending → World → Prop} {K : Act → World → Prop} (hi : ops[i]? = some o) (hg : o.guard = some (g, false)) (hy : yielded ops a.tmps g = some false)
    (hrun : (execOp a.eval o).run P w = .ok (.enter f args) w) (hc : Calls P f args w R) (hK : ∀ e w', R e w' → ∃ v, e = .returned v ∧ K (a.put o.dst v) w') : wpOp P ops Q i K a w := by
  unfold wpOp
  simp only [hi, Region.wanted, hg, hy]
  refine .inl ?_
  unfold Oper.wp
  rw [hrun]
  show Calls P f args w _
  refine hc.mono fun e w' he => ?_
  obtain ⟨v, rfl, h⟩ := hK e w' he
  exact h
end

/-! The region that compares. -/
structure ShapeL (ops : Array Oper) : Prop where
  size : ops.size = 9
  fwd : (List.range 9).all (fun i => ((ops[i]?).map fun o => o.after.all fun e => decide (e.on < i)).getD true) = true
  p0 : isG ops 0 none (some 23) (Op.load 35 (.tmp 3))
  p1 : isG ops 1 none (some 24) (Op.call { callee := .value (.func 31), args := #[], argTypes := #[] })
  p2 : isG ops 2 none (some 25) (Op.binOp .neq 35 (.tmp 23) (.tmp 24) 35)
  w20 : waits ops 2 0
  w21 : waits ops 2 1
  p3 : isG ops 3 none (some 26) (Op.move (.tmp 25))
  w32 : waits ops 3 2
  p4 : isG ops 4 (some (3, false)) (some 27) (Op.fieldAddr 35 (.tmp 1) 0)
  w43 : waits ops 4 3
  p5 : isG ops 5 (some (3, false)) (some 28) (Op.load 3 (.tmp 27))
  w54 : waits ops 5 4
  w53 : waits ops 5 3
  p6 : isG ops 6 (some (3, false)) (some 29) (Op.call { callee := .value (.func 32), args := #[.tmp 28], argTypes := #[3] })
  w65 : waits ops 6 5
  w63 : waits ops 6 3
  p7 : isG ops 7 none (some 30) (Op.pick (.tmp 26) (.const (.bool true)) (.tmp 29))
  w73 : waits ops 7 3
  w76 : waits ops 7 6
  p8 : isG ops 8 none (some 2) (Op.assign (.tmp 30))
  w87 : waits ops 8 7
def dstL (i : Nat) : Nat := if i = 8 then 2 else 23 + i
def valL (s : Mta) (n : Nat) (code : Int) (b h : Bool) : Nat → Value
  | 0 => .agg (mcells s)
  | 1 => .agg (mcells umet)
  | 2 => .bool b
  | 3 => .bool b
  | 4 => if b then undef else .pointer (some ⟨n, 0, none⟩)
  | 5 => if b then undef else .int .i64 code
  | 6 => if b then undef else .bool h
  | _ => .bool (b || h)
/-- What holds whatever has come up. -/
structure InvL (w : World) (m : Mta) (g : Nat) (s : Mta) (b h : Bool) (a0 : Array Value) (listed : Array Bool) (a : Act) (W : World) : Prop where
  lsz : listed.size = 9
  tsz : a.tmps.size = 31
  dfr : a.defers = []
  t1 : a.tmps.getD 1 undef = .pointer (some ⟨w.heap.size, 0, none⟩)
  t3 : a.tmps.getD 3 undef = .pointer (some ⟨g, 0, none⟩)
  two : La w m g s W
  val : ∀ i, i < 9 → listed.getD i false = true → a.tmps.getD (dstL i) undef = valL s w.heap.size m.code b h i
theorem dstL_ne {i k : Nat} (hi : i < 9) (hk : k < 9) (h : i ≠ k) : dstL i ≠ dstL k := by unfold dstL; split <;> split <;> omega
theorem dstL_lt {i : Nat} (hi : i < 9) : dstL i < 31 ∧ dstL i ≠ 1 ∧ dstL i ≠ 3 := by unfold dstL; split <;> omega
section
variable {w : World} {m s : Mta} {g : Nat} {b h : Bool} {a0 : Array Value}
theorem InvL.name {listed : Array Bool} {a : Act} {W W' : World} (H : InvL w m g s b h a0 listed a W) (i : Nat) (hi : i < 9) (hl : La w m g s W') :
    InvL w m g s b h a0 (listed.setIfInBounds i true) (a.put (some (dstL i)) (valL s w.heap.size m.code b h i)) W' := by
  obtain ⟨d1, d2, d3⟩ := dstL_lt hi
  refine ⟨by rw [Array.size_setIfInBounds]; exact H.lsz, by rw [put_size]; exact H.tsz, H.dfr, by rw [put_other _ _ (Ne.symm d2)]; exact H.t1, by rw [put_other _ _ (Ne.symm d3)]; exact H.t3, hl, ?_⟩
  intro k hk hl
  by_cases e : k = i
  · subst e; rw [put_same _ _ _ (by rw [H.tsz]; exact d1)]
  · rw [put_other _ _ (dstL_ne hk hi e)]; exact H.val k hk (set_old hl e)
theorem enters_unknown (W : World) : (callFunc 31 #[]).run Tryd.prog W = .ok (.enter 31 #[]) W := by kernel_rfl
theorem enters_heur (x : Value) (W : World) : (callFunc 32 #[x]).run Tryd.prog W = .ok (.enter 32 #[x]) W := by kernel_rfl
theorem load_met {W : World} {g : Nat} {s : Mta} (h : MetAt W g s) : (Instr.loadAt 35 (.pointer (some ⟨g, 0, none⟩))).run Tryd.prog W = .ok (.agg (mcells s)) W := by
  obtain ⟨Z, N, hZ⟩ := size_met
  have z1 := hZ.is
  have z2 := hZ.run
  have l := h.load hZ.num
  have y5 : ¬ N = 0 := by rw [hZ.num]; decide
  clear hZ h
  go_simp
theorem neq_met {s : Mta} {q : Bool} (E : EqIs s umet q) (W : World) (x y : Operand) : (do eqGuard .neq 35 x y (.agg (mcells s)) (.agg (mcells umet)); binOp .neq 35 (.agg (mcells s)) (.agg (mcells umet))).run Tryd.prog W = .ok (.bool (!q)) W := by
  have h1 : (eqGuard .neq 35 x y (.agg (mcells s)) (.agg (mcells umet))).run Tryd.prog W = .ok () W := by kernel_rfl
  have h2 : (binOp .neq 35 (.agg (mcells s)) (.agg (mcells umet))).run Tryd.prog W = .ok (.bool (!q)) W := by
    show (do pure (.bool (!(← Op.equal 35 (.agg (mcells s)) (.agg (mcells umet))))) : Sem Value).run Tryd.prog W = _
    rw [Sem.run_bind, E W]
    rfl
  rw [Sem.run_bind, h1]
  exact h2
theorem code_addr (n : Nat) (W : World) : (Instr.fieldAt 35 (.pointer (some ⟨n, 0, none⟩)) 0).run Tryd.prog W = .ok (.pointer (some ⟨n, 0, none⟩)) W := by
  go_simp
theorem load_int {W : World} {n : Nat} {k : Int} (h : W.cell? ⟨n, 0, none⟩ = some (.int .i64 k)) : (Instr.loadAt 3 (.pointer (some ⟨n, 0, none⟩))).run Tryd.prog W = .ok (.int .i64 k) W := by
  go_simp
/-- What the region stands on. -/
structure HypL (w : World) (m : Mta) (g : Nat) (s : Mta) (q : Bool) : Prop where
  eq : EqIs s umet q
  unk : ∀ W : World, La w m g s W → Calls Tryd.prog 31 #[] W fun e w' => e = .returned (.agg (mcells umet)) ∧ Below W.heap.size W w'
  heu : ∀ W : World, La w m g s W → Calls Tryd.prog 32 #[.int .i64 m.code] W fun e w' => e = .returned (.bool (heurOf m.code)) ∧ W = w'
theorem InvL.step {q : Bool} {ops : Array Oper} {Q : Exit → Act → World → Prop} {listed : Array Bool} {a : Act} {W : World} {i : Nat} (hS : ShapeL ops) (H : HypL w m g s q) (I : InvL w m g s (!q) (heurOf m.code) a0 listed a W) (hr : i ∈ Region.ready .any ops listed) :
    wpOp Tryd.prog ops Q i (fun a' w' => InvL w m g s (!q) (heurOf m.code) a0 (listed.setIfInBounds i true) a' w') a W := by
  have hi : i < 9 := by
    obtain ⟨_, o, ho, _⟩ := mem_ready.1 hr
    have := (Array.getElem?_eq_some_iff.1 ho).1
    rw [hS.size] at this; exact this
  have hput := fun (W' : World) (hl : La w m g s W') => I.name i hi hl
  have e3 : listed.getD 3 false = true → yielded ops a.tmps 3 = some (!q) := fun h3 => yields_at hS.p3 (by rw [I.tsz]; omega) (I.val 3 (by omega) h3)
  rcases (by omega : i = 0 ∨ i = 1 ∨ i = 2 ∨ i = 3 ∨ i = 4 ∨ i = 5 ∨ i = 6 ∨ i = 7 ∨ i = 8) with rfl | rfl | rfl | rfl | rfl | rfl | rfl | rfl | rfl
  · obtain ⟨o, ho, hg, hd, hop⟩ := hS.p0.oper
    refine op_value ho hg (v := .agg (mcells s)) (w' := W) ?_ ?_
    · unfold execOp
      rw [hop]
      simp only [Act.eval, I.t3]
      rw [Sem.run_bind, load_met I.two.dst]
      rfl
    · rw [hd]; exact hput W I.two
  · obtain ⟨o, ho, hg, hd, hop⟩ := hS.p1.oper
    refine op_call ho hg (f := 31) (args := #[]) ?_ (H.unk W I.two) ?_
    · unfold execOp
      rw [hop]
      simp only [resolve, List.map_toArray, List.map_nil, Act.eval]
      exact enters_unknown _
    · rintro e w' ⟨rfl, hb⟩
      refine ⟨_, rfl, ?_⟩
      rw [hd]; exact hput w' (I.two.more hb)
  · obtain ⟨o, ho, hg, hd, hop⟩ := hS.p2.oper
    have v0 : a.tmps.getD 23 undef = .agg (mcells s) := I.val 0 (by omega) (hS.w20.listed hr)
    have v1 : a.tmps.getD 24 undef = .agg (mcells umet) := I.val 1 (by omega) (hS.w21.listed hr)
    refine op_value ho hg (v := .bool (!q)) (w' := W) ?_ ?_
    · unfold execOp
      rw [hop]
      simp only [Act.eval, v0, v1]
      rw [Sem.run_bind, neq_met H.eq]
      rfl
    · rw [hd]; exact hput W I.two
  · obtain ⟨o, ho, hg, hd, hop⟩ := hS.p3.oper
    have v2 : a.tmps.getD 25 undef = .bool (!q) := I.val 2 (by omega) (hS.w32.listed hr)
    refine op_value ho hg (v := .bool (!q)) (w' := W) ?_ ?_
    · unfold execOp
      rw [hop]
      simp only [Act.eval, v2]
      rfl
    · rw [hd]; exact hput W I.two
  · obtain ⟨o, ho, hg, hd, hop⟩ := hS.p4.oper
    have hy := e3 (hS.w43.listed hr)
    have hp := hput W I.two
    cases q with
    | false => exact op_left ho hg hy (by rw [hd]; exact hp)
    | true =>
      refine op_taken ho hg hy (v := .pointer (some ⟨w.heap.size, 0, none⟩)) ?_ (by rw [hd]; exact hp)
      unfold execOp
      rw [hop]
      simp only [Act.eval, I.t1]
      rw [Sem.run_bind, code_addr]
      rfl
  · obtain ⟨o, ho, hg, hd, hop⟩ := hS.p5.oper
    have hy := e3 (hS.w53.listed hr)
    have hp := hput W I.two
    have v4 := I.val 4 (by omega) (hS.w54.listed hr)
    cases q with
    | false => exact op_left ho hg hy (by rw [hd]; exact hp)
    | true =>
      have v4' : a.tmps.getD 27 undef = .pointer (some ⟨w.heap.size, 0, none⟩) := v4
      refine op_taken ho hg hy (v := .int .i64 m.code) ?_ (by rw [hd]; exact hp)
      unfold execOp
      rw [hop]
      simp only [Act.eval, v4']
      rw [Sem.run_bind, load_int (I.two.src.at rfl)]
      rfl
  · obtain ⟨o, ho, hg, hd, hop⟩ := hS.p6.oper
    have hy := e3 (hS.w63.listed hr)
    have v5 := I.val 5 (by omega) (hS.w65.listed hr)
    cases q with
    | false => exact op_left ho hg hy (by rw [hd]; exact hput W I.two)
    | true =>
      have v5' : a.tmps.getD 28 undef = .int .i64 m.code := v5
      refine op_called ho hg hy (f := 32) (args := #[.int .i64 m.code]) ?_ (H.heu W I.two) ?_
      · unfold execOp
        rw [hop]
        simp only [resolve, List.map_toArray, List.map_cons, List.map_nil, Act.eval, v5']
        exact enters_heur _ _
      · rintro e w' ⟨rfl, rfl⟩
        refine ⟨_, rfl, ?_⟩
        rw [hd]; exact hput W I.two
  · obtain ⟨o, ho, hg, hd, hop⟩ := hS.p7.oper
    have v3 : a.tmps.getD 26 undef = .bool (!q) := I.val 3 (by omega) (hS.w73.listed hr)
    have v6 := I.val 6 (by omega) (hS.w76.listed hr)
    refine op_value ho hg (v := .bool (!q || heurOf m.code)) (w' := W) ?_ ?_
    · have v6' : a.tmps.getD 29 undef = if !q then undef else .bool (heurOf m.code) := v6
      unfold execOp
      rw [hop]
      simp only [Act.eval, v3, v6']
      cases q <;> rfl
    · rw [hd]; exact hput W I.two
  · obtain ⟨o, ho, hg, hd, hop⟩ := hS.p8.oper
    have v7 : a.tmps.getD 30 undef = .bool (!q || heurOf m.code) := I.val 7 (by omega) (hS.w87.listed hr)
    refine op_value ho hg (v := .bool (!q || heurOf m.code)) (w' := W) ?_ ?_
    · unfold execOp
      rw [hop]
      simp only [Act.eval, v7]
      rfl
    · rw [hd]; exact hput W I.two
theorem ShapeL.fwd' {ops : Array Oper} (h : ShapeL ops) (i : Nat) (o : Oper) (ho : ops[i]? = some o) : ∀ e ∈ o.after, e.on < i := by
  have hi : i < 9 := by have := (Array.getElem?_eq_some_iff.1 ho).1; rw [h.size] at this; exact this
  have h1 := List.all_eq_true.1 h.fwd i (List.mem_range.2 hi)
  rw [ho] at h1
  intro e he
  have h2 := Array.all_eq_true_iff_forall_mem.1 h1 e he
  simpa using h2
theorem last_region {q : Bool} {W : World} {ops : Array Oper} {Q : Exit → Act → World → Prop} {a : Act} (hS : ShapeL ops) (H : HypL w m g s q) (hl : La w m g s W) (hsz : a.tmps.size = 31) (hdf : a.defers = [])
    (h1 : a.tmps.getD 1 undef = .pointer (some ⟨w.heap.size, 0, none⟩)) (h3 : a.tmps.getD 3 undef = .pointer (some ⟨g, 0, none⟩))
    (hQ : ∀ a' w', a'.tmps.size = 31 → a'.defers = [] → La w m g s w' → a'.tmps.getD 2 undef = .bool (!q || heurOf m.code) → Q .normal a' w') : (Code.region 4 ops true).wp Tryd.prog Q a W := by
  have hnl : ∀ i, (Array.replicate 9 false).getD i false = false := fun i => by
    rcases Nat.lt_or_ge i 9 with h | h
    · simp [h]
    · simp [h]
  refine wp_region_any (by kernel_rfl) ?_
  rw [hS.size]
  exact any_inv (P := Tryd.prog) (ops := ops) (Q := Q) (md := .any) (I := fun f listed a' w' => InvL w m g s (!q) (heurOf m.code) a.tmps listed a' w')
    (fun f listed a' w' i hI hr => InvL.step hS H hI hr)
    (fun f listed a' w' hI hr => by
      have h2 := all_listed hS.fwd' (by rw [hS.size]; exact hI.lsz) hr
      rw [hS.size] at h2
      exact hQ a' w' hI.tsz hI.dfr hI.two (hI.val 8 (by omega) (h2 8 (by omega))))
    9 (Array.replicate 9 false) a W.drew (by rw [hS.size]; exact all_unlisted 9)
    ⟨by simp, hsz, hdf, h1, h3, hl.drew, fun i _ h => by rw [hnl] at h; cases h⟩
end

theorem frame_eq (ts : Array Value) (n : Nat) (h : ts.size = n) : ts = ((List.range n).map fun t => ts.getD t undef).toArray := by
  apply Array.ext
  · simp [h]
  · intro i h1 h2
    simp [h1]
/-- A frame of 31 slots, of which one is known. -/
theorem act31 {Q : Act → Prop} (a' : Act) (hs : a'.tmps.size = 31) (hd : a'.defers = []) (x2 : Value) (h2 : a'.tmps.getD 2 undef = x2) (h : ∀ f : Nat → Value, Q ⟨(f 0 :: f 1 :: x2 :: f 3 :: f 4 :: f 5 :: f 6 :: f 7 :: f 8 :: f 9 :: f 10 :: f 11 :: f 12 :: f 13 :: f 14 :: f 15 :: f 16 :: f 17 :: f 18 :: f 19 :: f 20 :: f 21 :: f 22 :: f 23 :: f 24 :: f 25 :: f 26 :: f 27 :: f 28 :: f 29 :: f 30 :: []).toArray, []⟩) : Q a' := by
  obtain ⟨ts, df⟩ := a'
  have hd2 : df = [] := hd
  subst hd2
  have e := frame_eq ts 31 hs
  have hq := h (fun t => ts.getD t undef)
  subst h2
  rw [e]
  exact hq
set_option maxHeartbeats 800000 in
theorem lasting_any (m : Mta) (h1 : -1 ≤ m.con.ag) (h2 : -1 ≤ m.con.sh) (h3 : -1 ≤ m.exp) (w : World) (hT : Tab w) (hE : Dp.Env w) (hF : Dp.FM w) (hC : Codes w) :
    Calls Tryd.prog 16 #[.agg (mcells m)] w fun e w' => e = .returned (.bool (lastB m.exp m.con m.code)) ∧ Below w.heap.size w w' := by
  have hb0 : Below w.heap.size w (w.alloc (.cells (mcells m) 35)) := (Below.refl _ _).alloc (Nat.le_refl _) _
  have HB0 := Lib.hid hb0
  have HS0 := Lib.hid (show MetAt (w.alloc (.cells (mcells m) 35)) w.heap.size m from new_block _ _)
  have HT := Lib.hid hT
  have HE := Lib.hid hE
  have HF := Lib.hid hF
  have HC := Lib.hid hC
  obtain ⟨q, hq⟩ : ∃ q, q = (decide (m.exp = -1) && !m.con.pu && decide (m.con.ag = -1) && decide (m.con.sh = -1)) := ⟨_, rfl⟩
  have HQ := Lib.hid (show EqIs (saidM m.con.pu m.con.ag m.con.sh m.exp) umet q from by rw [hq]; exact met_eq m.con.pu h1 h2 h3)
  have HR := Lib.hid (show lastB m.exp m.con m.code = (!q || heurOf m.code) from by rw [hq]; rfl)
  clear hq hb0 hT hE hF hC
  go_enter Tryd.func16, Tryd.ntmps16
  go_wp2_with fail
  refine (unknown_any _ (HT.out.below HB0.out HT.out.lt) (HE.out.below HB0.out (Nat.le_refl _)) (HF.out.below HB0.out (Nat.le_refl _))).mono ?_
  rintro e w1 ⟨rfl, hb1⟩
  have hm1 : MetAt w1 w.heap.size m := HS0.out.more hb1 HS0.out.lt
  have hsz : w.heap.size < w1.heap.size := by have := hb1.size; simp at this; omega
  have hb : Below w.heap.size w w1 := HB0.out.trans (hb1.mono (by simp))
  have H := Lib.hid (show La w m w1.heap.size umet (w1.alloc (.cells (mcells umet) 35)) from
    ⟨hm1.more ((Below.refl w1.heap.size w1).alloc (Nat.le_refl _) _) hsz, new_block _ _, hsz, hb.alloc hb.size _⟩)
  have p1 := put_last w1 w1.heap.size rfl #[.int .i64 0, .bool false, .bool false, .bool false, .bool false, .bool false, .bool false, .bool false, .int .i64 0, .int .i64 0, .int .i64 0, .int .i64 0, .int .i64 0, .int .i64 0, .int .i64 0, .int .i64 0, .int .i64 0, .int .i64 0, .int .i64 0, .int .i64 0, .string ⟨#[]⟩] rfl umet
  obtain ⟨Z, N, hZ⟩ := size_met
  have z1 := hZ.is
  have z2 := hZ.run
  have HN := Lib.hid hZ.num
  have n2 : (mcells umet).size = N := hZ.num ▸ rfl
  clear hZ hm1 hb1 hb hsz HS0 HB0
  go_upto_region 2 with fail
  generalize w1.alloc (.cells (mcells umet) 35) = W1 at H ⊢
  obtain ⟨g, hg⟩ : ∃ g, g = w1.heap.size := ⟨_, rfl⟩
  rw [← hg] at H
  rw [← hg]
  clear hg p1
  have c15 : W1.cell? ⟨w.heap.size, 15, none⟩ = some (.int .i64 m.exp) := H.out.src.at rfl
  have d15 : W1.cell? ⟨g, 15, none⟩ = some (.int .i64 (-1)) := H.out.dst.at rfl
  have f15 := free H.out.dst 15
  have y5 : ¬ N = 0 := by rw [HN.out]; decide
  go_upto_region 3 with fail
  have H2 := Lib.hid (H.out.put15 m.exp)
  generalize W1.setCell ⟨g, 15, none⟩ (.int .i64 m.exp) = W2 at H2 ⊢
  clear c15 d15 f15 H
  have c4 : W2.cell? ⟨w.heap.size, 4, none⟩ = some (.bool m.con.pu) := H2.out.src.at rfl
  have c8 : W2.cell? ⟨w.heap.size, 8, none⟩ = some (.int .i64 m.con.ag) := H2.out.src.at rfl
  have c9 : W2.cell? ⟨w.heap.size, 9, none⟩ = some (.int .i64 m.con.sh) := H2.out.src.at rfl
  have d4 : W2.cell? ⟨g, 4, none⟩ = some (.bool false) := H2.out.dst.at rfl
  have d8 : W2.cell? ⟨g, 8, none⟩ = some (.int .i64 (-1)) := H2.out.dst.at rfl
  have d9 : W2.cell? ⟨g, 9, none⟩ = some (.int .i64 (-1)) := H2.out.dst.at rfl
  have f4 := free H2.out.dst 4
  have f8 := free H2.out.dst 8
  have f9 := free H2.out.dst 9
  have hfar : ¬ w.heap.size = g := by have := H2.out.far; omega
  have hfar' : ¬ g = w.heap.size := fun h => hfar h.symm
  go_region
  have H3 := Lib.hid (((H2.out.put4 m.con.pu).put8 m.con.ag).put9 m.con.sh).drew
  generalize (((W2.setCell ⟨g, 4, none⟩ (.bool m.con.pu)).setCell ⟨g, 8, none⟩ (.int .i64 m.con.ag)).setCell ⟨g, 9, none⟩ (.int .i64 m.con.sh)).drew = W3 at H3 ⊢
  clear c4 c8 c9 d4 d8 d9 f4 f8 f9 H2 z1 z2 n2 HN y5
  replace H3 := Lib.hid (show La w m g (saidM m.con.pu m.con.ag m.con.sh m.exp) W3 from H3.out)
  have HU := Lib.hid (show ∀ W : World, La w m g (saidM m.con.pu m.con.ag m.con.sh m.exp) W → Calls Tryd.prog 31 #[] W (fun e w' => e = .returned (.agg (mcells umet)) ∧ Below W.heap.size W w') from fun W hW =>
    unknown_any W (HT.out.below hW.bel HT.out.lt) (HE.out.below hW.bel (Nat.le_refl _)) (HF.out.below hW.bel (Nat.le_refl _)))
  have HH := Lib.hid (show ∀ W : World, La w m g (saidM m.con.pu m.con.ag m.con.sh m.exp) W → Calls Tryd.prog 32 #[.int .i64 m.code] W (fun e w' => e = .returned (.bool (heurOf m.code)) ∧ W = w') from fun W hW =>
    heur_any m.code W (HC.out.below hW.bel HC.out.lt))
  go_upto_region 4 with fail
  rename_i Qf Kf hgo
  refine last_region (w := w) (m := m) (g := g) (s := saidM m.con.pu m.con.ag m.con.sh m.exp) (q := q) ?_ ⟨HQ.out, HU.out, HH.out⟩ H3.out rfl rfl rfl rfl ?_
  · constructor
    all_goals first | kernel_rfl | (unfold isG; kernel_rfl) | (unfold waits; kernel_rfl)
  · intro a' w' hs hd hl h2
    have HL := Lib.hid hl
    refine act31 (Q := fun a' => Exit.then Kf Qf .normal a' w') a' hs hd _ h2 ?_
    intro f
    clear hs hd h2 hl HU HH HQ
    go_wp2_with fail
    go_ret
    exact ⟨by rw [HR.out]; rfl, HL.out.bel⟩
end Go.Proofs.YtjbdgndejbiikaaDoor.Sg
/-
  storing.May: what it returns. Conditions: fields of at most 200000 bytes in all; the tables hold what the program's text lays.
-/
namespace Go.Proofs.YtjbdgndejbiikaaDoor.Sg
open Go.RowKit Go.Proofs.YtjbdgndejbiikaaDoor.Tk Go.Proofs.YtjbdgndejbiikaaDoor.Fd Go.Proofs.YtjbdgndejbiikaaDoor.Ct Go.Proofs.YtjbdgndejbiikaaDoor.Fh
set_option maxRecDepth 100000
set_option linter.unusedVariables false

/-- The request, the response and what is known of it, in blocks. -/
structure Ma (w : World) (meth tgt : ByteArray) (mi : Int) (vq : Value) (mj code : Int) (rsn : ByteArray) (vr : Value) (g : Nat) (M : Mta) (W : World) : Prop where
  req : W.heap[w.heap.size]? = some (.cells #[.string meth, .string tgt, .int .i64 mi, vq] 25 (0, 0))
  res : W.heap[w.heap.size + 1]? = some (.cells #[.int .i64 mj, .int .i64 code, .string rsn, vr] 29 (0, 0))
  met : MetAt W g M
  bel : Below w.heap.size w W
section
variable {w : World} {meth tgt rsn : ByteArray} {mi mj code : Int} {vq vr : Value} {g : Nat} {M : Mta} {W W' : World}
theorem Ma.more (h : Ma w meth tgt mi vq mj code rsn vr g M W) (hb : Below W.heap.size W W') : Ma w meth tgt mi vq mj code rsn vr g M W' :=
  ⟨Bl.old hb (block_lt h.req) h.req, Bl.old hb (block_lt h.res) h.res, h.met.more hb h.met.lt, Bl.next h.bel hb⟩
theorem Ma.c0 (h : Ma w meth tgt mi vq mj code rsn vr g M W) : W.cell? ⟨w.heap.size, 0, none⟩ = some (.string meth) := by rw [Lib.cell_of_heap h.req]; rfl
theorem Ma.c3 (h : Ma w meth tgt mi vq mj code rsn vr g M W) : W.cell? ⟨w.heap.size, 3, none⟩ = some vq := by rw [Lib.cell_of_heap h.req]; rfl
theorem Ma.d3 (h : Ma w meth tgt mi vq mj code rsn vr g M W) : W.cell? ⟨w.heap.size + 1, 3, none⟩ = some vr := by rw [Lib.cell_of_heap h.res]; rfl
theorem Ma.ns (h : Ma w meth tgt mi vq mj code rsn vr g M W) : W.cell? ⟨g, 1, none⟩ = some (.bool M.con.ns) := h.met.at rfl
theorem Ma.pr (h : Ma w meth tgt mi vq mj code rsn vr g M W) : W.cell? ⟨g, 3, none⟩ = some (.bool M.con.pr) := h.met.at rfl
theorem Ma.flds {v : Value} {fs : List Fl} (h : Ma w meth tgt mi vq mj code rsn vr g M W) (hf : Flds w v fs) : Flds W v fs := hf.below h.bel (Nat.le_refl _)
end
theorem sec_ge (fs : List Fl) (nm : Bs) : -1 ≤ secOf fs nm 0 := by
  unfold secOf
  have := (Dp.parseD_bd (getT fs nm)).1
  repeat' split
  all_goals omega
theorem conLit (c : Con) : Value.agg (cells c) = .agg #[.bool c.ns, .bool c.nc, .bool c.pr, .bool c.pu, .bool c.mu, .bool c.px, .bool c.oc, .int .i64 c.ag, .int .i64 c.sh, .int .i64 c.wh, .int .i64 c.ie, .int .i64 c.mf, .int .i64 c.ms] := rfl
theorem con_ns (c : Con) (W : World) : (Instr.field 33 (.agg #[.bool c.ns, .bool c.nc, .bool c.pr, .bool c.pu, .bool c.mu, .bool c.px, .bool c.oc, .int .i64 c.ag, .int .i64 c.sh, .int .i64 c.wh, .int .i64 c.ie, .int .i64 c.mf, .int .i64 c.ms]) 0).run Tryd.prog W = .ok (.bool c.ns) W := by kernel_rfl

set_option maxHeartbeats 2000000 in
theorem may_lit (meth tgt : ByteArray) (mi : Int) (p1 : Option Addr) (n1 k1 : Nat) (rq : List Fl) (mj code : Int) (rsn : ByteArray) (p2 : Option Addr) (n2 k2 : Nat) (rs : List Fl) (w : World) (hq : Flds w (.slice p1 n1 k1) rq) (hr : Flds w (.slice p2 n2 k2) rs) (htq : tot rq ≤ 200000) (htr : tot rs ≤ 200000) (hT : Tab w) (hE : Dp.Env w) (hF : Dp.FM w) (hC : Codes w) :
    Calls Tryd.prog 7 #[.agg #[.string meth, .string tgt, .int .i64 mi, .slice p1 n1 k1], .agg #[.int .i64 mj, .int .i64 code, .string rsn, .slice p2 n2 k2]] w fun e w' => e = .returned (.bool (mayOf meth.data.toList rq code rs)) ∧ Below w.heap.size w w' := by
  have hb2 : Below w.heap.size w ((w.alloc (.cells #[.string meth, .string tgt, .int .i64 mi, .slice p1 n1 k1] 25)).alloc (.cells #[.int .i64 mj, .int .i64 code, .string rsn, .slice p2 n2 k2] 29)) := ((Below.refl _ _).alloc (Nat.le_refl _) _).alloc (by simp) _
  have hrq : ((w.alloc (.cells #[.string meth, .string tgt, .int .i64 mi, .slice p1 n1 k1] 25)).alloc (.cells #[.int .i64 mj, .int .i64 code, .string rsn, .slice p2 n2 k2] 29)).heap[w.heap.size]? = some (.cells #[.string meth, .string tgt, .int .i64 mi, .slice p1 n1 k1] 25 (0, 0)) := (old_block _ _ (by simp)).trans (new_block _ _)
  have hrs : ((w.alloc (.cells #[.string meth, .string tgt, .int .i64 mi, .slice p1 n1 k1] 25)).alloc (.cells #[.int .i64 mj, .int .i64 code, .string rsn, .slice p2 n2 k2] 29)).heap[w.heap.size + 1]? = some (.cells #[.int .i64 mj, .int .i64 code, .string rsn, .slice p2 n2 k2] 29 (0, 0)) := new_block' _ _ (by simp)
  have HB2 := Lib.hid hb2
  have HRQ := Lib.hid hrq
  have HRS := Lib.hid hrs
  have HQ := Lib.hid hq
  have HF := Lib.hid hr
  have HT := Lib.hid hT
  have HE := Lib.hid hE
  have HM := Lib.hid hF
  have HC := Lib.hid hC
  obtain ⟨b, hb⟩ : ∃ b, b = (meth.data.toList == getM) := ⟨_, rfl⟩
  have hbt : (meth.toList == [71, 69, 84]) = b := by rw [hb, ByteArray.toList_eq]; rfl
  obtain ⟨C, hCq⟩ : ∃ C, C = ofOf rq := ⟨_, rfl⟩
  obtain ⟨M, hMd⟩ : ∃ M, M = metOf code rs (-1) (-1) := ⟨_, rfl⟩
  have HMd := Lib.hid hMd
  have hMc : M.code = code := by rw [hMd]; rfl
  have HMc := Lib.hid hMc
  obtain ⟨wh, hwh⟩ : ∃ x, x = wholeB rq code := ⟨_, rfl⟩
  obtain ⟨al, hal⟩ : ∃ x, x = varyOk rs := ⟨_, rfl⟩
  obtain ⟨op, hop⟩ : ∃ x, x = openB rq M.con := ⟨_, rfl⟩
  obtain ⟨la, hla⟩ : ∃ x, x = lastB M.exp M.con M.code := ⟨_, rfl⟩
  obtain ⟨fi, hfi⟩ : ∃ x, x = finalB code := ⟨_, rfl⟩
  have HR := Lib.hid (show mayOf meth.data.toList rq code rs = ((b && !C.ns) && bareB M.con && fi && wh && al && op && la) from by
    rw [may_prog, hb, hCq, hfi, hwh, hal, hop, hla, hMd]; rfl)
  have hfine := fine_of rs
  have L1 : -1 ≤ M.con.ag := by rw [hMd]; exact hfine.ag
  have L2 : -1 ≤ M.con.sh := by rw [hMd]; exact hfine.sh
  have L3 : -1 ≤ M.exp := by rw [hMd]; exact sec_ge rs expN
  have HCq := Lib.hid hCq
  have Hwh := Lib.hid hwh
  have Hal := Lib.hid hal
  have Hop := Lib.hid hop
  have Hla := Lib.hid hla
  have Hfi := Lib.hid hfi
  clear hb hCq hMd hMc hwh hal hop hla hfi hfine hb2 hrq hrs hq hr hT hE hF hC
  go_enter Tryd.func7, Tryd.ntmps7
  go_wp2_with fail
  refine (known_lit mj code rsn p2 n2 k2 rs (-1) (-1) _ (HF.out.below HB2.out (Nat.le_refl _)) htr (HT.out.below HB2.out HT.out.lt) (HE.out.below HB2.out (Nat.le_refl _)) (HM.out.below HB2.out (Nat.le_refl _))).mono ?_
  rintro e w1 ⟨rfl, hb1⟩
  rw [← HMd.out]
  have h1 := Bl.old hb1 (block_lt HRQ.out) HRQ.out
  have h2 := Bl.old hb1 (block_lt HRS.out) HRS.out
  have hbw := HB2.out.trans (hb1.mono (by simp; omega))
  have hal1 : Below w1.heap.size w1 (w1.alloc (.cells (mcells M) 35)) := (Below.refl _ _).alloc (Nat.le_refl _) _
  have H := Lib.hid (show Ma w meth tgt mi (.slice p1 n1 k1) mj code rsn (.slice p2 n2 k2) w1.heap.size M (w1.alloc (.cells (mcells M) 35)) from
    ⟨Bl.old hal1 (block_lt h1) h1, Bl.old hal1 (block_lt h2) h2, new_block _ _, hbw.alloc hbw.size _⟩)
  have P1 := put_last w1 w1.heap.size rfl #[.int .i64 0, .bool false, .bool false, .bool false, .bool false, .bool false, .bool false, .bool false, .int .i64 0, .int .i64 0, .int .i64 0, .int .i64 0, .int .i64 0, .int .i64 0, .int .i64 0, .int .i64 0, .int .i64 0, .int .i64 0, .int .i64 0, .int .i64 0, .string ⟨#[]⟩] rfl M
  obtain ⟨Z, N, hZ⟩ := size_met
  have z1 := hZ.is
  have z2 := hZ.run
  have HN := Lib.hid hZ.num
  have n2' : (mcells M).size = N := hZ.num ▸ rfl
  have y5 : ¬ N = 0 := by rw [hZ.num]; decide
  obtain ⟨Z', N', hZ'⟩ := size_con
  have x1 := hZ'.is
  have x2 := hZ'.run
  have HN' := Lib.hid hZ'.num
  have x5 : ¬ N' = 0 := by rw [hZ'.num]; decide
  clear hZ hZ' hb1 h1 h2 hbw hal1 HB2 HRQ HRS
  go_upto_region 2 with fail
  generalize w1.alloc (.cells (mcells M) 35) = W1 at H ⊢
  obtain ⟨g, hg⟩ : ∃ g, g = w1.heap.size := ⟨_, rfl⟩
  rw [← hg] at H
  rw [← hg]
  clear hg P1 n2'
  have c0 := H.out.c0
  have c3 := H.out.c3
  go_cut [6] (fun s wx => s = .bool (b && !C.ns) ∧ Ma w meth tgt mi (.slice p1 n1 k1) mj code rsn (.slice p2 n2 k2) g M wx)
  case first =>
    cases b with
    | false =>
      go_wp2_with fail
      go_meet
      exact ⟨rfl, H.out⟩
    | true =>
      go_wp2_with fail
      refine (of_any _ rq _ (H.out.flds HQ.out) (by omega) (HT.out.below H.out.bel HT.out.lt)).mono ?_
      rintro e w2 ⟨rfl, hb2⟩
      rw [← HCq.out, conLit]
      have H2 := Lib.hid (H.out.more hb2)
      clear hb2
      go_wp2_with fail
      rw [con_ns]
      simp only [Result.andThen]
      rw [Oper.upon_value]
      go_wp2_with fail
      go_meet
      exact ⟨rfl, H2.out⟩
  case rest =>
  obtain ⟨rfl, H0⟩ := hcut
  obtain ⟨b1, hb1⟩ : ∃ b1, b1 = (b && !C.ns) := ⟨_, rfl⟩
  rw [← hb1]
  rw [← hb1] at HR
  have H1 := Lib.hid H0
  clear hb1 H0 H c0 c3 hbt
  go_upto_region 3 with fail
  have c1 := H1.out.ns
  have c3 := H1.out.pr
  go_cut [7] (fun s wx => s = .bool (bareB M.con) ∧ Ma w meth tgt mi (.slice p1 n1 k1) mj code rsn (.slice p2 n2 k2) g M wx)
  case first =>
    obtain ⟨ns, hns⟩ : ∃ x, x = M.con.ns := ⟨_, rfl⟩
    have HBB := Lib.hid (show bareB M.con = (!ns && !M.con.pr) from by unfold bareB; rw [hns])
    rw [← hns] at c1
    clear hns
    cases ns
    all_goals
      go_wp2_with fail
      go_meet
      exact ⟨by rw [HBB.out]; rfl, H1.out⟩
  case rest =>
  obtain ⟨rfl, H0⟩ := hcut
  obtain ⟨b2, hb2⟩ : ∃ x, x = bareB M.con := ⟨_, rfl⟩
  rw [← hb2]
  rw [← hb2] at HR
  have H2 := Lib.hid H0
  clear hb2 H0 H1 c1 c3
  go_upto_region 4 with fail
  cases b1 with
  | false =>
    go_wp2_with fail
    go_ret
    exact ⟨by rw [HR.out]; rfl, H2.out.bel⟩
  | true =>
  cases b2 with
  | false =>
    go_wp2_with fail
    go_ret
    exact ⟨by rw [HR.out]; rfl, H2.out.bel⟩
  | true =>
  have k0 := H2.out.met.code
  rw [HMc.out] at k0
  have q3 := H2.out.c3
  have r3 := H2.out.d3
  go_wp2_with fail
  refine (final_any code _).mono ?_
  rintro e w3 ⟨rfl, rfl⟩
  rw [← Hfi.out]
  cases fi with
  | false =>
    go_wp2_with fail
    go_ret
    exact ⟨by rw [HR.out]; rfl, H2.out.bel⟩
  | true =>
  go_wp2_with fail
  refine (whole_any _ rq code _ (H2.out.flds HQ.out) htq).mono ?_
  rintro e w4 ⟨rfl, hb4⟩
  rw [← Hwh.out]
  have H4 := Lib.hid (H2.out.more hb4)
  clear hb4 k0 q3 r3
  have r3 := H4.out.d3
  cases wh with
  | false =>
    go_wp2_with fail
    go_ret
    exact ⟨by rw [HR.out]; rfl, H4.out.bel⟩
  | true =>
  go_wp2_with fail
  refine (alike_any _ rs _ (H4.out.flds HF.out) htr).mono ?_
  rintro e w5 ⟨rfl, hb5⟩
  rw [← Hal.out]
  have H5 := Lib.hid (H4.out.more hb5)
  clear hb5 r3
  have q3 := H5.out.c3
  have l3 := H5.out.met.loadCon HN'.out
  cases al with
  | false =>
    go_wp2_with fail
    go_ret
    exact ⟨by rw [HR.out]; rfl, H5.out.bel⟩
  | true =>
  go_wp2_with fail
  refine (open_any _ rq M.con _ (H5.out.flds HQ.out) htq).mono ?_
  rintro e w6 ⟨rfl, hb6⟩
  rw [← Hop.out]
  have H6 := Lib.hid (H5.out.more hb6)
  clear hb6 q3 l3
  have l4 := H6.out.met.load HN.out
  cases op with
  | false =>
    go_wp2_with fail
    go_ret
    exact ⟨by rw [HR.out]; rfl, H6.out.bel⟩
  | true =>
  go_wp2_with fail
  refine (lasting_any M L1 L2 L3 _ (HT.out.below H6.out.bel HT.out.lt) (HE.out.below H6.out.bel (Nat.le_refl _)) (HM.out.below H6.out.bel (Nat.le_refl _)) (HC.out.below H6.out.bel HC.out.lt)).mono ?_
  rintro e w7 ⟨rfl, hb7⟩
  rw [← Hla.out]
  have H7 := Lib.hid (H6.out.more hb7)
  clear hb7 l4
  go_wp2_with fail
  go_ret
  exact ⟨by rw [HR.out]; rfl, H7.out.bel⟩
end Go.Proofs.YtjbdgndejbiikaaDoor.Sg
/-
  The region of StoringSays that makes a response of fields and one more, whatever order its operations come in. No condition but what each states.
-/
namespace Go.Proofs.YtjbdgndejbiikaaDoor.Sg
open Go.RowKit Go.Proofs.YtjbdgndejbiikaaDoor.Tk Go.Proofs.YtjbdgndejbiikaaDoor.Fd Go.Proofs.YtjbdgndejbiikaaDoor.Ct Go.Proofs.YtjbdgndejbiikaaDoor.Fh Go.Proofs.YtjbdgndejbiikaaDoor.Rg Go.Proofs.YtjbdgndejbiikaaDoor.Hd
set_option maxRecDepth 100000
set_option linter.unusedVariables false

theorem append_empty (ty : TypeId) (W : World) (g : Nat) (a : Addr) (c : Nat) : (Builtin.append_ #[22, 22] ty #[.slice (some ⟨g, 0, none⟩) 0 0, .slice (some a) 0 c]).run Tryd.prog W = .ok (.slice (some ⟨g, 0, none⟩) 0 0) W := by
  kernel_rfl
theorem append_nil (ty : TypeId) (W : World) (g : Nat) : (Builtin.append_ #[22, 22] ty #[.slice (some ⟨g, 0, none⟩) 0 0, .slice none 0 0]).run Tryd.prog W = .ok (.slice (some ⟨g, 0, none⟩) 0 0) W := by
  kernel_rfl
theorem rem3 (x : Int) (h0 : -2 ≤ x.tmod 3) (h1 : x.tmod 3 ≤ 2) (W : World) (p q : Operand) : (do eqGuard .rem 3 p q (.int .i64 x) (.int .i64 3); binOp .rem 3 (.int .i64 x) (.int .i64 3)).run Tryd.prog W = .ok (.int .i64 (x.tmod 3)) W := by
  go_simp
theorem add3 (x : Int) (h0 : -2 ≤ x) (h1 : x ≤ 2) (W : World) (p q : Operand) : (do eqGuard .add 3 p q (.int .i64 x) (.int .i64 3); binOp .add 3 (.int .i64 x) (.int .i64 3)).run Tryd.prog W = .ok (.int .i64 (x + 3)) W := by
  go_simp
  exact IntWalk.i64_in _ (by omega)
theorem idx3 (G j : Nat) (hj : j < 3) (W : World) : (Instr.indexAt 22 (.slice (some ⟨G, 0, none⟩) 3 3) (.int .i64 (j : Int))).run Tryd.prog W = .ok (.pointer (some ⟨G, j * 2, none⟩)) W := by
  have h0 : (0 : Int) ≤ (j : Int) := by omega
  have h1 : (j : Int) < 3 := by omega
  go_simp
theorem loadF {W : World} {g k : Nat} {x y : ByteArray} (h : W.cell? ⟨g, k, none⟩ = some (.string x)) (h2 : W.cell? ⟨g, k + 1, none⟩ = some (.string y)) : (Instr.loadAt 27 (.pointer (some ⟨g, k, none⟩))).run Tryd.prog W = .ok (.agg #[.string x, .string y]) W := by
  go_simp
theorem storeR {W : World} {r : Nat} {a b : Int} {s : ByteArray} {p : Option Addr} {n c : Nat} (h : W.heap[r]? = some (.cells #[.int .i64 0, .int .i64 0, .string ⟨#[]⟩, .slice none 0 0] 29 (0, 0))) :
    (Instr.storeAt 29 (.pointer (some ⟨r, 0, none⟩)) (.agg #[.int .i64 a, .int .i64 b, .string s, .slice p n c])).run Tryd.prog W = .ok () (W.setRow r #[.int .i64 a, .int .i64 b, .string s, .slice p n c]) := by
  have hq : (Tryd.prog.info? 29).map (·.size) = some (#[.int .i64 a, .int .i64 b, .string s, .slice p n c] : Array Value).size := by kernel_rfl
  have h1 := run_storeVar_row (P := Tryd.prog) W r _ _ _ #[.int .i64 a, .int .i64 b, .string s, .slice p n c] h hq rfl (by simp [Value.oneCell'])
  simp only [Instr.storeAt, Instr.sureAddr, Sem.run_bind, Sem.run_pure, Result.andThen]
  exact h1
theorem made0 (W : World) : (Instr.buildSlice 22 0 #[]).run Tryd.prog W = .ok (.slice (some ⟨W.heap.size, 0, none⟩) 0 0) (W.alloc (.cells #[] 27)) := by kernel_rfl
theorem made1 (x y : ByteArray) (W : World) : (Instr.buildSlice 22 1 #[(0, .agg #[.string x, .string y])]).run Tryd.prog W = .ok (.slice (some ⟨W.heap.size, 0, none⟩) 1 1) (W.alloc (.cells #[.string x, .string y] 27)) := by kernel_rfl
theorem madeR (k : Int) (p : Option Addr) (n c : Nat) (W : World) : (Instr.build 29 #[(1, .int .i64 k), (3, .slice p n c)]).run Tryd.prog W = .ok (.agg #[.int .i64 0, .int .i64 k, .string ⟨#[]⟩, .slice p n c]) W := by kernel_rfl
theorem allocR (W : World) : (Instr.alloc 29 true (.tuple #[])).run Tryd.prog W = .ok (.pointer (some ⟨W.heap.size, 0, none⟩)) (W.alloc (.cells #[.int .i64 0, .int .i64 0, .string ⟨#[]⟩, .slice none 0 0] 29)) := by kernel_rfl
/-! The operations. -/
structure ShapeS (ops : Array Oper) : Prop where
  size : ops.size = 16
  fwd : (List.range 16).all (fun i => ((ops[i]?).map fun o => o.after.all fun e => decide (e.on < i)).getD true) = true
  p0 : isG ops 0 none (some 23) (Op.move (.tmp 1))
  p1 : isG ops 1 none (some 24) (Op.buildSlice 22 0 #[])
  p2 : isG ops 2 none (some 25) (Op.move (.tmp 0))
  p3 : isG ops 3 none (some 26) (Op.call { callee := .builtin .append, args := #[.tmp 24, .tmp 25], argTypes := #[22, 22] })
  w3_1 : waits ops 3 1
  w3_2 : waits ops 3 2
  p4 : isG ops 4 none (some 27) (Op.move (.tmp 8))
  p5 : isG ops 5 none (some 28) (Op.move (.tmp 2))
  p6 : isG ops 6 none (some 29) (Op.binOp .rem 3 (.tmp 28) (.const (.int .i64 3)) 3)
  w6_5 : waits ops 6 5
  p7 : isG ops 7 none (some 30) (Op.binOp .add 3 (.tmp 29) (.const (.int .i64 3)) 3)
  w7_6 : waits ops 7 6
  p8 : isG ops 8 none (some 31) (Op.binOp .rem 3 (.tmp 30) (.const (.int .i64 3)) 3)
  w8_7 : waits ops 8 7
  p9 : isG ops 9 none (some 32) (Op.indexAddr 22 (.tmp 27) (.tmp 31))
  w9_4 : waits ops 9 4
  w9_8 : waits ops 9 8
  p10 : isG ops 10 none (some 33) (Op.load 27 (.tmp 32))
  w10_9 : waits ops 10 9
  p11 : isG ops 11 none (some 34) (Op.buildSlice 22 1 #[(0, .tmp 33)])
  w11_10 : waits ops 11 10
  p12 : isG ops 12 none (some 35) (Op.call { callee := .builtin .append, args := #[.tmp 26, .tmp 34], argTypes := #[22, 22] })
  w12_3 : waits ops 12 3
  w12_11 : waits ops 12 11
  p13 : isG ops 13 none (some 36) (Op.build 29 #[(1, .tmp 23), (3, .tmp 35)])
  w13_0 : waits ops 13 0
  w13_12 : waits ops 13 12
  p14 : isG ops 14 none (some 9) (Op.alloc 29)
  p15 : isG ops 15 none none (Op.store 29 (.tmp 9) (.tmp 36))
  w15_14 : waits ops 15 14
  w15_13 : waits ops 15 13
theorem ShapeS.fwd' {ops : Array Oper} (h : ShapeS ops) (i : Nat) (o : Oper) (ho : ops[i]? = some o) : ∀ e ∈ o.after, e.on < i := by
  have hi : i < 16 := by have := (Array.getElem?_eq_some_iff.1 ho).1; rw [h.size] at this; exact this
  have h1 := List.all_eq_true.1 h.fwd i (List.mem_range.2 hi)
  rw [ho] at h1
  intro e he
  have h2 := Array.all_eq_true_iff_forall_mem.1 h1 e he
  simpa using h2
def fixS (i : Nat) : Bool := i == 0 || i == 2 || (decide (4 ≤ i) && decide (i ≤ 10))
def valS (K : Int) (v0 : Value) (G j : Nat) (way : Int) (f : Fl) : Nat → Value
  | 0 => .int .i64 K
  | 2 => v0
  | 4 => .slice (some ⟨G, 0, none⟩) 3 3
  | 5 => .int .i64 way
  | 6 => .int .i64 (way.tmod 3)
  | 7 => .int .i64 (way.tmod 3 + 3)
  | 8 => .int .i64 (j : Int)
  | 9 => .pointer (some ⟨G, j * 2, none⟩)
  | _ => .agg #[.string f.1, .string f.2]
def zeroR : Array Value := #[.int .i64 0, .int .i64 0, .string ⟨#[]⟩, .slice none 0 0]
/-- What lies in memory: the fields that were put together so far, the field in its own row, the response; the flags tell which operations have come up. -/
structure StS (Wn : World) (fs : List Fl) (f : Fl) (K : Int) (b1 b3 b11 b12 b13 b14 b15 : Bool) (s24 s26 s35 s36 s34 s9 : Value) (W : World) (v : Value) (h r : Nat) : Prop where
  row : b1 = true → (if b12 then s35 else if b3 then s26 else s24) = v ∧ OwnF W Wn.heap.size v (if b12 then fs ++ [f] else if b3 then fs else []) ∧ (b3 = false → ∃ g, v = .slice (some ⟨g, 0, none⟩) 0 0) ∧ (b13 = true → s36 = .agg #[.int .i64 0, .int .i64 K, .string ⟨#[]⟩, v])
  box : b11 = true → s34 = .slice (some ⟨h, 0, none⟩) 1 1 ∧ (b12 = false → Wn.heap.size ≤ h ∧ W.heap[h]? = some (.cells #[.string f.1, .string f.2] 27 (0, 0)) ∧ (b1 = true → v.ownBlock ≠ some h))
  res : b14 = true → s9 = .pointer (some ⟨r, 0, none⟩) ∧ Wn.heap.size ≤ r ∧ W.heap[r]? = some (.cells (if b15 then #[.int .i64 0, .int .i64 K, .string ⟨#[]⟩, v] else zeroR) 29 (0, 0))
/-- Which wait for which. -/
structure OrdS (l : Array Bool) : Prop where
  o3 : l.getD 3 false = true → l.getD 1 false = true
  o12 : l.getD 12 false = true → l.getD 3 false = true
  o12b : l.getD 12 false = true → l.getD 11 false = true
  o13 : l.getD 13 false = true → l.getD 12 false = true
  o15 : l.getD 15 false = true → l.getD 13 false = true
  o15b : l.getD 15 false = true → l.getD 14 false = true
theorem same_flag {l : Array Bool} {i k : Nat} (h : k ≠ i) : (l.setIfInBounds i true).getD k false = l.getD k false := getD_set_ne false (Ne.symm h)
theorem set_flag {l : Array Bool} {i : Nat} (h : i < l.size) : (l.setIfInBounds i true).getD i false = true := by simp [h]
theorem OrdS.set {l : Array Bool} (h : OrdS l) (i : Nat) (h3 : i = 3 → l.getD 1 false = true) (h12 : i = 12 → l.getD 3 false = true ∧ l.getD 11 false = true) (h13 : i = 13 → l.getD 12 false = true) (h15 : i = 15 → l.getD 13 false = true ∧ l.getD 14 false = true) : OrdS (l.setIfInBounds i true) := by
  have go : ∀ {k m : Nat}, (l.getD k false = true → l.getD m false = true) → (i = k → l.getD m false = true) → (l.setIfInBounds i true).getD k false = true → (l.setIfInBounds i true).getD m false = true := by
    intro k m h1 h2 h4
    by_cases e : k = i
    · exact getD_set_true (h2 e.symm)
    · rw [same_flag e] at h4; exact getD_set_true (h1 h4)
  exact ⟨go h.o3 h3, go h.o12 (fun e => (h12 e).1), go h.o12b (fun e => (h12 e).2), go h.o13 h13, go h.o15 (fun e => (h15 e).1), go h.o15b (fun e => (h15 e).2)⟩
/-- What holds whatever has come up. -/
structure InvS (Wn : World) (fs : List Fl) (f : Fl) (K : Int) (v0 : Value) (G j : Nat) (way : Int) (a0 : Array Value) (l : Array Bool) (a : Act) (W : World) : Prop where
  lsz : l.size = 16
  tsz : a.tmps.size = 63
  dfr : a.defers = []
  low : ∀ t, t < 9 → a.tmps.getD t undef = a0.getD t undef
  bel : Below Wn.heap.size Wn W
  val : ∀ i, fixS i = true → l.getD i false = true → a.tmps.getD (23 + i) undef = valS K v0 G j way f i
  ord : OrdS l
  st : ∃ (v : Value) (h r : Nat), StS Wn fs f K (l.getD 1 false) (l.getD 3 false) (l.getD 11 false) (l.getD 12 false) (l.getD 13 false) (l.getD 14 false) (l.getD 15 false) (a.tmps.getD 24 undef) (a.tmps.getD 26 undef) (a.tmps.getD 35 undef) (a.tmps.getD 36 undef) (a.tmps.getD 34 undef) (a.tmps.getD 9 undef) W v h r
section
variable {Wn W : World} {fs : List Fl} {f : Fl} {K : Int} {v0 : Value} {G j : Nat} {way : Int} {a0 : Array Value} {l : Array Bool} {a : Act}
theorem fix_lt {i : Nat} (h : fixS i = true) : i = 0 ∨ i = 2 ∨ (4 ≤ i ∧ i ≤ 10) := by
  unfold fixS at h
  simp at h
  omega
/-- An operation that leaves one of the values above. -/
theorem InvS.fix (H : InvS Wn fs f K v0 G j way a0 l a W) (i : Nat) (hf : fixS i = true) : InvS Wn fs f K v0 G j way a0 (l.setIfInBounds i true) (a.put (some (23 + i)) (valS K v0 G j way f i)) W := by
  have hi := fix_lt hf
  obtain ⟨v, h, r, hs⟩ := H.st
  refine ⟨by rw [Array.size_setIfInBounds]; exact H.lsz, by rw [put_size]; exact H.tsz, H.dfr, fun t ht => by rw [put_other _ _ (by omega)]; exact H.low t ht, H.bel, ?_, H.ord.set i (by omega) (by omega) (by omega) (by omega), v, h, r, ?_⟩
  · intro k hk hl
    by_cases e : k = i
    · subst e; rw [put_same _ _ _ (by rw [H.tsz]; omega)]
    · rw [put_other _ _ (by omega)]; rw [same_flag e] at hl; exact H.val k hk hl
  · rw [same_flag (show 1 ≠ i by omega), same_flag (show 3 ≠ i by omega), same_flag (show 11 ≠ i by omega), same_flag (show 12 ≠ i by omega), same_flag (show 13 ≠ i by omega), same_flag (show 14 ≠ i by omega), same_flag (show 15 ≠ i by omega),
      put_other _ _ (show 24 ≠ 23 + i by omega), put_other _ _ (show 26 ≠ 23 + i by omega), put_other _ _ (show 35 ≠ 23 + i by omega), put_other _ _ (show 36 ≠ 23 + i by omega), put_other _ _ (show 34 ≠ 23 + i by omega), put_other _ _ (show 9 ≠ 23 + i by omega)]
    exact hs
/-- The rest of what holds, where an operation that is none of those comes up. -/
theorem InvS.rest (H : InvS Wn fs f K v0 G j way a0 l a W) (i d : Nat) (x : Value) (W' : World) (hi : i < 16) (hf : fixS i = false) (hd : d = 9 ∨ (d = 23 + i ∧ i < 15)) (hb : Below Wn.heap.size Wn W') (ho : OrdS (l.setIfInBounds i true))
    (hst : ∃ (v : Value) (h r : Nat), StS Wn fs f K ((l.setIfInBounds i true).getD 1 false) ((l.setIfInBounds i true).getD 3 false) ((l.setIfInBounds i true).getD 11 false) ((l.setIfInBounds i true).getD 12 false) ((l.setIfInBounds i true).getD 13 false) ((l.setIfInBounds i true).getD 14 false) ((l.setIfInBounds i true).getD 15 false) ((a.put (some d) x).tmps.getD 24 undef) ((a.put (some d) x).tmps.getD 26 undef) ((a.put (some d) x).tmps.getD 35 undef) ((a.put (some d) x).tmps.getD 36 undef) ((a.put (some d) x).tmps.getD 34 undef) ((a.put (some d) x).tmps.getD 9 undef) W' v h r) :
    InvS Wn fs f K v0 G j way a0 (l.setIfInBounds i true) (a.put (some d) x) W' := by
  refine ⟨by rw [Array.size_setIfInBounds]; exact H.lsz, by rw [put_size]; exact H.tsz, H.dfr, fun t ht => by rw [put_other _ _ (by omega)]; exact H.low t ht, hb, ?_, ho, hst⟩
  intro k hk hl
  have hne : k ≠ i := fun e => by rw [e, hf] at hk; cases hk
  have hk2 := fix_lt hk
  rw [same_flag hne] at hl
  rw [put_other _ _ (by omega)]
  exact H.val k hk hl
theorem own_apart {v : Value} {ks : List Fl} {base r : Nat} {cs : Array Value} (h : OwnF W base v ks) (hr : W.heap[r]? = some (.cells cs 29 (0, 0))) : v.ownBlock ≠ some r := by
  intro e
  obtain ⟨cur, hc⟩ := row_type h e
  rw [hr] at hc
  injection hc with hc
  injection hc with _ h2
  exact absurd h2 (by decide)
theorem flds_news' {a : Addr} {n c : Nat} (h : Flds W (.slice (some a) n c) fs) : ∀ j u, (flat fs)[j]? = some u → W.cell? (a.add j) = some u := by
  rcases h with ⟨rfl, _⟩ | ⟨b, off, cap, hv, _, hc⟩
  · intro j u hu; simp [flat] at hu
  · injection hv with ha hn hcap
    injection ha with ha
    subst ha
    intro j u hu
    have hj : j < (flat fs).length := (List.getElem?_eq_some_iff.1 hu).1
    rw [flat_length] at hj
    rw [Addr.add_lit]
    obtain ⟨e0, e1⟩ := flat_at fs (j / 2) (by omega)
    obtain ⟨c0, c1⟩ := hc (j / 2) (by omega)
    rcases Nat.mod_two_eq_zero_or_one j with hm | hm
    · have ej : j / 2 * 2 = j := by omega
      rw [ej] at e0 c0
      rw [c0, ← e0, hu]
    · have ej : j / 2 * 2 + 1 = j := by omega
      rw [ej] at e1
      rw [show off + j / 2 * 2 + 1 = off + j by omega] at c1
      rw [c1, ← e1, hu]
/-- What the region stands on. -/
structure HypS (Wn : World) (fs : List Fl) (f : Fl) (K : Int) (v0 : Value) (G j : Nat) (way : Int) (a0 : Array Value) : Prop where
  j3 : j < 3
  t0 : -2 ≤ way.tmod 3
  t1 : way.tmod 3 ≤ 2
  hj : (way.tmod 3 + 3).tmod 3 = (j : Int)
  s0 : a0.getD 0 undef = v0
  s1 : a0.getD 1 undef = .int .i64 K
  s2 : a0.getD 2 undef = .int .i64 way
  s8 : a0.getD 8 undef = .slice (some ⟨G, 0, none⟩) 3 3
  cells : ∀ W : World, Below Wn.heap.size Wn W → W.cell? ⟨G, j * 2, none⟩ = some (.string f.1) ∧ W.cell? ⟨G, j * 2 + 1, none⟩ = some (.string f.2)
  shape : v0 = .slice none 0 0 ∨ ∃ p n c, v0 = .slice (some p) n c
  flds : Flds Wn v0 fs
  len : fs.length ≤ 3000
theorem fixed {ops : Array Oper} {Q : Exit → Act → World → Prop} (H : InvS Wn fs f K v0 G j way a0 l a W) (i : Nat) (hf : fixS i = true) {op : Op} (hs : isG ops i none (some (23 + i)) op) (hrun : ∀ o : Oper, o.op = op → (execOp a.eval o).run Tryd.prog W = .ok (.value (valS K v0 G j way f i)) W) :
    wpOp Tryd.prog ops Q i (fun a' w' => InvS Wn fs f K v0 G j way a0 (l.setIfInBounds i true) a' w') a W := by
  obtain ⟨o, ho, hg, hd, hop⟩ := hs.oper
  exact op_value ho hg (hrun o hop) (by rw [hd]; exact H.fix i hf)
theorem InvS.step {ops : Array Oper} {Q : Exit → Act → World → Prop} {i : Nat} (hS : ShapeS ops) (Y : HypS Wn fs f K v0 G j way a0) (H : InvS Wn fs f K v0 G j way a0 l a W) (hr : i ∈ Region.ready .any ops l) :
    wpOp Tryd.prog ops Q i (fun a' w' => InvS Wn fs f K v0 G j way a0 (l.setIfInBounds i true) a' w') a W := by
  have hi : i < 16 := by
    obtain ⟨_, o, ho, _⟩ := mem_ready.1 hr
    have := (Array.getElem?_eq_some_iff.1 ho).1
    rw [hS.size] at this; exact this
  have hnew := ready_new hr
  have hls : i < l.size := by rw [H.lsz]; exact hi
  have hst := set_flag hls
  have t0 := (H.low 0 (by omega)).trans Y.s0
  have t1 := (H.low 1 (by omega)).trans Y.s1
  have t2 := (H.low 2 (by omega)).trans Y.s2
  have t8 := (H.low 8 (by omega)).trans Y.s8
  obtain ⟨v, h, r, hs⟩ := H.st
  have hal : ∀ o : Obj, Below W.heap.size W (W.alloc o) := fun o => (Below.refl _ _).alloc (Nat.le_refl _) _
  obtain ⟨i0, hi0, hz0, hz1, hz2⟩ := info_parts infoField
  have hlen := Y.len
  rcases (by omega : i = 0 ∨ i = 1 ∨ i = 2 ∨ i = 3 ∨ i = 4 ∨ i = 5 ∨ i = 6 ∨ i = 7 ∨ i = 8 ∨ i = 9 ∨ i = 10 ∨ i = 11 ∨ i = 12 ∨ i = 13 ∨ i = 14 ∨ i = 15) with rfl | rfl | rfl | rfl | rfl | rfl | rfl | rfl | rfl | rfl | rfl | rfl | rfl | rfl | rfl | rfl
  · refine fixed H 0 rfl hS.p0 fun o hop => ?_
    unfold execOp
    rw [hop]
    simp only [Act.eval, t1]
    rfl
  · obtain ⟨o, ho, hg, hd, hop⟩ := hS.p1.oper
    have f3 : l.getD 3 false = false := by cases h3 : l.getD 3 false with | false => rfl | true => rw [H.ord.o3 h3] at hnew; cases hnew
    have f12 : l.getD 12 false = false := by cases h3 : l.getD 12 false with | false => rfl | true => rw [H.ord.o12 h3] at f3; cases f3
    have f13 : l.getD 13 false = false := by cases h3 : l.getD 13 false with | false => rfl | true => rw [H.ord.o13 h3] at f12; cases f12
    have f15 : l.getD 15 false = false := by cases h3 : l.getD 15 false with | false => rfl | true => rw [H.ord.o15 h3] at f13; cases f13
    refine op_value ho hg (v := .slice (some ⟨W.heap.size, 0, none⟩) 0 0) (w' := W.alloc (.cells #[] 27)) ?_ ?_
    · unfold execOp
      rw [hop]
      simp only [Array.map_empty]
      rw [Sem.run_bind, made0]
      rfl
    · rw [hd]
      refine H.rest 1 24 _ _ (by omega) rfl (by omega) (Bl.next H.bel (hal _)) (H.ord.set 1 (by omega) (by omega) (by omega) (by omega)) ⟨.slice (some ⟨W.heap.size, 0, none⟩) 0 0, h, r, ?_⟩
      rw [set_flag hls, same_flag (show 3 ≠ 1 by omega), same_flag (show 11 ≠ 1 by omega), same_flag (show 12 ≠ 1 by omega), same_flag (show 13 ≠ 1 by omega), same_flag (show 14 ≠ 1 by omega), same_flag (show 15 ≠ 1 by omega)]
      rw [put_same _ _ _ (show 24 < a.tmps.size by rw [H.tsz]; omega), put_other _ _ (show 26 ≠ 24 by omega), put_other _ _ (show 35 ≠ 24 by omega), put_other _ _ (show 36 ≠ 24 by omega), put_other _ _ (show 34 ≠ 24 by omega), put_other _ _ (show 9 ≠ 24 by omega)]
      rw [f3, f12, f13, f15]
      refine ⟨fun _ => ⟨rfl, ?_, fun _ => ⟨_, rfl⟩, fun e => (by cases e)⟩, fun e => ?_, fun e => ?_⟩
      · exact World.ownsRow_lit (base := Wn.heap.size) (e := 27) (size := 2) W #[] 0 H.bel.size (by unfold maxLen; omega) rfl
      · obtain ⟨h1, h2⟩ := hs.box e
        obtain ⟨h3, h4, _⟩ := h2 f12
        refine ⟨h1, fun _ => ⟨h3, (old_block _ _ (block_lt h4)).trans h4, fun _ e2 => ?_⟩⟩
        injection e2 with e2
        have := block_lt h4
        have e3 : W.heap.size = h := e2
        omega
      · obtain ⟨h1, h2, h3⟩ := hs.res e
        rw [f15] at h3
        exact ⟨h1, h2, (old_block _ _ (block_lt h3)).trans h3⟩
  · refine fixed H 2 rfl hS.p2 fun o hop => ?_
    unfold execOp
    rw [hop]
    simp only [Act.eval, t0]
    rfl
  · obtain ⟨o, ho, hg, hd, hop⟩ := hS.p3.oper
    have l1 := hS.w3_1.listed hr
    have f12 : l.getD 12 false = false := by cases h3 : l.getD 12 false with | false => rfl | true => rw [H.ord.o12 h3] at hnew; cases hnew
    have f13 : l.getD 13 false = false := by cases h3 : l.getD 13 false with | false => rfl | true => rw [H.ord.o13 h3] at f12; cases f12
    have f15 : l.getD 15 false = false := by cases h3 : l.getD 15 false with | false => rfl | true => rw [H.ord.o15 h3] at f13; cases f13
    have x2 : a.tmps.getD 25 undef = v0 := H.val 2 rfl (hS.w3_2.listed hr)
    obtain ⟨r1, r2, r3, _⟩ := hs.row l1
    rw [f12, hnew] at r1 r2
    obtain ⟨g, hv⟩ := r3 hnew
    have x1 : a.tmps.getD 24 undef = v := r1
    subst hv
    -- the box and the response stay where the row alone grows
    have stay3 : ∀ (v' : Value) (W' : World), OwnF W' Wn.heap.size v' fs → (∀ k, k < W.heap.size → (some k ≠ (Value.slice (some ⟨g, 0, none⟩) 0 0).ownBlock) → W'.heap[k]? = W.heap[k]?) → (∀ k, l.getD 11 false = true → k = h → v'.ownBlock ≠ some k) → StS Wn fs f K true true (l.getD 11 false) false false (l.getD 14 false) false (a.tmps.getD 24 undef) v' (a.tmps.getD 35 undef) (a.tmps.getD 36 undef) (a.tmps.getD 34 undef) (a.tmps.getD 9 undef) W' v' h r := by
      intro v' W' hO hblk hno
      refine ⟨fun _ => ⟨rfl, hO, fun e => (by cases e), fun e => (by cases e)⟩, fun e => ?_, fun e => ?_⟩
      · obtain ⟨h1, h2⟩ := hs.box e
        obtain ⟨h3, h4, h5⟩ := h2 f12
        exact ⟨h1, fun _ => ⟨h3, (hblk h (block_lt h4) (fun e2 => h5 l1 e2.symm)).trans h4, fun _ => hno h e rfl⟩⟩
      · obtain ⟨h1, h2, h3⟩ := hs.res e
        rw [f15] at h3
        exact ⟨h1, h2, (hblk r (block_lt h3) (fun e2 => own_apart (ks := []) r2 h3 e2.symm)).trans h3⟩
    have fin3 : ∀ (v' : Value) (W' : World), Below Wn.heap.size Wn W' → StS Wn fs f K true true (l.getD 11 false) false false (l.getD 14 false) false (a.tmps.getD 24 undef) v' (a.tmps.getD 35 undef) (a.tmps.getD 36 undef) (a.tmps.getD 34 undef) (a.tmps.getD 9 undef) W' v' h r → InvS Wn fs f K v0 G j way a0 (l.setIfInBounds 3 true) (a.put (some 26) v') W' := by
      intro v' W' hb hst2
      refine H.rest 3 26 _ _ (by omega) rfl (by omega) hb (H.ord.set 3 (fun _ => l1) (by omega) (by omega) (by omega)) ⟨v', h, r, ?_⟩
      rw [same_flag (show 1 ≠ 3 by omega), set_flag hls, same_flag (show 11 ≠ 3 by omega), same_flag (show 12 ≠ 3 by omega), same_flag (show 13 ≠ 3 by omega), same_flag (show 14 ≠ 3 by omega), same_flag (show 15 ≠ 3 by omega)]
      rw [put_other _ _ (show 24 ≠ 26 by omega), put_same _ _ _ (show 26 < a.tmps.size by rw [H.tsz]; omega), put_other _ _ (show 35 ≠ 26 by omega), put_other _ _ (show 36 ≠ 26 by omega), put_other _ _ (show 34 ≠ 26 by omega), put_other _ _ (show 9 ≠ 26 by omega)]
      rw [l1, f12, f13, f15]
      exact hst2
    have same3 : fs = [] → InvS Wn fs f K v0 G j way a0 (l.setIfInBounds 3 true) (a.put (some 26) (.slice (some ⟨g, 0, none⟩) 0 0)) W := fun hfs =>
      fin3 _ W H.bel (stay3 _ W (by rw [hfs]; exact r2) (fun _ _ _ => rfl) (fun k e ek => by subst ek; exact ((hs.box e).2 f12).2.2 l1))
    rcases Y.shape with hv0 | ⟨p, n, c, hv0⟩
    · have hfs : fs = [] := by
        have hfl := Y.flds
        rw [hv0] at hfl
        obtain ⟨a', c', e⟩ := hfl.shape
        injection e with _ e2
        exact List.length_eq_zero_iff.1 e2.symm
      refine op_value ho hg (v := .slice (some ⟨g, 0, none⟩) 0 0) (w' := W) ?_ (by rw [hd]; exact same3 hfs)
      rw [hv0] at x2
      unfold execOp
      simp only [hop, resolve, invoke, builtin, Sem.run_bind, Sem.run_pure, Result.andThen_ok, List.map_toArray, List.map_cons, List.map_nil, Act.eval, x1, x2, append_nil]
    · have hn : n = fs.length := by
        have hfl := Y.flds
        rw [hv0] at hfl
        obtain ⟨a', c', e⟩ := hfl.shape
        injection e
      rw [hv0] at x2
      by_cases h0 : fs = []
      · refine op_value ho hg (v := .slice (some ⟨g, 0, none⟩) 0 0) (w' := W) ?_ (by rw [hd]; exact same3 h0)
        have hn0 : n = 0 := by rw [hn, h0]; rfl
        rw [hn0] at x2
        unfold execOp
        simp only [hop, resolve, invoke, builtin, Sem.run_bind, Sem.run_pure, Result.andThen_ok, List.map_toArray, List.map_cons, List.map_nil, Act.eval, x1, x2, append_empty]
      · have hpos : 0 < fs.length := List.length_pos_iff.2 h0
        have hnews := flds_news' (show Flds W (.slice (some p) n c) fs from by rw [← hv0]; exact Y.flds.below H.bel (Nat.le_refl _))
        unfold wpOp
        simp only [ho, Region.wanted, hg, if_true]
        refine .inl ?_
        refine wp_append_lies W (.tmp 24) (.tmp 25) 22 hop Wn.heap.size 27 i0 (.agg #[.string ⟨#[]⟩, .string ⟨#[]⟩]) 2 32 Tryd.underlying22 hi0 hz0 hz1 hz2 rfl (by decide) (.slice (some ⟨g, 0, none⟩) 0 0) 0 [] x1 r2 p n c (flat fs) x2 (by rw [flat_length, hn]) hnews (flat_one fs) (by omega) (by unfold maxLen; omega) (by omega) H.bel.size _ rfl ?_
        intro g' cap' W' hown hgrow hat hlt
        rw [hd]
        have hb' : Below Wn.heap.size Wn W' := H.bel.grown hgrow H.bel.size (fun q hq => OwnF.row (fs := []) r2 q hq)
        refine fin3 _ W' hb' (stay3 _ W' ?_ (fun k hk hne => hgrow.block k hk hne) (fun k e ek => ?_))
        · unfold OwnF
          rw [List.nil_append, Nat.zero_add, hn] at hown
          rw [Nat.zero_add, hn]
          exact hown
        · subst ek
          intro e2
          have e3 : g' = k := by injection e2
          rcases hat with h6 | h6
          · exact ((hs.box e).2 f12).2.2 l1 (by rw [h6, e3])
          · have := block_lt ((hs.box e).2 f12).2.1
            omega
  · refine fixed H 4 rfl hS.p4 fun o hop => ?_
    unfold execOp
    rw [hop]
    simp only [Act.eval, t8]
    rfl
  · refine fixed H 5 rfl hS.p5 fun o hop => ?_
    unfold execOp
    rw [hop]
    simp only [Act.eval, t2]
    rfl
  · have v5 : a.tmps.getD 28 undef = .int .i64 way := H.val 5 rfl (hS.w6_5.listed hr)
    refine fixed H 6 rfl hS.p6 fun o hop => ?_
    unfold execOp
    rw [hop]
    simp only [Act.eval, v5]
    rw [Sem.run_bind, rem3 way Y.t0 Y.t1]
    rfl
  · have v6 : a.tmps.getD 29 undef = .int .i64 (way.tmod 3) := H.val 6 rfl (hS.w7_6.listed hr)
    refine fixed H 7 rfl hS.p7 fun o hop => ?_
    unfold execOp
    rw [hop]
    simp only [Act.eval, v6]
    rw [Sem.run_bind, add3 _ Y.t0 Y.t1]
    rfl
  · have v7 : a.tmps.getD 30 undef = .int .i64 (way.tmod 3 + 3) := H.val 7 rfl (hS.w8_7.listed hr)
    have hj := Y.hj
    have hj3 := Y.j3
    refine fixed H 8 rfl hS.p8 fun o hop => ?_
    unfold execOp
    rw [hop]
    simp only [Act.eval, v7]
    rw [Sem.run_bind, rem3 (way.tmod 3 + 3) (by omega) (by omega), hj]
    rfl
  · have v4 : a.tmps.getD 27 undef = .slice (some ⟨G, 0, none⟩) 3 3 := H.val 4 rfl (hS.w9_4.listed hr)
    have v8 : a.tmps.getD 31 undef = .int .i64 (j : Int) := H.val 8 rfl (hS.w9_8.listed hr)
    refine fixed H 9 rfl hS.p9 fun o hop => ?_
    unfold execOp
    rw [hop]
    simp only [Act.eval, v4, v8]
    rw [Sem.run_bind, idx3 G j Y.j3]
    rfl
  · have v9 : a.tmps.getD 32 undef = .pointer (some ⟨G, j * 2, none⟩) := H.val 9 rfl (hS.w10_9.listed hr)
    have hc := Y.cells W H.bel
    refine fixed H 10 rfl hS.p10 fun o hop => ?_
    unfold execOp
    rw [hop]
    simp only [Act.eval, v9]
    rw [Sem.run_bind, loadF hc.1 hc.2]
    rfl
  · obtain ⟨o, ho, hg, hd, hop⟩ := hS.p11.oper
    have f12 : l.getD 12 false = false := by cases h3 : l.getD 12 false with | false => rfl | true => rw [H.ord.o12b h3] at hnew; cases hnew
    have f13 : l.getD 13 false = false := by cases h3 : l.getD 13 false with | false => rfl | true => rw [H.ord.o13 h3] at f12; cases f12
    have f15 : l.getD 15 false = false := by cases h3 : l.getD 15 false with | false => rfl | true => rw [H.ord.o15 h3] at f13; cases f13
    have x10 : a.tmps.getD 33 undef = .agg #[.string f.1, .string f.2] := H.val 10 rfl (hS.w11_10.listed hr)
    refine op_value ho hg (v := .slice (some ⟨W.heap.size, 0, none⟩) 1 1) (w' := W.alloc (.cells #[.string f.1, .string f.2] 27)) ?_ ?_
    · unfold execOp
      rw [hop]
      simp only [List.map_toArray, List.map_cons, List.map_nil, Act.eval, x10]
      rw [Sem.run_bind, made1]
      rfl
    · rw [hd]
      refine H.rest 11 34 _ _ (by omega) rfl (by omega) (Bl.next H.bel (hal _)) (H.ord.set 11 (by omega) (by omega) (by omega) (by omega)) ⟨v, W.heap.size, r, ?_⟩
      rw [same_flag (show 1 ≠ 11 by omega), same_flag (show 3 ≠ 11 by omega), set_flag hls, same_flag (show 12 ≠ 11 by omega), same_flag (show 13 ≠ 11 by omega), same_flag (show 14 ≠ 11 by omega), same_flag (show 15 ≠ 11 by omega)]
      rw [put_other _ _ (show 24 ≠ 34 by omega), put_other _ _ (show 26 ≠ 34 by omega), put_other _ _ (show 35 ≠ 34 by omega), put_other _ _ (show 36 ≠ 34 by omega), put_same _ _ _ (show 34 < a.tmps.size by rw [H.tsz]; omega), put_other _ _ (show 9 ≠ 34 by omega)]
      rw [f12, f13, f15]
      refine ⟨fun e => ?_, fun _ => ⟨rfl, fun _ => ⟨H.bel.size, new_block _ _, fun e e2 => ?_⟩⟩, fun e => ?_⟩
      · obtain ⟨h1, h2, h3, _⟩ := hs.row e
        rw [f12] at h1 h2
        exact ⟨h1, OwnF.kept h2 (hal _), h3, fun e => (by cases e)⟩
      · obtain ⟨_, h2, _⟩ := hs.row e
        have := (World.ownsRow.lt h2 W.heap.size e2).2
        omega
      · obtain ⟨h1, h2, h3⟩ := hs.res e
        rw [f15] at h3
        exact ⟨h1, h2, (old_block _ _ (block_lt h3)).trans h3⟩
  · obtain ⟨o, ho, hg, hd, hop⟩ := hS.p12.oper
    have l3 := hS.w12_3.listed hr
    have l11 := hS.w12_11.listed hr
    have l1 := H.ord.o3 l3
    have f13 : l.getD 13 false = false := by cases h3 : l.getD 13 false with | false => rfl | true => rw [H.ord.o13 h3] at hnew; cases hnew
    have f15 : l.getD 15 false = false := by cases h3 : l.getD 15 false with | false => rfl | true => rw [H.ord.o15 h3] at f13; cases f13
    obtain ⟨r1, r2, _⟩ := hs.row l1
    rw [hnew, l3] at r1 r2
    have x1 : a.tmps.getD 26 undef = v := r1
    have r2' : OwnF W Wn.heap.size v fs := r2
    obtain ⟨x2, hbx⟩ := hs.box l11
    obtain ⟨_, hbh, _⟩ := hbx hnew
    unfold wpOp
    simp only [ho, Region.wanted, hg, if_true]
    refine .inl ?_
    refine wp_append_lies W (.tmp 26) (.tmp 34) 22 hop Wn.heap.size 27 i0 (.agg #[.string ⟨#[]⟩, .string ⟨#[]⟩]) 2 32 Tryd.underlying22 hi0 hz0 hz1 hz2 rfl (by decide) v fs.length (flat fs) x1 r2' ⟨h, 0, none⟩ 1 1 [.string f.1, .string f.2] x2 rfl (news_at hbh) (one_cells f.1 f.2) (by omega) (by unfold maxLen; omega) (by omega) H.bel.size _ rfl ?_
    intro g' cap' W' hown hgrow hat hlt
    rw [hd]
    have hb' : Below Wn.heap.size Wn W' := H.bel.grown hgrow H.bel.size (fun q hq => OwnF.row r2' q hq)
    refine H.rest 12 35 _ _ (by omega) rfl (by omega) hb' (H.ord.set 12 (by omega) (fun _ => ⟨l3, l11⟩) (by omega) (by omega)) ⟨.slice (some ⟨g', 0, none⟩) (fs.length + 1) cap', h, r, ?_⟩
    rw [same_flag (show 1 ≠ 12 by omega), same_flag (show 3 ≠ 12 by omega), same_flag (show 11 ≠ 12 by omega), set_flag hls, same_flag (show 13 ≠ 12 by omega), same_flag (show 14 ≠ 12 by omega), same_flag (show 15 ≠ 12 by omega)]
    rw [put_other _ _ (show 24 ≠ 35 by omega), put_other _ _ (show 26 ≠ 35 by omega), put_same _ _ _ (show 35 < a.tmps.size by rw [H.tsz]; omega), put_other _ _ (show 36 ≠ 35 by omega), put_other _ _ (show 34 ≠ 35 by omega), put_other _ _ (show 9 ≠ 35 by omega)]
    rw [l1, l3, l11, f13, f15]
    refine ⟨fun _ => ⟨rfl, ?_, fun e => (by cases e), fun e => (by cases e)⟩, fun _ => ⟨x2, fun e => (by cases e)⟩, fun e => ?_⟩
    · show OwnF W' Wn.heap.size _ (fs ++ [f])
      unfold OwnF
      rw [show fs ++ [f] = fs ++ [(f.1, f.2)] from rfl, flat_snoc, List.length_append]
      exact hown
    · obtain ⟨h1, h2, h3⟩ := hs.res e
      rw [f15] at h3
      exact ⟨h1, h2, (hgrow.block r (block_lt h3) (fun e2 => own_apart r2' h3 e2.symm)).trans h3⟩
  · obtain ⟨o, ho, hg, hd, hop⟩ := hS.p13.oper
    have l12 := hS.w13_12.listed hr
    have l3 := H.ord.o12 l12
    have l1 := H.ord.o3 l3
    have f15 : l.getD 15 false = false := by cases h3 : l.getD 15 false with | false => rfl | true => rw [H.ord.o15 h3] at hnew; cases hnew
    have x0 : a.tmps.getD 23 undef = .int .i64 K := H.val 0 rfl (hS.w13_0.listed hr)
    obtain ⟨r1, r2, r3, _⟩ := hs.row l1
    rw [l12] at r1 r2
    have x1 : a.tmps.getD 35 undef = v := r1
    have r2' : OwnF W Wn.heap.size v (fs ++ [f]) := r2
    obtain ⟨p, c, hv⟩ := r2'.form
    refine op_value ho hg (v := .agg #[.int .i64 0, .int .i64 K, .string ⟨#[]⟩, v]) (w' := W) ?_ ?_
    · rw [hv] at x1
      unfold execOp
      rw [hop]
      simp only [List.map_toArray, List.map_cons, List.map_nil, Act.eval, x0, x1]
      rw [Sem.run_bind, madeR, hv]
      rfl
    · rw [hd]
      refine H.rest 13 36 _ _ (by omega) rfl (by omega) H.bel (H.ord.set 13 (by omega) (by omega) (fun _ => l12) (by omega)) ⟨v, h, r, ?_⟩
      rw [same_flag (show 1 ≠ 13 by omega), same_flag (show 3 ≠ 13 by omega), same_flag (show 11 ≠ 13 by omega), same_flag (show 12 ≠ 13 by omega), set_flag hls, same_flag (show 14 ≠ 13 by omega), same_flag (show 15 ≠ 13 by omega)]
      rw [put_other _ _ (show 24 ≠ 36 by omega), put_other _ _ (show 26 ≠ 36 by omega), put_other _ _ (show 35 ≠ 36 by omega), put_same _ _ _ (show 36 < a.tmps.size by rw [H.tsz]; omega), put_other _ _ (show 34 ≠ 36 by omega), put_other _ _ (show 9 ≠ 36 by omega)]
      rw [l1, l3, l12, f15]
      refine ⟨fun _ => ⟨x1, r2', fun e => (by cases e), fun _ => rfl⟩, fun e => ⟨(hs.box e).1, fun e => (by cases e)⟩, fun e => ?_⟩
      have h3 := hs.res e
      rw [f15] at h3
      exact h3
  · obtain ⟨o, ho, hg, hd, hop⟩ := hS.p14.oper
    have f15 : l.getD 15 false = false := by cases h3 : l.getD 15 false with | false => rfl | true => rw [H.ord.o15b h3] at hnew; cases hnew
    refine op_value ho hg (v := .pointer (some ⟨W.heap.size, 0, none⟩)) (w' := W.alloc (.cells zeroR 29)) ?_ ?_
    · unfold execOp
      rw [hop]
      simp only
      rw [Sem.run_bind, allocR]
      rfl
    · rw [hd]
      refine H.rest 14 9 _ _ (by omega) rfl (by omega) (Bl.next H.bel (hal _)) (H.ord.set 14 (by omega) (by omega) (by omega) (by omega)) ⟨v, h, W.heap.size, ?_⟩
      rw [same_flag (show 1 ≠ 14 by omega), same_flag (show 3 ≠ 14 by omega), same_flag (show 11 ≠ 14 by omega), same_flag (show 12 ≠ 14 by omega), same_flag (show 13 ≠ 14 by omega), set_flag hls, same_flag (show 15 ≠ 14 by omega)]
      rw [put_other _ _ (show 24 ≠ 9 by omega), put_other _ _ (show 26 ≠ 9 by omega), put_other _ _ (show 35 ≠ 9 by omega), put_other _ _ (show 36 ≠ 9 by omega), put_other _ _ (show 34 ≠ 9 by omega), put_same _ _ _ (show 9 < a.tmps.size by rw [H.tsz]; omega)]
      rw [f15]
      refine ⟨fun e => ?_, fun e => ?_, fun _ => ⟨rfl, H.bel.size, new_block _ _⟩⟩
      · obtain ⟨h1, h2, h3, h4⟩ := hs.row e
        exact ⟨h1, OwnF.kept h2 (hal _), h3, h4⟩
      · obtain ⟨h1, h2⟩ := hs.box e
        refine ⟨h1, fun e2 => ?_⟩
        obtain ⟨h3, h4, h5⟩ := h2 e2
        exact ⟨h3, (old_block _ _ (block_lt h4)).trans h4, h5⟩
  · obtain ⟨o, ho, hg, hd, hop⟩ := hS.p15.oper
    have l14 := hS.w15_14.listed hr
    have l13 := hS.w15_13.listed hr
    have l12 := H.ord.o13 l13
    have l3 := H.ord.o12 l12
    have l1 := H.ord.o3 l3
    have l11 := H.ord.o12b l12
    obtain ⟨r1, r2, r3, r4⟩ := hs.row l1
    rw [l12] at r1 r2
    have r2' : OwnF W Wn.heap.size v (fs ++ [f]) := r2
    have x36 := r4 l13
    obtain ⟨x9, hrb, hrh⟩ := hs.res l14
    rw [hnew] at hrh
    have hrh' : W.heap[r]? = some (.cells #[.int .i64 0, .int .i64 0, .string ⟨#[]⟩, .slice none 0 0] 29 (0, 0)) := hrh
    have hap := own_apart r2' hrh'
    obtain ⟨p, c, hv⟩ := r2'.form
    refine op_skip ho hg (w' := W.setRow r #[.int .i64 0, .int .i64 K, .string ⟨#[]⟩, v]) ?_ ?_
    · rw [hv] at x36
      unfold execOp
      rw [hop]
      simp only [Act.eval, x9, x36]
      rw [Sem.run_bind, storeR hrh', hv]
      rfl
    · rw [hd]
      have hb' : Below Wn.heap.size Wn (W.setRow r #[.int .i64 0, .int .i64 K, .string ⟨#[]⟩, v]) := H.bel.trans ⟨rfl, rfl, rfl, by simp [World.setRow], fun k hk => setRow_other W _ _ _ (by omega)⟩
      refine ⟨by rw [Array.size_setIfInBounds]; exact H.lsz, H.tsz, H.dfr, H.low, hb', fun k hk hl => ?_, H.ord.set 15 (by omega) (by omega) (by omega) (fun _ => ⟨l13, l14⟩), v, h, r, ?_⟩
      · have hk2 := fix_lt hk
        rw [same_flag (show k ≠ 15 by omega)] at hl
        exact H.val k hk hl
      · rw [same_flag (show 1 ≠ 15 by omega), same_flag (show 3 ≠ 15 by omega), same_flag (show 11 ≠ 15 by omega), same_flag (show 12 ≠ 15 by omega), same_flag (show 13 ≠ 15 by omega), same_flag (show 14 ≠ 15 by omega), set_flag hls]
        rw [l1, l3, l11, l12, l13, l14]
        refine ⟨fun _ => ⟨r1, ?_, fun e => (by cases e), fun _ => x36⟩, fun _ => ⟨(hs.box l11).1, fun e => (by cases e)⟩, fun _ => ⟨x9, hrb, setRow_heap W r _ _ _ _ hrh'⟩⟩
        refine ⟨r2'.1, ?_⟩
        rcases r2'.2 with h2 | ⟨g, cap, cur, hv2, hg2, hh, rr⟩
        · exact .inl h2
        · exact .inr ⟨g, cap, cur, hv2, hg2, (setRow_other W _ _ _ (fun e => hap (by rw [hv2, e]; rfl))).trans hh, rr⟩
theorem says_region {ops : Array Oper} {Q : Exit → Act → World → Prop} (hS : ShapeS ops) (Y : HypS Wn fs f K v0 G j way a.tmps) (hsz : a.tmps.size = 63) (hdf : a.defers = [])
    (hQ : ∀ a' w' v r, a'.tmps.size = 63 → a'.defers = [] → (∀ t, t < 9 → a'.tmps.getD t undef = a.tmps.getD t undef) → Below Wn.heap.size Wn w' → a'.tmps.getD 9 undef = .pointer (some ⟨r, 0, none⟩) → Wn.heap.size ≤ r →
      w'.heap[r]? = some (.cells #[.int .i64 0, .int .i64 K, .string ⟨#[]⟩, v] 29 (0, 0)) → OwnF w' Wn.heap.size v (fs ++ [f]) → Q .normal a' w') : (Code.region 6 ops true).wp Tryd.prog Q a Wn := by
  have hnl : ∀ i, (Array.replicate 16 false).getD i false = false := fun i => by
    rcases Nat.lt_or_ge i 16 with h | h
    · simp [h]
    · simp [h]
  refine wp_region_any (by kernel_rfl) ?_
  rw [hS.size]
  refine any_inv (P := Tryd.prog) (ops := ops) (Q := Q) (md := .any) (I := fun _ listed a' w' => InvS Wn fs f K v0 G j way a.tmps listed a' w')
    (fun _ listed a' w' i hI hr => InvS.step hS Y hI hr)
    (fun _ listed a' w' hI hr => ?_)
    16 (Array.replicate 16 false) a Wn.drew (by rw [hS.size]; exact all_unlisted 16) ?_
  · have h2 := all_listed hS.fwd' (by rw [hS.size]; exact hI.lsz) hr
    rw [hS.size] at h2
    obtain ⟨v, h, r, hs⟩ := hI.st
    rw [h2 1 (by omega), h2 3 (by omega), h2 11 (by omega), h2 12 (by omega), h2 13 (by omega), h2 14 (by omega), h2 15 (by omega)] at hs
    obtain ⟨_, r2, _, _⟩ := hs.row rfl
    obtain ⟨r4, r5, r6⟩ := hs.res rfl
    exact hQ a' w' v r hI.tsz hI.dfr hI.low hI.bel r4 r5 r6 r2
  · refine ⟨by simp, hsz, hdf, fun _ _ => rfl, (Below.refl _ _).drew, fun i _ h => ?_, ⟨?_, ?_, ?_, ?_, ?_, ?_⟩, .nilFunc, 0, 0, ?_⟩
    · rw [hnl] at h; cases h
    · intro h; rw [hnl] at h; cases h
    · intro h; rw [hnl] at h; cases h
    · intro h; rw [hnl] at h; cases h
    · intro h; rw [hnl] at h; cases h
    · intro h; rw [hnl] at h; cases h
    · intro h; rw [hnl] at h; cases h
    · refine ⟨fun h => ?_, fun h => ?_, fun h => ?_⟩
      · rw [hnl] at h; cases h
      · rw [hnl] at h; cases h
      · rw [hnl] at h; cases h
end
/-- A frame of 63 slots, of which ten are known. -/
theorem act63 {Q : Act → Prop} (a' : Act) (hs : a'.tmps.size = 63) (hd : a'.defers = []) (x0 x1 x2 x3 x4 x5 x6 x7 x8 x9 : Value) (h0 : a'.tmps.getD 0 undef = x0) (h1 : a'.tmps.getD 1 undef = x1) (h2 : a'.tmps.getD 2 undef = x2) (h3 : a'.tmps.getD 3 undef = x3) (h4 : a'.tmps.getD 4 undef = x4) (h5 : a'.tmps.getD 5 undef = x5) (h6 : a'.tmps.getD 6 undef = x6) (h7 : a'.tmps.getD 7 undef = x7) (h8 : a'.tmps.getD 8 undef = x8) (h9 : a'.tmps.getD 9 undef = x9)
    (h : ∀ f : Nat → Value, Q ⟨(x0 :: x1 :: x2 :: x3 :: x4 :: x5 :: x6 :: x7 :: x8 :: x9 :: f 10 :: f 11 :: f 12 :: f 13 :: f 14 :: f 15 :: f 16 :: f 17 :: f 18 :: f 19 :: f 20 :: f 21 :: f 22 :: f 23 :: f 24 :: f 25 :: f 26 :: f 27 :: f 28 :: f 29 :: f 30 :: f 31 :: f 32 :: f 33 :: f 34 :: f 35 :: f 36 :: f 37 :: f 38 :: f 39 :: f 40 :: f 41 :: f 42 :: f 43 :: f 44 :: f 45 :: f 46 :: f 47 :: f 48 :: f 49 :: f 50 :: f 51 :: f 52 :: f 53 :: f 54 :: f 55 :: f 56 :: f 57 :: f 58 :: f 59 :: f 60 :: f 61 :: f 62 :: []).toArray, []⟩) : Q a' := by
  obtain ⟨ts, df⟩ := a'
  have hd2 : df = [] := hd
  subst hd2
  have e := frame_eq ts 63 hs
  have hq := h (fun t => ts.getD t undef)
  subst h0 h1 h2 h3 h4 h5 h6 h7 h8 h9
  rw [e]
  exact hq
end Go.Proofs.YtjbdgndejbiikaaDoor.Sg
