/-
  Texts that the laws' proofs stand on, 3 of them in one file; each one's head says what it proves and under which condition.
-/
import Derived.Test.YtjbdgndejbiikaaDoorSgAP25
import Derived.Test.YtjbdgndejbiikaaDoorSgAP18
/-
  storing.unknown, lasting: what each returns. Conditions: the tables hold what the program's text lays; numbers that are told are not below 0.
-/
namespace Go.Proofs.YtjbdgndejbiikaaDoor.Sg
open Go.RowKit Go.Proofs.YtjbdgndejbiikaaDoor.Tk Go.Proofs.YtjbdgndejbiikaaDoor.Fd Go.Proofs.YtjbdgndejbiikaaDoor.Ct Go.Proofs.YtjbdgndejbiikaaDoor.Fh
set_option maxRecDepth 100000
set_option linter.unusedVariables false

/-- A Meta of which nothing is known. -/
def umet : Mta := ⟨0, ⟨false, false, false, false, false, false, false, -1, -1, -1, -1, -1, -1⟩, -1, -1, -1, -1, -1, -1, ⟨#[]⟩⟩
theorem umet_is : metOf 0 [] (-1) (-1) = umet := by kernel_rfl
theorem zmet_at (W : World) : MetAt (W.alloc (.cells (mcells zmet) 35)) W.heap.size zmet := new_block _ _
set_option maxHeartbeats 800000 in
theorem unknown_any (w : World) (hT : Tab w) (hE : Dp.Env w) (hF : Dp.FM w) :
    Calls Tryd.prog 31 #[] w fun e w' => e = .returned (.agg (mcells umet)) ∧ Below w.heap.size w w' := by
  have hb0 : Below w.heap.size w (w.alloc (.cells (mcells zmet) 35)) := (Below.refl _ _).alloc (Nat.le_refl _) _
  have HT := Lib.hid (hT.below hb0 hT.lt)
  have HE := Lib.hid (hE.below hb0 (Nat.le_refl _))
  have HF := Lib.hid (hF.below hb0 (Nat.le_refl _))
  have HZ := Lib.hid (zmet_at w)
  have HB0 := Lib.hid hb0
  clear hT hE hF hb0
  go_enter Tryd.func31, Tryd.ntmps31
  go_wp2_with fail
  refine (known_lit 0 0 ⟨#[]⟩ none 0 0 [] (-1) (-1) _ (.inl ⟨rfl, _, _, rfl⟩) (by decide) HT.out HE.out HF.out).mono ?_
  rintro e w1 ⟨rfl, hb1⟩
  rw [umet_is]
  have hm : MetAt w1 w.heap.size zmet := HZ.out.more hb1 HZ.out.lt
  have p1 := put_any hm umet
  have HM := Lib.hid (show MetAt (w1.setRow w.heap.size (mcells umet)) w.heap.size umet from setRow_heap w1 _ _ _ _ _ hm)
  have HB := Lib.hid (show Below w.heap.size w (w1.setRow w.heap.size (mcells umet)) from (HB0.out.trans (hb1.mono (by simp))).trans ⟨rfl, rfl, rfl, by simp [World.setRow], fun k hk => setRow_other w1 _ _ _ (by omega)⟩)
  obtain ⟨Z, N, hZ⟩ := size_met
  have z1 := hZ.is
  have z2 := hZ.run
  have n2 : (mcells umet).size = N := hZ.num ▸ rfl
  clear hZ hm hb1
  go_wp2_with fail
  refine bodyPost_ret (results_one rfl _ _ w.heap.size 35 _ (0, 0) _ rfl HM.out Tryd.underlying35 rfl infoMet') rfl ?_
  exact ⟨rfl, HB.out⟩

/-- A Meta stored into the block that was made last. -/
theorem put_last (W : World) (g : Nat) (hg : g = W.heap.size) (c : Array Value) (hc : c.size = 21) (m : Mta) : (storeCells ⟨g, 0, none⟩ (mcells m).toList).run Tryd.prog (W.alloc (.cells c 35)) = .ok () (W.alloc (.cells (mcells m) 35)) := by
  subst hg; exact run_storeCells_new W _ c _ infoMet' hc (one_met' m)
/-- One Meta in a block, another one in another. -/
structure La (w : World) (m : Mta) (g : Nat) (s : Mta) (W : World) : Prop where
  src : MetAt W w.heap.size m
  dst : MetAt W g s
  far : w.heap.size < g
  bel : Below w.heap.size w W
section
variable {w : World} {m s : Mta} {g : Nat} {W W' : World}
theorem La.more (h : La w m g s W) (hb : Below W.heap.size W W') : La w m g s W' := ⟨h.src.more hb h.src.lt, h.dst.more hb h.dst.lt, h.far, Bl.next h.bel hb⟩
theorem La.drew (h : La w m g s W) : La w m g s W.drew := ⟨h.src, h.dst, h.far, Bl.drewN h.bel 1⟩
theorem La.put (h : La w m g s W) {i : Nat} {v : Value} {s' : Mta} (e : (mcells s).setIfInBounds i v = mcells s') : La w m g s' (W.setCell ⟨g, i, none⟩ v) := by
  have hf := h.far
  refine ⟨(heap_setCell_other W ⟨g, i, none⟩ _ v (by show w.heap.size ≠ g; omega)).trans h.src, ?_, h.far, h.bel.setCell (p := ⟨g, i, none⟩) (by show w.heap.size ≤ g; omega) v⟩
  have h1 := heap_put h.dst i v
  rw [e] at h1
  exact h1
theorem La.put4 (h : La w m g s W) (b : Bool) : La w m g { s with con := { s.con with pu := b } } (W.setCell ⟨g, 4, none⟩ (.bool b)) := h.put rfl
theorem La.put8 (h : La w m g s W) (n : Int) : La w m g { s with con := { s.con with ag := n } } (W.setCell ⟨g, 8, none⟩ (.int .i64 n)) := h.put rfl
theorem La.put9 (h : La w m g s W) (n : Int) : La w m g { s with con := { s.con with sh := n } } (W.setCell ⟨g, 9, none⟩ (.int .i64 n)) := h.put rfl
theorem La.put15 (h : La w m g s W) (n : Int) : La w m g { s with exp := n } (W.setCell ⟨g, 15, none⟩ (.int .i64 n)) := h.put rfl
theorem La.facts (h : La w m g s W) : W.cell? ⟨w.heap.size, 4, none⟩ = some (.bool m.con.pu) ∧ W.cell? ⟨w.heap.size, 8, none⟩ = some (.int .i64 m.con.ag) ∧ W.cell? ⟨w.heap.size, 9, none⟩ = some (.int .i64 m.con.sh) ∧
    W.cell? ⟨g, 4, none⟩ = some (valAt W ⟨g, 4, none⟩) ∧ W.cell? ⟨g, 8, none⟩ = some (valAt W ⟨g, 8, none⟩) ∧ W.cell? ⟨g, 9, none⟩ = some (valAt W ⟨g, 9, none⟩) ∧
    W.frozen? ⟨g, 4, none⟩ = false ∧ W.frozen? ⟨g, 8, none⟩ = false ∧ W.frozen? ⟨g, 9, none⟩ = false ∧ ∃ s', La w m g s' W :=
  ⟨h.src.at rfl, h.src.at rfl, h.src.at rfl, valAt_of (h.dst.at (i := 4) rfl), valAt_of (h.dst.at (i := 8) rfl), valAt_of (h.dst.at (i := 9) rfl), free h.dst 4, free h.dst 8, free h.dst 9, s, h⟩
end
end Go.Proofs.YtjbdgndejbiikaaDoor.Sg
/-
  Two Metas compared, of which one knows nothing. No condition but that numbers are at least -1.
-/
namespace Go.Proofs.YtjbdgndejbiikaaDoor.Sg
open Go.RowKit Go.Proofs.YtjbdgndejbiikaaDoor.Tk Go.Proofs.YtjbdgndejbiikaaDoor.Fd Go.Proofs.YtjbdgndejbiikaaDoor.Ct Go.Proofs.YtjbdgndejbiikaaDoor.Fh
set_option maxRecDepth 100000
set_option linter.unusedVariables false

/-- A Meta that tells just what lets a response be kept. -/
def saidM (pu : Bool) (ag sh ex : Int) : Mta := ⟨0, ⟨false, false, false, pu, false, false, false, ag, sh, -1, -1, -1, -1⟩, -1, ex, -1, -1, -1, -1, ⟨#[]⟩⟩
def EqIs (a b : Mta) (r : Bool) : Prop := ∀ W : World, (Op.equal 35 (.agg (mcells a)) (.agg (mcells b))).run Tryd.prog W = .ok r W
theorem eq_pu (ag sh ex : Int) : EqIs (saidM true ag sh ex) umet false := fun W => by kernel_rfl
theorem eq_ag (n : Nat) (sh ex : Int) : EqIs (saidM false (Int.ofNat n) sh ex) umet false := fun W => by kernel_rfl
theorem eq_sh (n : Nat) (ex : Int) : EqIs (saidM false (-1) (Int.ofNat n) ex) umet false := fun W => by kernel_rfl
theorem eq_ex (n : Nat) : EqIs (saidM false (-1) (-1) (Int.ofNat n)) umet false := fun W => by kernel_rfl
theorem eq_all : EqIs (saidM false (-1) (-1) (-1)) umet true := fun W => by kernel_rfl
theorem nat_or {n : Int} (h : -1 ≤ n) : n = -1 ∨ ∃ k : Nat, n = Int.ofNat k := by
  by_cases h1 : n = -1
  · exact .inl h1
  · exact .inr ⟨n.toNat, by rw [Int.ofNat_eq_natCast]; omega⟩
theorem met_eq (pu : Bool) {ag sh ex : Int} (ha : -1 ≤ ag) (hs : -1 ≤ sh) (hx : -1 ≤ ex) : EqIs (saidM pu ag sh ex) umet (decide (ex = -1) && !pu && decide (ag = -1) && decide (sh = -1)) := by
  cases pu with
  | true => simpa using eq_pu ag sh ex
  | false =>
    rcases nat_or ha with rfl | ⟨k, rfl⟩
    · rcases nat_or hs with rfl | ⟨k, rfl⟩
      · rcases nat_or hx with rfl | ⟨k, rfl⟩
        · exact eq_all
        · have h := eq_ex k
          have e : decide (Int.ofNat k = -1) = false := by simp
          rw [e]; exact h
      · have h := eq_sh k ex
        have e : decide (Int.ofNat k = -1) = false := by simp
        rw [e, Bool.and_false]; exact h
    · have h := eq_ag k sh ex
      have e : decide (Int.ofNat k = -1) = false := by simp
      rw [e, Bool.and_false, Bool.false_and]; exact h
end Go.Proofs.YtjbdgndejbiikaaDoor.Sg
/-
  storing.lasting: what it returns. Conditions: the tables hold what the program's text lays; numbers are at least -1.
-/
namespace Go.Proofs.YtjbdgndejbiikaaDoor.Sg
open Go.RowKit Go.Proofs.YtjbdgndejbiikaaDoor.Tk Go.Proofs.YtjbdgndejbiikaaDoor.Fd Go.Proofs.YtjbdgndejbiikaaDoor.Ct Go.Proofs.YtjbdgndejbiikaaDoor.Fh Go.Proofs.YtjbdgndejbiikaaDoor.Rg
set_option maxRecDepth 100000
set_option linter.unusedVariables false

/-! An operation of a region, with its guard. -/
def isG (ops : Array Oper) (i : Nat) (g : Option (Nat × Bool)) (d : Option Tmp) (op : Op) : Prop := (ops[i]?).map (fun o => (o.guard, o.dst, o.op)) = some (g, d, op)
theorem isG.oper {ops : Array Oper} {i : Nat} {g : Option (Nat × Bool)} {d : Option Tmp} {op : Op} (h : isG ops i g d op) : ∃ o, ops[i]? = some o ∧ o.guard = g ∧ o.dst = d ∧ o.op = op := by
  unfold isG at h
  rw [Option.map_eq_some_iff] at h
  obtain ⟨o, h1, h2⟩ := h
  injection h2 with h3 h4
  injection h4 with h4 h5
  exact ⟨o, h1, h3, h4, h5⟩
theorem yields_at {ops : Array Oper} {a : Act} {i d : Nat} {gd : Option (Nat × Bool)} {op : Op} {b : Bool} (h : isG ops i gd (some d) op) (hd : d < a.tmps.size) (hv : a.tmps.getD d undef = .bool b) : yielded ops a.tmps i = some b := by
  obtain ⟨o, h1, _, h3, _⟩ := h.oper
  unfold yielded
  have e : a.tmps[d]? = some (.bool b) := by
    rw [Array.getElem?_eq_getElem hd]
    simpa [hd] using hv
  rw [h1]
  simp only [Option.bind_some, h3]
  rw [e]
section
variable {P : Program} {ops : Array Oper} {Q : Exit → Act → World → Prop}
theorem op_left {i g : Nat} {o : Oper} {a : Act} {w : World} {K : Act → World → Prop} (hi : ops[i]? = some o) (hg : o.guard = some (g, false)) (hy : yielded ops a.tmps g = some true) (hK : K (a.put o.dst undef) w) : wpOp P ops Q i K a w := by
  unfold wpOp
  simp only [hi, Region.wanted, hg, hy]
  simpa using hK
theorem op_taken {i g : Nat} {o : Oper} {a : Act} {w : World} {v : Value} {K : Act → World → Prop} (hi : ops[i]? = some o) (hg : o.guard = some (g, false)) (hy : yielded ops a.tmps g = some false)
    (hrun : (execOp a.eval o).run P w = .ok (.value v) w) (hK : K (a.put o.dst v) w) : wpOp P ops Q i K a w := by
  unfold wpOp
  simp only [hi, Region.wanted, hg, hy]
  refine .inl ?_
  unfold Oper.wp
  rw [hrun]
  exact hK
theorem op_called {i g : Nat} {o : Oper} {a : Act} {w : World} {f : FuncId} {args : Array Value} {R : Ending → World → Prop} {K : Act → World → Prop} (hi : ops[i]? = some o) (hg : o.guard = some (g, false)) (hy : yielded ops a.tmps g = some false)
    (hrun : (execOp a.eval o).run P w = .ok (.enter f args) w) (hc : Calls P f args w R) (hK : ∀ e w', R e w' → ∃ v, e = .returned v ∧ K (a.put o.dst v) w') : wpOp P ops Q i K a w := by
  unfold wpOp
  simp only [hi, Region.wanted, hg, hy]
  refine .inl ?_
  unfold Oper.wp
  rw [hrun]
  show Calls P f args w _
  refine hc.mono fun e w' he => ?_
  obtain ⟨v, rfl, h⟩ := hK e w' he
  exact h
end

/-! The region that compares. -/
structure ShapeL (ops : Array Oper) : Prop where
  size : ops.size = 9
  fwd : (List.range 9).all (fun i => ((ops[i]?).map fun o => o.after.all fun e => decide (e.on < i)).getD true) = true
  p0 : isG ops 0 none (some 23) (Op.load 35 (.tmp 3))
  p1 : isG ops 1 none (some 24) (Op.call { callee := .value (.func 31), args := #[], argTypes := #[] })
  p2 : isG ops 2 none (some 25) (Op.binOp .neq 35 (.tmp 23) (.tmp 24) 35)
  w20 : waits ops 2 0
  w21 : waits ops 2 1
  p3 : isG ops 3 none (some 26) (Op.move (.tmp 25))
  w32 : waits ops 3 2
  p4 : isG ops 4 (some (3, false)) (some 27) (Op.fieldAddr 35 (.tmp 1) 0)
  w43 : waits ops 4 3
  p5 : isG ops 5 (some (3, false)) (some 28) (Op.load 3 (.tmp 27))
  w54 : waits ops 5 4
  w53 : waits ops 5 3
  p6 : isG ops 6 (some (3, false)) (some 29) (Op.call { callee := .value (.func 32), args := #[.tmp 28], argTypes := #[3] })
  w65 : waits ops 6 5
  w63 : waits ops 6 3
  p7 : isG ops 7 none (some 30) (Op.pick (.tmp 26) (.const (.bool true)) (.tmp 29))
  w73 : waits ops 7 3
  w76 : waits ops 7 6
  p8 : isG ops 8 none (some 2) (Op.assign (.tmp 30))
  w87 : waits ops 8 7
def dstL (i : Nat) : Nat := if i = 8 then 2 else 23 + i
def valL (s : Mta) (n : Nat) (code : Int) (b h : Bool) : Nat → Value
  | 0 => .agg (mcells s)
  | 1 => .agg (mcells umet)
  | 2 => .bool b
  | 3 => .bool b
  | 4 => if b then undef else .pointer (some ⟨n, 0, none⟩)
  | 5 => if b then undef else .int .i64 code
  | 6 => if b then undef else .bool h
  | _ => .bool (b || h)
/-- What holds whatever has come up. -/
structure InvL (w : World) (m : Mta) (g : Nat) (s : Mta) (b h : Bool) (a0 : Array Value) (listed : Array Bool) (a : Act) (W : World) : Prop where
  lsz : listed.size = 9
  tsz : a.tmps.size = 31
  dfr : a.defers = []
  t1 : a.tmps.getD 1 undef = .pointer (some ⟨w.heap.size, 0, none⟩)
  t3 : a.tmps.getD 3 undef = .pointer (some ⟨g, 0, none⟩)
  two : La w m g s W
  val : ∀ i, i < 9 → listed.getD i false = true → a.tmps.getD (dstL i) undef = valL s w.heap.size m.code b h i
theorem dstL_ne {i k : Nat} (hi : i < 9) (hk : k < 9) (h : i ≠ k) : dstL i ≠ dstL k := by unfold dstL; split <;> split <;> omega
theorem dstL_lt {i : Nat} (hi : i < 9) : dstL i < 31 ∧ dstL i ≠ 1 ∧ dstL i ≠ 3 := by unfold dstL; split <;> omega
section
variable {w : World} {m s : Mta} {g : Nat} {b h : Bool} {a0 : Array Value}
theorem InvL.name {listed : Array Bool} {a : Act} {W W' : World} (H : InvL w m g s b h a0 listed a W) (i : Nat) (hi : i < 9) (hl : La w m g s W') :
    InvL w m g s b h a0 (listed.setIfInBounds i true) (a.put (some (dstL i)) (valL s w.heap.size m.code b h i)) W' := by
  obtain ⟨d1, d2, d3⟩ := dstL_lt hi
  refine ⟨by rw [Array.size_setIfInBounds]; exact H.lsz, by rw [put_size]; exact H.tsz, H.dfr, by rw [put_other _ _ (Ne.symm d2)]; exact H.t1, by rw [put_other _ _ (Ne.symm d3)]; exact H.t3, hl, ?_⟩
  intro k hk hl
  by_cases e : k = i
  · subst e; rw [put_same _ _ _ (by rw [H.tsz]; exact d1)]
  · rw [put_other _ _ (dstL_ne hk hi e)]; exact H.val k hk (set_old hl e)
theorem enters_unknown (W : World) : (callFunc 31 #[]).run Tryd.prog W = .ok (.enter 31 #[]) W := by kernel_rfl
theorem enters_heur (x : Value) (W : World) : (callFunc 32 #[x]).run Tryd.prog W = .ok (.enter 32 #[x]) W := by kernel_rfl
theorem load_met {W : World} {g : Nat} {s : Mta} (h : MetAt W g s) : (Instr.loadAt 35 (.pointer (some ⟨g, 0, none⟩))).run Tryd.prog W = .ok (.agg (mcells s)) W := by
  obtain ⟨Z, N, hZ⟩ := size_met
  have z1 := hZ.is
  have z2 := hZ.run
  have l := h.load hZ.num
  have y5 : ¬ N = 0 := by rw [hZ.num]; decide
  clear hZ h
  go_simp
theorem neq_met {s : Mta} {q : Bool} (E : EqIs s umet q) (W : World) (x y : Operand) : (do eqGuard .neq 35 x y (.agg (mcells s)) (.agg (mcells umet)); binOp .neq 35 (.agg (mcells s)) (.agg (mcells umet))).run Tryd.prog W = .ok (.bool (!q)) W := by
  have h1 : (eqGuard .neq 35 x y (.agg (mcells s)) (.agg (mcells umet))).run Tryd.prog W = .ok () W := by kernel_rfl
  have h2 : (binOp .neq 35 (.agg (mcells s)) (.agg (mcells umet))).run Tryd.prog W = .ok (.bool (!q)) W := by
    show (do pure (.bool (!(← Op.equal 35 (.agg (mcells s)) (.agg (mcells umet))))) : Sem Value).run Tryd.prog W = _
    rw [Sem.run_bind, E W]
    rfl
  rw [Sem.run_bind, h1]
  exact h2
theorem code_addr (n : Nat) (W : World) : (Instr.fieldAt 35 (.pointer (some ⟨n, 0, none⟩)) 0).run Tryd.prog W = .ok (.pointer (some ⟨n, 0, none⟩)) W := by
  go_simp
theorem load_int {W : World} {n : Nat} {k : Int} (h : W.cell? ⟨n, 0, none⟩ = some (.int .i64 k)) : (Instr.loadAt 3 (.pointer (some ⟨n, 0, none⟩))).run Tryd.prog W = .ok (.int .i64 k) W := by
  go_simp
/-- What the region stands on. -/
structure HypL (w : World) (m : Mta) (g : Nat) (s : Mta) (q : Bool) : Prop where
  eq : EqIs s umet q
  unk : ∀ W : World, La w m g s W → Calls Tryd.prog 31 #[] W fun e w' => e = .returned (.agg (mcells umet)) ∧ Below W.heap.size W w'
  heu : ∀ W : World, La w m g s W → Calls Tryd.prog 32 #[.int .i64 m.code] W fun e w' => e = .returned (.bool (heurOf m.code)) ∧ W = w'
theorem InvL.step {q : Bool} {ops : Array Oper} {Q : Exit → Act → World → Prop} {listed : Array Bool} {a : Act} {W : World} {i : Nat} (hS : ShapeL ops) (H : HypL w m g s q) (I : InvL w m g s (!q) (heurOf m.code) a0 listed a W) (hr : i ∈ Region.ready .any ops listed) :
    wpOp Tryd.prog ops Q i (fun a' w' => InvL w m g s (!q) (heurOf m.code) a0 (listed.setIfInBounds i true) a' w') a W := by
  have hi : i < 9 := by
    obtain ⟨_, o, ho, _⟩ := mem_ready.1 hr
    have := (Array.getElem?_eq_some_iff.1 ho).1
    rw [hS.size] at this; exact this
  have hput := fun (W' : World) (hl : La w m g s W') => I.name i hi hl
  have e3 : listed.getD 3 false = true → yielded ops a.tmps 3 = some (!q) := fun h3 => yields_at hS.p3 (by rw [I.tsz]; omega) (I.val 3 (by omega) h3)
  rcases (by omega : i = 0 ∨ i = 1 ∨ i = 2 ∨ i = 3 ∨ i = 4 ∨ i = 5 ∨ i = 6 ∨ i = 7 ∨ i = 8) with rfl | rfl | rfl | rfl | rfl | rfl | rfl | rfl | rfl
  · obtain ⟨o, ho, hg, hd, hop⟩ := hS.p0.oper
    refine op_value ho hg (v := .agg (mcells s)) (w' := W) ?_ ?_
    · unfold execOp
      rw [hop]
      simp only [Act.eval, I.t3]
      rw [Sem.run_bind, load_met I.two.dst]
      rfl
    · rw [hd]; exact hput W I.two
  · obtain ⟨o, ho, hg, hd, hop⟩ := hS.p1.oper
    refine op_call ho hg (f := 31) (args := #[]) ?_ (H.unk W I.two) ?_
    · unfold execOp
      rw [hop]
      simp only [resolve, List.map_toArray, List.map_nil, Act.eval]
      exact enters_unknown _
    · rintro e w' ⟨rfl, hb⟩
      refine ⟨_, rfl, ?_⟩
      rw [hd]; exact hput w' (I.two.more hb)
  · obtain ⟨o, ho, hg, hd, hop⟩ := hS.p2.oper
    have v0 : a.tmps.getD 23 undef = .agg (mcells s) := I.val 0 (by omega) (hS.w20.listed hr)
    have v1 : a.tmps.getD 24 undef = .agg (mcells umet) := I.val 1 (by omega) (hS.w21.listed hr)
    refine op_value ho hg (v := .bool (!q)) (w' := W) ?_ ?_
    · unfold execOp
      rw [hop]
      simp only [Act.eval, v0, v1]
      rw [Sem.run_bind, neq_met H.eq]
      rfl
    · rw [hd]; exact hput W I.two
  · obtain ⟨o, ho, hg, hd, hop⟩ := hS.p3.oper
    have v2 : a.tmps.getD 25 undef = .bool (!q) := I.val 2 (by omega) (hS.w32.listed hr)
    refine op_value ho hg (v := .bool (!q)) (w' := W) ?_ ?_
    · unfold execOp
      rw [hop]
      simp only [Act.eval, v2]
      rfl
    · rw [hd]; exact hput W I.two
  · obtain ⟨o, ho, hg, hd, hop⟩ := hS.p4.oper
    have hy := e3 (hS.w43.listed hr)
    have hp := hput W I.two
    cases q with
    | false => exact op_left ho hg hy (by rw [hd]; exact hp)
    | true =>
      refine op_taken ho hg hy (v := .pointer (some ⟨w.heap.size, 0, none⟩)) ?_ (by rw [hd]; exact hp)
      unfold execOp
      rw [hop]
      simp only [Act.eval, I.t1]
      rw [Sem.run_bind, code_addr]
      rfl
  · obtain ⟨o, ho, hg, hd, hop⟩ := hS.p5.oper
    have hy := e3 (hS.w53.listed hr)
    have hp := hput W I.two
    have v4 := I.val 4 (by omega) (hS.w54.listed hr)
    cases q with
    | false => exact op_left ho hg hy (by rw [hd]; exact hp)
    | true =>
      have v4' : a.tmps.getD 27 undef = .pointer (some ⟨w.heap.size, 0, none⟩) := v4
      refine op_taken ho hg hy (v := .int .i64 m.code) ?_ (by rw [hd]; exact hp)
      unfold execOp
      rw [hop]
      simp only [Act.eval, v4']
      rw [Sem.run_bind, load_int (I.two.src.at rfl)]
      rfl
  · obtain ⟨o, ho, hg, hd, hop⟩ := hS.p6.oper
    have hy := e3 (hS.w63.listed hr)
    have v5 := I.val 5 (by omega) (hS.w65.listed hr)
    cases q with
    | false => exact op_left ho hg hy (by rw [hd]; exact hput W I.two)
    | true =>
      have v5' : a.tmps.getD 28 undef = .int .i64 m.code := v5
      refine op_called ho hg hy (f := 32) (args := #[.int .i64 m.code]) ?_ (H.heu W I.two) ?_
      · unfold execOp
        rw [hop]
        simp only [resolve, List.map_toArray, List.map_cons, List.map_nil, Act.eval, v5']
        exact enters_heur _ _
      · rintro e w' ⟨rfl, rfl⟩
        refine ⟨_, rfl, ?_⟩
        rw [hd]; exact hput W I.two
  · obtain ⟨o, ho, hg, hd, hop⟩ := hS.p7.oper
    have v3 : a.tmps.getD 26 undef = .bool (!q) := I.val 3 (by omega) (hS.w73.listed hr)
    have v6 := I.val 6 (by omega) (hS.w76.listed hr)
    refine op_value ho hg (v := .bool (!q || heurOf m.code)) (w' := W) ?_ ?_
    · have v6' : a.tmps.getD 29 undef = if !q then undef else .bool (heurOf m.code) := v6
      unfold execOp
      rw [hop]
      simp only [Act.eval, v3, v6']
      cases q <;> rfl
    · rw [hd]; exact hput W I.two
  · obtain ⟨o, ho, hg, hd, hop⟩ := hS.p8.oper
    have v7 : a.tmps.getD 30 undef = .bool (!q || heurOf m.code) := I.val 7 (by omega) (hS.w87.listed hr)
    refine op_value ho hg (v := .bool (!q || heurOf m.code)) (w' := W) ?_ ?_
    · unfold execOp
      rw [hop]
      simp only [Act.eval, v7]
      rfl
    · rw [hd]; exact hput W I.two
theorem ShapeL.fwd' {ops : Array Oper} (h : ShapeL ops) (i : Nat) (o : Oper) (ho : ops[i]? = some o) : ∀ e ∈ o.after, e.on < i := by
  have hi : i < 9 := by have := (Array.getElem?_eq_some_iff.1 ho).1; rw [h.size] at this; exact this
  have h1 := List.all_eq_true.1 h.fwd i (List.mem_range.2 hi)
  rw [ho] at h1
  intro e he
  have h2 := Array.all_eq_true_iff_forall_mem.1 h1 e he
  simpa using h2
theorem last_region {q : Bool} {W : World} {ops : Array Oper} {Q : Exit → Act → World → Prop} {a : Act} (hS : ShapeL ops) (H : HypL w m g s q) (hl : La w m g s W) (hsz : a.tmps.size = 31) (hdf : a.defers = [])
    (h1 : a.tmps.getD 1 undef = .pointer (some ⟨w.heap.size, 0, none⟩)) (h3 : a.tmps.getD 3 undef = .pointer (some ⟨g, 0, none⟩))
    (hQ : ∀ a' w', a'.tmps.size = 31 → a'.defers = [] → La w m g s w' → a'.tmps.getD 2 undef = .bool (!q || heurOf m.code) → Q .normal a' w') : (Code.region 4 ops true).wp Tryd.prog Q a W := by
  have hnl : ∀ i, (Array.replicate 9 false).getD i false = false := fun i => by
    rcases Nat.lt_or_ge i 9 with h | h
    · simp [h]
    · simp [h]
  refine wp_region_any (by kernel_rfl) ?_
  rw [hS.size]
  exact any_inv (P := Tryd.prog) (ops := ops) (Q := Q) (md := .any) (I := fun f listed a' w' => InvL w m g s (!q) (heurOf m.code) a.tmps listed a' w')
    (fun f listed a' w' i hI hr => InvL.step hS H hI hr)
    (fun f listed a' w' hI hr => by
      have h2 := all_listed hS.fwd' (by rw [hS.size]; exact hI.lsz) hr
      rw [hS.size] at h2
      exact hQ a' w' hI.tsz hI.dfr hI.two (hI.val 8 (by omega) (h2 8 (by omega))))
    9 (Array.replicate 9 false) a W.drew (by rw [hS.size]; exact all_unlisted 9)
    ⟨by simp, hsz, hdf, h1, h3, hl.drew, fun i _ h => by rw [hnl] at h; cases h⟩
end

theorem frame_eq (ts : Array Value) (n : Nat) (h : ts.size = n) : ts = ((List.range n).map fun t => ts.getD t undef).toArray := by
  apply Array.ext
  · simp [h]
  · intro i h1 h2
    simp [h1]
/-- A frame of 31 slots, of which one is known. -/
theorem act31 {Q : Act → Prop} (a' : Act) (hs : a'.tmps.size = 31) (hd : a'.defers = []) (x2 : Value) (h2 : a'.tmps.getD 2 undef = x2) (h : ∀ f : Nat → Value, Q ⟨(f 0 :: f 1 :: x2 :: f 3 :: f 4 :: f 5 :: f 6 :: f 7 :: f 8 :: f 9 :: f 10 :: f 11 :: f 12 :: f 13 :: f 14 :: f 15 :: f 16 :: f 17 :: f 18 :: f 19 :: f 20 :: f 21 :: f 22 :: f 23 :: f 24 :: f 25 :: f 26 :: f 27 :: f 28 :: f 29 :: f 30 :: []).toArray, []⟩) : Q a' := by
  obtain ⟨ts, df⟩ := a'
  have hd2 : df = [] := hd
  subst hd2
  have e := frame_eq ts 31 hs
  have hq := h (fun t => ts.getD t undef)
  subst h2
  rw [e]
  exact hq
set_option maxHeartbeats 800000 in
theorem lasting_any (m : Mta) (h1 : -1 ≤ m.con.ag) (h2 : -1 ≤ m.con.sh) (h3 : -1 ≤ m.exp) (w : World) (hT : Tab w) (hE : Dp.Env w) (hF : Dp.FM w) (hC : Codes w) :
    Calls Tryd.prog 16 #[.agg (mcells m)] w fun e w' => e = .returned (.bool (lastB m.exp m.con m.code)) ∧ Below w.heap.size w w' := by
  have hb0 : Below w.heap.size w (w.alloc (.cells (mcells m) 35)) := (Below.refl _ _).alloc (Nat.le_refl _) _
  have HB0 := Lib.hid hb0
  have HS0 := Lib.hid (show MetAt (w.alloc (.cells (mcells m) 35)) w.heap.size m from new_block _ _)
  have HT := Lib.hid hT
  have HE := Lib.hid hE
  have HF := Lib.hid hF
  have HC := Lib.hid hC
  obtain ⟨q, hq⟩ : ∃ q, q = (decide (m.exp = -1) && !m.con.pu && decide (m.con.ag = -1) && decide (m.con.sh = -1)) := ⟨_, rfl⟩
  have HQ := Lib.hid (show EqIs (saidM m.con.pu m.con.ag m.con.sh m.exp) umet q from by rw [hq]; exact met_eq m.con.pu h1 h2 h3)
  have HR := Lib.hid (show lastB m.exp m.con m.code = (!q || heurOf m.code) from by rw [hq]; rfl)
  clear hq hb0 hT hE hF hC
  go_enter Tryd.func16, Tryd.ntmps16
  go_wp2_with fail
  refine (unknown_any _ (HT.out.below HB0.out HT.out.lt) (HE.out.below HB0.out (Nat.le_refl _)) (HF.out.below HB0.out (Nat.le_refl _))).mono ?_
  rintro e w1 ⟨rfl, hb1⟩
  have hm1 : MetAt w1 w.heap.size m := HS0.out.more hb1 HS0.out.lt
  have hsz : w.heap.size < w1.heap.size := by have := hb1.size; simp at this; omega
  have hb : Below w.heap.size w w1 := HB0.out.trans (hb1.mono (by simp))
  have H := Lib.hid (show La w m w1.heap.size umet (w1.alloc (.cells (mcells umet) 35)) from
    ⟨hm1.more ((Below.refl w1.heap.size w1).alloc (Nat.le_refl _) _) hsz, new_block _ _, hsz, hb.alloc hb.size _⟩)
  have p1 := put_last w1 w1.heap.size rfl #[.int .i64 0, .bool false, .bool false, .bool false, .bool false, .bool false, .bool false, .bool false, .int .i64 0, .int .i64 0, .int .i64 0, .int .i64 0, .int .i64 0, .int .i64 0, .int .i64 0, .int .i64 0, .int .i64 0, .int .i64 0, .int .i64 0, .int .i64 0, .string ⟨#[]⟩] rfl umet
  obtain ⟨Z, N, hZ⟩ := size_met
  have z1 := hZ.is
  have z2 := hZ.run
  have HN := Lib.hid hZ.num
  have n2 : (mcells umet).size = N := hZ.num ▸ rfl
  clear hZ hm1 hb1 hb hsz HS0 HB0
  go_upto_region 2 with fail
  generalize w1.alloc (.cells (mcells umet) 35) = W1 at H ⊢
  obtain ⟨g, hg⟩ : ∃ g, g = w1.heap.size := ⟨_, rfl⟩
  rw [← hg] at H
  rw [← hg]
  clear hg p1
  have c15 : W1.cell? ⟨w.heap.size, 15, none⟩ = some (.int .i64 m.exp) := H.out.src.at rfl
  have d15 : W1.cell? ⟨g, 15, none⟩ = some (.int .i64 (-1)) := H.out.dst.at rfl
  have f15 := free H.out.dst 15
  have y5 : ¬ N = 0 := by rw [HN.out]; decide
  go_upto_region 3 with fail
  have H2 := Lib.hid (H.out.put15 m.exp)
  generalize W1.setCell ⟨g, 15, none⟩ (.int .i64 m.exp) = W2 at H2 ⊢
  clear c15 d15 f15 H
  have c4 : W2.cell? ⟨w.heap.size, 4, none⟩ = some (.bool m.con.pu) := H2.out.src.at rfl
  have c8 : W2.cell? ⟨w.heap.size, 8, none⟩ = some (.int .i64 m.con.ag) := H2.out.src.at rfl
  have c9 : W2.cell? ⟨w.heap.size, 9, none⟩ = some (.int .i64 m.con.sh) := H2.out.src.at rfl
  have d4 : W2.cell? ⟨g, 4, none⟩ = some (.bool false) := H2.out.dst.at rfl
  have d8 : W2.cell? ⟨g, 8, none⟩ = some (.int .i64 (-1)) := H2.out.dst.at rfl
  have d9 : W2.cell? ⟨g, 9, none⟩ = some (.int .i64 (-1)) := H2.out.dst.at rfl
  have f4 := free H2.out.dst 4
  have f8 := free H2.out.dst 8
  have f9 := free H2.out.dst 9
  have hfar : ¬ w.heap.size = g := by have := H2.out.far; omega
  have hfar' : ¬ g = w.heap.size := fun h => hfar h.symm
  go_region
  have H3 := Lib.hid (((H2.out.put4 m.con.pu).put8 m.con.ag).put9 m.con.sh).drew
  generalize (((W2.setCell ⟨g, 4, none⟩ (.bool m.con.pu)).setCell ⟨g, 8, none⟩ (.int .i64 m.con.ag)).setCell ⟨g, 9, none⟩ (.int .i64 m.con.sh)).drew = W3 at H3 ⊢
  clear c4 c8 c9 d4 d8 d9 f4 f8 f9 H2 z1 z2 n2 HN y5
  replace H3 := Lib.hid (show La w m g (saidM m.con.pu m.con.ag m.con.sh m.exp) W3 from H3.out)
  have HU := Lib.hid (show ∀ W : World, La w m g (saidM m.con.pu m.con.ag m.con.sh m.exp) W → Calls Tryd.prog 31 #[] W (fun e w' => e = .returned (.agg (mcells umet)) ∧ Below W.heap.size W w') from fun W hW =>
    unknown_any W (HT.out.below hW.bel HT.out.lt) (HE.out.below hW.bel (Nat.le_refl _)) (HF.out.below hW.bel (Nat.le_refl _)))
  have HH := Lib.hid (show ∀ W : World, La w m g (saidM m.con.pu m.con.ag m.con.sh m.exp) W → Calls Tryd.prog 32 #[.int .i64 m.code] W (fun e w' => e = .returned (.bool (heurOf m.code)) ∧ W = w') from fun W hW =>
    heur_any m.code W (HC.out.below hW.bel HC.out.lt))
  go_upto_region 4 with fail
  rename_i Qf Kf hgo
  refine last_region (w := w) (m := m) (g := g) (s := saidM m.con.pu m.con.ag m.con.sh m.exp) (q := q) ?_ ⟨HQ.out, HU.out, HH.out⟩ H3.out rfl rfl rfl rfl ?_
  · constructor
    all_goals first | kernel_rfl | (unfold isG; kernel_rfl) | (unfold waits; kernel_rfl)
  · intro a' w' hs hd hl h2
    have HL := Lib.hid hl
    refine act31 (Q := fun a' => Exit.then Kf Qf .normal a' w') a' hs hd _ h2 ?_
    intro f
    clear hs hd h2 hl HU HH HQ
    go_wp2_with fail
    go_ret
    exact ⟨by rw [HR.out]; rfl, HL.out.bel⟩
end Go.Proofs.YtjbdgndejbiikaaDoor.Sg
