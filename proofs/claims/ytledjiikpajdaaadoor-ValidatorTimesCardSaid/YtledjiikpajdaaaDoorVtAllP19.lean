/-
  Texts that the laws' proofs stand on, 3 of them in one file; each one's head says what it proves and under which condition.
-/
import Derived.Test.YtledjiikpajdaaaDoorRows
import Derived.Orders
import Derived.WalkKit
import Derived.Deep.RegionHeld3
/-
  A region that draws its order, by what holds whatever has come up. No condition.
-/
namespace Go.Proofs.YtledjiikpajdaaaDoor.Rg
open Go.RowKit
set_option linter.unusedVariables false

section
variable {P : Program} {ops : Array Oper} {Q : Exit → Act → World → Prop} {md : Region.Mode}

theorem count_drop {listed : Array Bool} {n i : Nat} (hi : i < n) (h : listed.getD i true = false) (f : Nat) (hc : (List.range n).countP (fun j => !listed.getD j true) ≤ f + 1) :
    (List.range n).countP (fun j => !(listed.setIfInBounds i true).getD j true) ≤ f := by
  have hlt : i < listed.size := by
    rcases Nat.lt_or_ge i listed.size with h' | h'
    · exact h'
    · simp [Array.getElem?_eq_none h'] at h
  have h1 : ∀ l : List Nat, l.countP (fun j => !(listed.setIfInBounds i true).getD j true) + (if i ∈ l then 1 else 0) ≤ l.countP (fun j => !listed.getD j true) := by
    intro l
    induction l with
    | nil => simp
    | cons x r ih =>
      rw [List.countP_cons, List.countP_cons]
      by_cases hx : x = i
      · subst hx
        have e1 : (listed.setIfInBounds x true).getD x true = true := by simp [hlt]
        rw [e1, h]
        simp only [List.mem_cons, true_or, if_true, Bool.not_true, Bool.not_false, Bool.false_eq_true, if_false]
        split at ih <;> omega
      · have e1 : (listed.setIfInBounds i true).getD x true = listed.getD x true := getD_set_ne true (Ne.symm hx)
        rw [e1]
        have e2 : (i ∈ x :: r) ↔ i ∈ r := by simp [Ne.symm hx]
        simp only [e2]
        omega
  have h2 := h1 (List.range n)
  rw [if_pos (List.mem_range.2 hi)] at h2
  omega
/-- What holds ahead of an operation holds behind it, whichever may come up; so it holds at the end. The number tells how many have still to come. -/
theorem any_inv {I : Nat → Array Bool → Act → World → Prop}
    (hstep : ∀ f listed a w i, I (f + 1) listed a w → i ∈ Region.ready md ops listed → wpOp P ops Q i (fun a' w' => I f (listed.setIfInBounds i true) a' w') a w)
    (hdone : ∀ f listed a w, I f listed a w → Region.ready md ops listed = [] → Q .normal a w) :
    ∀ fuel listed a w, (List.range ops.size).countP (fun j => !listed.getD j true) ≤ fuel → I fuel listed a w → wpAny P md ops Q fuel listed a w
  | 0, listed, a, w, hc, h => by
    have hr : Region.ready md ops listed = [] := by
      cases hr : Region.ready md ops listed with
      | nil => rfl
      | cons i r =>
        have hi : i ∈ Region.ready md ops listed := by rw [hr]; simp
        obtain ⟨h0, o, ho, _⟩ := mem_ready.1 hi
        have hlt := (Array.getElem?_eq_some_iff.1 ho).1
        have : 0 < (List.range ops.size).countP (fun j => !listed.getD j true) := List.countP_pos_iff.2 ⟨i, List.mem_range.2 hlt, by rw [h0]; rfl⟩
        omega
    exact ⟨hr, hdone _ _ _ _ h hr⟩
  | fuel + 1, listed, a, w, hc, h => by
    refine ⟨fun hr => hdone _ _ _ _ h hr, fun i hi => ?_⟩
    obtain ⟨h0, o, ho, _⟩ := mem_ready.1 hi
    have hlt := (Array.getElem?_eq_some_iff.1 ho).1
    exact wpOp_mono (fun a' w' h' => any_inv hstep hdone fuel _ a' w' (count_drop hlt h0 fuel hc) h') (hstep _ _ _ _ _ h hi)
/-- Where no more may come up, and each waits for earlier ones alone, all have come up. -/
theorem all_listed {listed : Array Bool} (hfwd : ∀ (i : Nat) (o : Oper), ops[i]? = some o → ∀ e ∈ o.after, e.on < i) (hsz : listed.size = ops.size) (hr : Region.ready md ops listed = []) : ∀ i, i < ops.size → listed.getD i false = true := by
  intro i
  induction i using Nat.strongRecOn with
  | ind i ih =>
    intro hi
    cases hl : listed.getD i false with
    | true => rfl
    | false =>
      exfalso
      have h1 : listed.getD i true = false := by
        have hlt : i < listed.size := by omega
        simp [hlt] at hl ⊢
        exact hl
      have h2 : i ∈ Region.ready md ops listed := mem_ready.2 ⟨h1, ops[i], Array.getElem?_eq_getElem hi, fun e he _ => ih e.on (hfwd i ops[i] (Array.getElem?_eq_getElem hi) e he) (by have := hfwd i ops[i] (Array.getElem?_eq_getElem hi) e he; omega)⟩
      rw [hr] at h2
      cases h2
theorem all_unlisted (n : Nat) : (List.range n).countP (fun j => !(Array.replicate n false).getD j true) ≤ n := by
  have := List.countP_le_length (p := fun j => !(Array.replicate n false).getD j true) (l := List.range n)
  simpa using this

/-- An operation that leaves a value. -/
theorem op_value {i : Nat} {o : Oper} {a : Act} {w w' : World} {v : Value} {K : Act → World → Prop} (hi : ops[i]? = some o) (hg : o.guard = none) (hrun : (execOp a.eval o).run P w = .ok (.value v) w') (hK : K (a.put o.dst v) w') : wpOp P ops Q i K a w := by
  unfold wpOp
  simp only [hi, Region.wanted, hg, if_true]
  refine .inl ?_
  unfold Oper.wp
  rw [hrun]
  exact hK
theorem op_skip {i : Nat} {o : Oper} {a : Act} {w w' : World} {K : Act → World → Prop} (hi : ops[i]? = some o) (hg : o.guard = none) (hrun : (execOp a.eval o).run P w = .ok .skip w') (hK : K (a.put o.dst undef) w') : wpOp P ops Q i K a w := by
  unfold wpOp
  simp only [hi, Region.wanted, hg, if_true]
  refine .inl ?_
  unfold Oper.wp
  rw [hrun]
  exact hK
theorem op_call {i : Nat} {o : Oper} {a : Act} {w : World} {f : FuncId} {args : Array Value} {R : Ending → World → Prop} {K : Act → World → Prop} (hi : ops[i]? = some o) (hg : o.guard = none) (hrun : (execOp a.eval o).run P w = .ok (.enter f args) w)
    (hc : Calls P f args w R) (hK : ∀ e w', R e w' → ∃ v, e = .returned v ∧ K (a.put o.dst v) w') : wpOp P ops Q i K a w := by
  unfold wpOp
  simp only [hi, Region.wanted, hg, if_true]
  refine .inl ?_
  unfold Oper.wp
  rw [hrun]
  show Calls P f args w _
  refine hc.mono fun e w' he => ?_
  obtain ⟨v, rfl, h⟩ := hK e w' he
  exact h
theorem put_same (a : Act) (d : Nat) (v : Value) (h : d < a.tmps.size) : (a.put (some d) v).tmps.getD d undef = v := by simp [Act.put, h]
theorem put_other (a : Act) {d e : Nat} (v : Value) (h : e ≠ d) : (a.put (some d) v).tmps.getD e undef = a.tmps.getD e undef := by simp [Act.put, Array.getElem?_setIfInBounds_ne (Ne.symm h)]
theorem put_size (a : Act) (d : Nat) (v : Value) : (a.put (some d) v).tmps.size = a.tmps.size := by simp [Act.put]
theorem set_old {listed : Array Bool} {i j : Nat} (h : (listed.setIfInBounds i true).getD j false = true) (hne : j ≠ i) : listed.getD j false = true := by rwa [getD_set_ne false (Ne.symm hne)] at h
end
end Go.Proofs.YtledjiikpajdaaaDoor.Rg
/-
  A region that draws its order and whose operations each leave a value that is told ahead (or are not wanted): its frame behind it. No condition.
-/
namespace Go.Proofs.YtledjiikpajdaaaDoor.Rg
open Go.RowKit
set_option linter.unusedVariables false

def dstOf (ops : Array Oper) (i : Nat) : Option Nat := (ops[i]?).bind (·.dst)
/-- A frame with these values put into these slots. -/
def fill (a : Array Value) : List (Nat × Value) → Array Value
  | [] => a
  | p :: r => fill (a.setIfInBounds p.1 p.2) r
def isSel : Op → Bool
  | .select _ _ => true
  | _ => false
/-- Each operation waits for those whose slots it looks at; each slot has one operation. -/
def fine (ops : Array Oper) (n : Nat) : Bool := (List.range ops.size).all fun i => match ops[i]? with
  | none => false
  | some o =>
    (o.after.all fun e => decide (e.on < i)) &&
    (match o.dst with | some d => decide (d < n) && (List.range ops.size).all (fun j => j == i || !(dstOf ops j == some d)) | none => true) &&
    (o.op.operands.all fun x => match x with | .tmp s => (List.range ops.size).all (fun j => !(dstOf ops j == some s) || o.after.any (fun e => e.on == j && Region.binds .any e)) | _ => true) &&
    (match o.guard with | some (g, _) => o.after.any (fun e => e.on == g && Region.binds .any e) | none => true) &&
    !(isSel o.op)
/-- The slots that are filled are those of operations. -/
def filled (ops : Array Oper) (L : List (Nat × Value)) : Bool := L.all fun p => (List.range ops.size).any fun j => dstOf ops j == some p.1
theorem fill_size (L : List (Nat × Value)) : ∀ a : Array Value, (fill a L).size = a.size := by
  induction L with
  | nil => intro a; rfl
  | cons p r ih => intro a; unfold fill; rw [ih, Array.size_setIfInBounds]
theorem fill_other {s : Nat} (L : List (Nat × Value)) (h : ∀ p ∈ L, p.1 ≠ s) : ∀ a : Array Value, (fill a L).getD s undef = a.getD s undef := by
  induction L with
  | nil => intro a; rfl
  | cons p r ih =>
    intro a
    unfold fill
    rw [ih (fun q hq => h q (List.mem_cons_of_mem _ hq))]
    exact put_other (⟨a, []⟩ : Act) p.2 (Ne.symm (h p (by simp)))
section
variable {P : Program} {ops : Array Oper} {Q : Exit → Act → World → Prop} {F : Array Value} {ds : List Deferred} {J : World → Prop}
structure Fine1 (ops : Array Oper) (n i : Nat) (o : Oper) : Prop where
  fwd : ∀ e ∈ o.after, e.on < i
  lt : ∀ d, o.dst = some d → d < n
  one : ∀ d, o.dst = some d → ∀ j, j ≠ i → dstOf ops j ≠ some d
  looks : ∀ s, Operand.tmp s ∈ o.op.operands → ∀ j, dstOf ops j = some s → ∃ e ∈ o.after, e.on = j ∧ Region.binds .any e = true
  guard : ∀ g b, o.guard = some (g, b) → ∃ e ∈ o.after, e.on = g ∧ Region.binds .any e = true
  sel : ∀ cs b, o.op ≠ .select cs b
theorem dst_lt {j d : Nat} (h : dstOf ops j = some d) : j < ops.size := by
  unfold dstOf at h
  rcases Nat.lt_or_ge j ops.size with h' | h'
  · exact h'
  · rw [Array.getElem?_eq_none h'] at h; cases h
theorem fine_at {n i : Nat} {o : Oper} (h : fine ops n = true) (ho : ops[i]? = some o) : Fine1 ops n i o := by
  have hi := (Array.getElem?_eq_some_iff.1 ho).1
  have h1 := List.all_eq_true.1 h i (List.mem_range.2 hi)
  rw [ho] at h1
  simp only [Bool.and_eq_true] at h1
  obtain ⟨⟨⟨⟨a1, a2⟩, a3⟩, a4⟩, a5⟩ := h1
  refine ⟨?_, ?_, ?_, ?_, ?_, ?_⟩
  · intro e he
    have := Array.all_eq_true_iff_forall_mem.1 a1 e he
    simpa using this
  · intro d hd
    rw [hd] at a2
    simp only [Bool.and_eq_true, decide_eq_true_eq] at a2
    exact a2.1
  · intro d hd j hj e
    rw [hd] at a2
    simp only [Bool.and_eq_true] at a2
    have := List.all_eq_true.1 a2.2 j (List.mem_range.2 (dst_lt e))
    rw [e] at this
    simp [hj] at this
  · intro s hs j hj
    have h2 := Array.all_eq_true_iff_forall_mem.1 a3 _ hs
    have h3 := List.all_eq_true.1 h2 j (List.mem_range.2 (dst_lt hj))
    rw [hj] at h3
    have h4 : o.after.any (fun e => e.on == j && Region.binds .any e) = true := by simpa using h3
    obtain ⟨e, he, h5⟩ := Array.any_eq_true'.1 h4
    simp only [Bool.and_eq_true, beq_iff_eq] at h5
    exact ⟨e, he, h5⟩
  · intro g b hg
    rw [hg] at a4
    obtain ⟨e, he, h5⟩ := Array.any_eq_true'.1 a4
    simp only [Bool.and_eq_true, beq_iff_eq] at h5
    exact ⟨e, he, h5⟩
  · intro cs b e
    rw [e] at a5
    simp [isSel] at a5
/-- What holds whatever has come up. -/
structure VInv (ops : Array Oper) (F : Array Value) (ds : List Deferred) (J : World → Prop) (listed : Array Bool) (a : Act) (W : World) : Prop where
  lsz : listed.size = ops.size
  tsz : a.tmps.size = F.size
  dfr : a.defers = ds
  held : J W
  old : ∀ s, (∀ j, dstOf ops j ≠ some s) → a.tmps.getD s undef = F.getD s undef
  new : ∀ j s, listed.getD j false = true → dstOf ops j = some s → a.tmps.getD s undef = F.getD s undef
/-- What is asked of an operation: at the frame behind the region it leaves that frame, or it is not wanted there. -/
def StepOK (P : Program) (ops : Array Oper) (Q : Exit → Act → World → Prop) (F : Array Value) (ds : List Deferred) (J : World → Prop) (i : Nat) : Prop :=
  ∀ o, ops[i]? = some o → (Region.wanted o (yielded ops F) = false ∧ ∀ d, o.dst = some d → F.getD d undef = undef) ∨
    (Region.wanted o (yielded ops F) = true ∧ ∀ W, J W → o.wp P ⟨F, ds⟩ W (fun a' W' => a' = ⟨F, ds⟩ ∧ J W') (NoPanic Q))
theorem val_step {n : Nat} {listed : Array Bool} {a : Act} {W : World} {i : Nat} (hn : F.size = n) (hf : fine ops n = true) (hS : StepOK P ops Q F ds J i) (I : VInv ops F ds J listed a W) (hr : i ∈ Region.ready .any ops listed) :
    wpOp P ops (NoPanic Q) i (fun a' W' => VInv ops F ds J (listed.setIfInBounds i true) a' W') a W := by
  obtain ⟨h0, o, ho, hw⟩ := mem_ready.1 hr
  have f1 := fine_at hf ho
  -- what it looks at is as it will be
  have he : ∀ x ∈ o.op.operands, a.eval x = (⟨F, ds⟩ : Act).eval x := by
    intro x hx
    cases x with
    | tmp s =>
      show a.tmps.getD s undef = F.getD s undef
      by_cases h : ∃ j, dstOf ops j = some s
      · obtain ⟨j, hj⟩ := h
        obtain ⟨e, he, e1, e2⟩ := f1.looks s hx j hj
        exact I.new j s (by rw [← e1]; exact hw e he e2) hj
      · exact I.old s (fun j hj => h ⟨j, hj⟩)
    | const v => rfl
    | global g => rfl
    | func f => rfl
  have hx : execOp a.eval o = execOp (⟨F, ds⟩ : Act).eval o := execOp_congr o f1.sel he
  have hwant : Region.wanted o (yielded ops a.tmps) = Region.wanted o (yielded ops F) := by
    unfold Region.wanted
    cases hg : o.guard with
    | none => rfl
    | some gb =>
      obtain ⟨g, b⟩ := gb
      obtain ⟨e, he, e1, e2⟩ := f1.guard g b hg
      have hl : listed.getD g false = true := by rw [← e1]; exact hw e he e2
      have hy : yielded ops a.tmps g = yielded ops F g := by
        unfold yielded
        cases hd : (ops[g]?).bind (·.dst) with
        | none => rfl
        | some d =>
          have e3 := I.new g d hl hd
          have e4 : a.tmps[d]? = F[d]? := by
            rcases Nat.lt_or_ge d F.size with h' | h'
            · have h2 : d < a.tmps.size := by rw [I.tsz]; exact h'
              rw [Array.getElem?_eq_getElem h', Array.getElem?_eq_getElem h2]
              simp [h', h2] at e3
              rw [e3]
            · rw [Array.getElem?_eq_none h', Array.getElem?_eq_none (by rw [I.tsz]; exact h')]
          simp only [Option.bind_some]
          rw [e4]
      show (yielded ops a.tmps g == some b) = (yielded ops F g == some b)
      rw [hy]
  have hput : ∀ (v : Value) (W' : World), (∀ d, o.dst = some d → F.getD d undef = v) → J W' → VInv ops F ds J (listed.setIfInBounds i true) (a.put o.dst v) W' := by
    intro v W' hv hJ
    have hd : dstOf ops i = o.dst := by unfold dstOf; rw [ho]; rfl
    cases hds : o.dst with
    | none =>
      refine ⟨by rw [Array.size_setIfInBounds]; exact I.lsz, I.tsz, I.dfr, hJ, I.old, ?_⟩
      intro j s hl hj
      have hne : j ≠ i := by rintro rfl; rw [hd, hds] at hj; cases hj
      exact I.new j s (set_old hl hne) hj
    | some d =>
      refine ⟨by rw [Array.size_setIfInBounds]; exact I.lsz, by rw [put_size]; exact I.tsz, I.dfr, hJ, ?_, ?_⟩
      · intro s hs
        have : s ≠ d := fun e => hs i (by rw [hd, hds, e])
        rw [put_other _ _ this]
        exact I.old s hs
      · intro j s hl hj
        by_cases e : j = i
        · subst e
          rw [hd, hds] at hj
          injection hj with hj
          subst hj
          rw [put_same _ _ _ (by rw [I.tsz, hn]; exact f1.lt d hds)]
          exact (hv d hds).symm
        · have : s ≠ d := by
            rintro rfl
            exact f1.one s hds j e hj
          rw [put_other _ _ this]
          exact I.new j s (set_old hl e) hj
  have hback : ∀ (v : Value), (⟨F, ds⟩ : Act).put o.dst v = ⟨F, ds⟩ → ∀ d, o.dst = some d → F.getD d undef = v := by
    intro v h d hd
    rw [hd] at h
    have h2 : F.setIfInBounds d v = F := by injection h
    have h3 : d < F.size := by rw [hn]; exact f1.lt d hd
    have h4 := congrArg (fun A : Array Value => A.getD d undef) h2
    simp [h3] at h4
    simp [h3]
    exact h4.symm
  unfold wpOp
  simp only [ho, hwant]
  rcases hS o ho with ⟨w1, w2⟩ | ⟨w1, w2⟩
  · rw [w1, if_neg (by simp)]
    exact hput undef W w2 I.held
  · rw [w1, if_pos rfl]
    left
    have h := w2 W I.held
    unfold Oper.wp at h ⊢
    rw [hx]
    generalize (execOp (⟨F, ds⟩ : Act).eval o).run P W = r at h ⊢
    cases r with
    | ok nx w' =>
      cases nx <;> simp only [Oper.upon] at h ⊢
      case value v => exact hput v w' (hback v h.1) h.2
      case skip => exact hput undef w' (hback undef h.1) h.2
      case defer d =>
        exfalso
        have h2 := congrArg Act.defers h.1
        have h3 : d :: ds = ds := by
          cases hds : o.dst <;> simp [hds, Act.put] at h2
        have := congrArg List.length h3
        simp at this
      case enter f args =>
        refine Calls.mono h (fun e w'' he => ?_)
        cases e with
        | returned v => exact hput v w'' (hback v he.1) he.2
        | panicked c => exact (he : False).elim
        | outgrown => exact he
      case row row args => exact Rows.mono h (fun v w'' he => hput v w'' (hback v he.1) he.2)
      all_goals exact h.elim
    | halt x w' =>
      cases x <;> simp only [Oper.upon] at h ⊢
      all_goals exact (h : False).elim
theorem StepOK.of {i : Nat} {o : Oper} (ho : ops[i]? = some o) (h : (Region.wanted o (yielded ops F) = false ∧ ∀ d, o.dst = some d → F.getD d undef = undef) ∨
    (Region.wanted o (yielded ops F) = true ∧ ∀ W, J W → ∀ K : Act → World → Prop, (∀ W', J W' → K ⟨F, ds⟩ W') → o.wp P ⟨F, ds⟩ W K (NoPanic Q))) : StepOK P ops Q F ds J i := by
  intro o' ho'
  rw [ho] at ho'
  injection ho' with ho'
  subst ho'
  rcases h with h | ⟨h1, h2⟩
  · exact .inl h
  · exact .inr ⟨h1, fun W hJ => h2 W hJ _ (fun W' hJ' => ⟨rfl, hJ'⟩)⟩
theorem below_zero {p : Nat → Prop} : ∀ i, i < 0 → p i := fun i hi => absurd hi (by omega)
theorem below_succ {p : Nat → Prop} {n : Nat} (h0 : p n) (h : ∀ i, i < n → p i) : ∀ i, i < n + 1 → p i := fun i hi => by
  rcases Nat.lt_or_ge i n with h' | h'
  · exact h i h'
  · rw [show i = n by omega]; exact h0
theorem val_region {n id : Nat} {a0 : Array Value} {W : World} (L : List (Nat × Value)) (hn : a0.size = n) (hm : P.follows .mixedOrders = true) (hf : fine ops n = true) (hL : filled ops L = true)
    (hJ : J W.drew) (hS : ∀ F, F = fill a0 L → (∀ i, i < ops.size → StepOK P ops Q F ds J i) ∧ ∀ W', J W' → Q .normal ⟨F, ds⟩ W') : (Code.region id ops true).wp P Q ⟨a0, ds⟩ W := by
  obtain ⟨F, hF⟩ : ∃ F, F = fill a0 L := ⟨_, rfl⟩
  obtain ⟨hS, hQ⟩ := hS F hF
  replace hn : F.size = n := by rw [hF, fill_size]; exact hn
  refine wp_region_noPanic (wp_region_any hm ?_)
  have hnl : ∀ i, (Array.replicate ops.size false).getD i false = false := fun i => by
    rcases Nat.lt_or_ge i ops.size with h | h
    · simp [h]
    · simp [h]
  refine any_inv (P := P) (ops := ops) (Q := NoPanic Q) (md := .any) (I := fun f listed a' w' => VInv ops F ds J listed a' w')
    (fun f listed a' w' i hI hr => by
      obtain ⟨_, o, ho, _⟩ := mem_ready.1 hr
      exact val_step hn hf (hS i (Array.getElem?_eq_some_iff.1 ho).1) hI hr)
    (fun f listed a' w' hI hr => ?_)
    ops.size (Array.replicate ops.size false) ⟨a0, ds⟩ W.drew (all_unlisted ops.size)
    ⟨by simp, by rw [hF, fill_size], rfl, hJ, ?_, fun j s h _ => by rw [hnl] at h; cases h⟩
  · have h2 := all_listed (fun i o ho => (fine_at hf ho).fwd) hI.lsz hr
    have e : a' = ⟨F, ds⟩ := by
      obtain ⟨ts, df⟩ := a'
      have h3 : df = ds := hI.dfr
      subst h3
      congr 1
      have hsz : ts.size = F.size := hI.tsz
      apply Array.ext hsz
      intro s hs1 hs2
      have h4 : ts.getD s undef = F.getD s undef := by
        by_cases h : ∃ j, dstOf ops j = some s
        · obtain ⟨j, hj⟩ := h
          exact hI.new j s (h2 j (dst_lt hj)) hj
        · exact hI.old s (fun j hj => h ⟨j, hj⟩)
      simp [hs1, hs2] at h4
      exact h4
    rw [e]
    exact NoPanic.normal (hQ w' hI.held)
  · intro s hs
    rw [hF]
    refine (fill_other L (fun p hp e => ?_) a0).symm
    have h3 := List.all_eq_true.1 hL p hp
    obtain ⟨j, _, h4⟩ := List.any_eq_true.1 h3
    rw [e] at h4
    exact hs j (by simpa using h4)
end
end Go.Proofs.YtledjiikpajdaaaDoor.Rg
/-
  A region that draws its order, some of whose calls make blocks: the blocks' numbers are told when they come up; all else leaves values that are told ahead, but for those numbers. No condition.
-/
namespace Go.Proofs.YtledjiikpajdaaaDoor.Rg
open Go.RowKit
set_option linter.unusedVariables false

def waitsB (ops : Array Oper) (i j : Nat) : Bool := match ops[i]? with
  | some o => o.after.any fun e => e.on == j && Region.binds .any e
  | none => false
def reach (ops : Array Oper) (i j : Nat) : Bool := waitsB ops i j || (match ops[i]? with
  | some o => o.after.any fun e => Region.binds .any e && waitsB ops e.on j
  | none => false)
def upd (x : Nat → Nat) (i b : Nat) : Nat → Nat := fun j => if j = i then b else x j
theorem upd_same (x : Nat → Nat) (i b : Nat) : upd x i b i = b := if_pos rfl
theorem upd_other (x : Nat → Nat) (i b : Nat) {j : Nat} (h : j ≠ i) : upd x i b j = x j := if_neg h
section
variable {P : Program} {ops : Array Oper} {Q : Exit → Act → World → Prop} {F : Array Value} {ds : List Deferred} {J : World → Prop}
theorem waits_at {i j : Nat} {o : Oper} (ho : ops[i]? = some o) (h : waitsB ops i j = true) : ∃ e ∈ o.after, e.on = j ∧ Region.binds .any e = true := by
  unfold waitsB at h
  rw [ho] at h
  obtain ⟨e, he, h5⟩ := Array.any_eq_true'.1 h
  simp only [Bool.and_eq_true, beq_iff_eq] at h5
  exact ⟨e, he, h5⟩
theorem waits_of {i : Nat} {o : Oper} (ho : ops[i]? = some o) {e : Edge} (he : e ∈ o.after) (hb : Region.binds .any e = true) : waitsB ops i e.on = true := by
  unfold waitsB
  rw [ho]
  exact Array.any_eq_true'.2 ⟨e, he, by simp [hb]⟩
theorem reach_at {i j : Nat} (h : reach ops i j = true) : waitsB ops i j = true ∨ ∃ k, waitsB ops i k = true ∧ waitsB ops k j = true := by
  unfold reach at h
  rw [Bool.or_eq_true] at h
  rcases h with h | h
  · exact .inl h
  · cases ho : ops[i]? with
    | none => rw [ho] at h; cases h
    | some o =>
      rw [ho] at h
      obtain ⟨e, he, h5⟩ := Array.any_eq_true'.1 h
      simp only [Bool.and_eq_true] at h5
      exact .inr ⟨e.on, waits_of ho he h5.1, h5.2⟩
/-- What an operation looks at is as it will be behind the region. -/
theorem same_run {n : Nat} {listed : Array Bool} {a : Act} {W : World} {i : Nat} {o : Oper} (hf : fine ops n = true) (I : VInv ops F ds J listed a W) (ho : ops[i]? = some o) (hw : ∀ e ∈ o.after, Region.binds .any e = true → listed.getD e.on false = true) :
    execOp a.eval o = execOp (⟨F, ds⟩ : Act).eval o := by
  have f1 := fine_at hf ho
  refine execOp_congr o f1.sel (fun x hx => ?_)
  cases x with
  | tmp s =>
    show a.tmps.getD s undef = F.getD s undef
    by_cases h : ∃ j, dstOf ops j = some s
    · obtain ⟨j, hj⟩ := h
      obtain ⟨e, he, e1, e2⟩ := f1.looks s hx j hj
      exact I.new j s (by rw [← e1]; exact hw e he e2) hj
    · exact I.old s (fun j hj => h ⟨j, hj⟩)
  | const v => rfl
  | global g => rfl
  | func f => rfl
end
section
variable {P : Program} {ops : Array Oper} {Q : Exit → Act → World → Prop} {F : (Nat → Nat) → Array Value} {ds : List Deferred} {J : World → Prop} {spec : List Nat} {A : Nat → Nat → World → Prop} {sv : Nat → Nat → Value}
def Held (J : World → Prop) (spec : List Nat) (A : Nat → Nat → World → Prop) (x : Nat → Nat) (listed : Array Bool) (W : World) : Prop := J W ∧ ∀ j ∈ spec, listed.getD j false = true → A j (x j) W
structure PInv (ops : Array Oper) (F : (Nat → Nat) → Array Value) (ds : List Deferred) (J : World → Prop) (spec : List Nat) (A : Nat → Nat → World → Prop) (listed : Array Bool) (a : Act) (W : World) : Prop where
  cls : ∀ j k, listed.getD j false = true → waitsB ops j k = true → listed.getD k false = true
  val : ∃ x, VInv ops (F x) ds (Held J spec A x listed) listed a W
/-- What is asked of an operation that makes no block of its own. -/
def PlainOK (P : Program) (ops : Array Oper) (Q : Exit → Act → World → Prop) (F : (Nat → Nat) → Array Value) (ds : List Deferred) (J : World → Prop) (spec : List Nat) (A : Nat → Nat → World → Prop) (i : Nat) : Prop :=
  ∀ x o, ops[i]? = some o → (Region.wanted o (yielded ops (F x)) = false ∧ ∀ d, o.dst = some d → (F x).getD d undef = undef) ∨
    (Region.wanted o (yielded ops (F x)) = true ∧ ∀ W, J W → (∀ j ∈ spec, reach ops i j = true → A j (x j) W) → ∀ K : Act → World → Prop, (∀ W', J W' → Below W.heap.size W W' → K ⟨F x, ds⟩ W') → o.wp P ⟨F x, ds⟩ W K (NoPanic Q))
/-- And of one that makes a block. -/
def SpecOK (P : Program) (ops : Array Oper) (Q : Exit → Act → World → Prop) (F : (Nat → Nat) → Array Value) (ds : List Deferred) (J : World → Prop) (A : Nat → Nat → World → Prop) (sv : Nat → Nat → Value) (i : Nat) : Prop :=
  ∀ x o, ops[i]? = some o → o.guard = none ∧ (∃ d, o.dst = some d ∧ ∀ x, (F x).getD d undef = sv i (x i)) ∧
    ∀ W, J W → ∀ K : Act → World → Prop, (∀ b W', J W' → Below W.heap.size W W' → A i b W' → K ((⟨F x, ds⟩ : Act).put o.dst (sv i b)) W') → o.wp P ⟨F x, ds⟩ W K (NoPanic Q)
theorem cls_next {listed : Array Bool} {i : Nat} {o : Oper} (hsz : listed.size = ops.size) (ho : ops[i]? = some o) (hc : ∀ j k, listed.getD j false = true → waitsB ops j k = true → listed.getD k false = true)
    (hw : ∀ e ∈ o.after, Region.binds .any e = true → listed.getD e.on false = true) : ∀ j k, (listed.setIfInBounds i true).getD j false = true → waitsB ops j k = true → (listed.setIfInBounds i true).getD k false = true := by
  intro j k hj hk
  have up : ∀ k, listed.getD k false = true → (listed.setIfInBounds i true).getD k false = true := by
    intro k h
    by_cases e : k = i
    · subst e
      have hlt := (Array.getElem?_eq_some_iff.1 ho).1
      simp [hsz, hlt]
    · rw [getD_set_ne false (Ne.symm e)]; exact h
  by_cases e : j = i
  · subst e
    obtain ⟨e, he, e1, e2⟩ := waits_at ho hk
    exact up k (by rw [← e1]; exact hw e he e2)
  · exact up k (hc j k (set_old hj e) hk)
theorem pend_plain {n : Nat} {listed : Array Bool} {a : Act} {W : World} {i : Nat} (hn : ∀ x, (F x).size = n) (hf : fine ops n = true) (hA : ∀ j b W W', A j b W → Below W.heap.size W W' → A j b W') (hi : i ∉ spec)
    (hS : PlainOK P ops Q F ds J spec A i) (I : PInv ops F ds J spec A listed a W) (hr : i ∈ Region.ready .any ops listed) :
    wpOp P ops (NoPanic Q) i (fun a' W' => PInv ops F ds J spec A (listed.setIfInBounds i true) a' W') a W := by
  obtain ⟨h0, o, ho, hw⟩ := mem_ready.1 hr
  obtain ⟨x, V⟩ := I.val
  have hcl := cls_next (ops := ops) V.lsz ho I.cls hw
  have hst : StepOK P ops Q (F x) ds (Held J spec A x listed) i := by
    intro o' ho'
    rcases hS x o' ho' with h | ⟨h1, h2⟩
    · exact .inl h
    · refine .inr ⟨h1, fun U hU => h2 U hU.1 (fun j hj hre => hU.2 j hj ?_) _ (fun W' hJ' hb => ⟨rfl, hJ', fun j hj hl => hA j _ U W' (hU.2 j hj hl) hb⟩)⟩
      rcases reach_at hre with h | ⟨k, k1, k2⟩
      · obtain ⟨e, he, e1, e2⟩ := waits_at ho h
        rw [← e1]; exact hw e he e2
      · obtain ⟨e, he, e1, e2⟩ := waits_at ho k1
        exact I.cls k j (by rw [← e1]; exact hw e he e2) k2
  refine wpOp_mono (fun a' W' h => ⟨hcl, x, ?_⟩) (val_step (hn x) hf hst V hr)
  exact ⟨h.lsz, h.tsz, h.dfr, ⟨h.held.1, fun j hj hl => h.held.2 j hj (set_old hl (fun e => hi (e ▸ hj)))⟩, h.old, h.new⟩
theorem pend_spec {n : Nat} {listed : Array Bool} {a : Act} {W : World} {i : Nat} (hn : ∀ x, (F x).size = n) (hf : fine ops n = true) (hA : ∀ j b W W', A j b W → Below W.heap.size W W' → A j b W')
    (hF : ∀ i ∈ spec, ∀ x b s, (∀ j, dstOf ops j = some s → j ≠ i ∧ reach ops j i = false) → (F (upd x i b)).getD s undef = (F x).getD s undef) (hi : i ∈ spec)
    (hS : SpecOK P ops Q F ds J A sv i) (I : PInv ops F ds J spec A listed a W) (hr : i ∈ Region.ready .any ops listed) :
    wpOp P ops (NoPanic Q) i (fun a' W' => PInv ops F ds J spec A (listed.setIfInBounds i true) a' W') a W := by
  obtain ⟨h0, o, ho, hw⟩ := mem_ready.1 hr
  obtain ⟨x, V⟩ := I.val
  have hcl := cls_next (ops := ops) V.lsz ho I.cls hw
  have f1 := fine_at hf ho
  have hx := same_run hf V ho hw
  obtain ⟨hg, ⟨d, hd, hdv⟩, hstep⟩ := hS x o ho
  have hdo : dstOf ops i = some d := by unfold dstOf; rw [ho]; exact hd
  have hlt := (Array.getElem?_eq_some_iff.1 ho).1
  have hil : listed.getD i false = false := by
    have h2 : i < listed.size := by rw [V.lsz]; exact hlt
    simp [h2] at h0 ⊢
    exact h0
  have hput : ∀ (b : Nat) (W' : World), J W' → Below W.heap.size W W' → A i b W' → PInv ops F ds J spec A (listed.setIfInBounds i true) (a.put o.dst (sv i b)) W' := by
    intro b W' hJ hb hAi
    refine ⟨hcl, upd x i b, ⟨by rw [Array.size_setIfInBounds]; exact V.lsz, by rw [hd, put_size, V.tsz, hn, hn], by rw [hd]; exact V.dfr, ⟨hJ, ?_⟩, ?_, ?_⟩⟩
    · intro j hj hl
      by_cases e : j = i
      · subst e; rw [upd_same]; exact hAi
      · rw [upd_other _ _ _ e]; exact hA j _ W W' (V.held.2 j hj (set_old hl e)) hb
    · intro s hs
      have : s ≠ d := fun e => hs i (by rw [hdo, e])
      rw [hd, put_other _ _ this, hF i hi x b s (fun j hj => absurd hj (hs j))]
      exact V.old s hs
    · intro j s hl hj
      by_cases e : j = i
      · subst e
        rw [hdo] at hj
        injection hj with hj
        subst hj
        rw [hd, put_same _ _ _ (by rw [V.tsz, hn]; exact f1.lt d hd), hdv, upd_same]
      · have hsd : s ≠ d := by
          rintro rfl
          exact f1.one s hd j e hj
        have hl2 := set_old hl e
        have hnr : reach ops j i = false := by
          rw [Bool.eq_false_iff]; intro hre
          have : listed.getD i false = true := by
            rcases reach_at hre with h | ⟨k, k1, k2⟩
            · exact I.cls j i hl2 h
            · exact I.cls k i (I.cls j k hl2 k1) k2
          rw [hil] at this; cases this
        rw [hd, put_other _ _ hsd, hF i hi x b s (fun j' hj' => by
          have : j' = j := by
            by_cases e3 : j' = j
            · exact e3
            · cases ho2 : ops[j]? with
              | none => unfold dstOf at hj; rw [ho2] at hj; cases hj
              | some o2 =>
                have hd2 : o2.dst = some s := by unfold dstOf at hj; rw [ho2] at hj; exact hj
                exact absurd hj' ((fine_at hf ho2).one s hd2 j' e3)
          subst this
          exact ⟨e, hnr⟩)]
        exact V.new j s hl2 hj
  have hback : ∀ (v : Value) (b : Nat), (⟨F x, ds⟩ : Act).put o.dst v = (⟨F x, ds⟩ : Act).put o.dst (sv i b) → v = sv i b := by
    intro v b h
    rw [hd] at h
    have h2 : (F x).setIfInBounds d v = (F x).setIfInBounds d (sv i b) := by injection h
    have h3 : d < (F x).size := by rw [hn]; exact f1.lt d hd
    have h4 := congrArg (fun B : Array Value => B.getD d undef) h2
    simp [h3] at h4
    exact h4
  unfold wpOp
  simp only [ho, Region.wanted, hg, if_true]
  left
  have h := hstep W V.held.1 (fun a' W' => ∃ b, a' = (⟨F x, ds⟩ : Act).put o.dst (sv i b) ∧ J W' ∧ Below W.heap.size W W' ∧ A i b W') (fun b W' h1 h2 h3 => ⟨b, rfl, h1, h2, h3⟩)
  unfold Oper.wp at h ⊢
  rw [hx]
  have hval : ∀ v W', (∃ b, (⟨F x, ds⟩ : Act).put o.dst v = (⟨F x, ds⟩ : Act).put o.dst (sv i b) ∧ J W' ∧ Below W.heap.size W W' ∧ A i b W') → PInv ops F ds J spec A (listed.setIfInBounds i true) (a.put o.dst v) W' := by
    rintro v W' ⟨b, e, h1, h2, h3⟩
    rw [hback v b e]
    exact hput b W' h1 h2 h3
  generalize (execOp (⟨F x, ds⟩ : Act).eval o).run P W = r at h ⊢
  cases r with
  | ok nx w' =>
    cases nx <;> simp only [Oper.upon] at h ⊢
    case value v => exact hval v w' h
    case skip => exact hval undef w' h
    case defer d' =>
      exfalso
      obtain ⟨b, e, _⟩ := h
      have h2 := congrArg Act.defers e
      rw [hd] at h2
      have h3 := congrArg List.length h2
      simp [Act.put] at h3
    case enter f args =>
      refine Calls.mono h (fun e w'' he => ?_)
      cases e with
      | returned v => exact hval v w'' he
      | panicked c => exact (he : False).elim
      | outgrown => exact he
    case row row args => exact Rows.mono h (fun v w'' he => hval v w'' he)
    all_goals exact h.elim
  | halt x w' =>
    cases x <;> simp only [Oper.upon] at h ⊢
    all_goals exact (h : False).elim
theorem PlainOK.of {i : Nat} {o : Oper} (ho : ops[i]? = some o) (h : ∀ x, (Region.wanted o (yielded ops (F x)) = false ∧ ∀ d, o.dst = some d → (F x).getD d undef = undef) ∨
    (Region.wanted o (yielded ops (F x)) = true ∧ ∀ W, J W → (∀ j ∈ spec, reach ops i j = true → A j (x j) W) → ∀ K : Act → World → Prop, (∀ W', J W' → Below W.heap.size W W' → K ⟨F x, ds⟩ W') → o.wp P ⟨F x, ds⟩ W K (NoPanic Q))) : PlainOK P ops Q F ds J spec A i := by
  intro x o' ho'
  rw [ho] at ho'
  injection ho' with ho'
  subst ho'
  exact h x
theorem SpecOK.of {i : Nat} {o : Oper} (ho : ops[i]? = some o) (hg : o.guard = none) (hd : ∃ d, o.dst = some d ∧ ∀ x, (F x).getD d undef = sv i (x i))
    (h : ∀ x W, J W → ∀ K : Act → World → Prop, (∀ b W', J W' → Below W.heap.size W W' → A i b W' → K ((⟨F x, ds⟩ : Act).put o.dst (sv i b)) W') → o.wp P ⟨F x, ds⟩ W K (NoPanic Q)) : SpecOK P ops Q F ds J A sv i := by
  intro x o' ho'
  rw [ho] at ho'
  injection ho' with ho'
  subst ho'
  exact ⟨hg, hd, h x⟩
theorem pend_region {n id : Nat} {a0 : Array Value} {W : World} (hn0 : a0.size = n) (hn : ∀ x, (F x).size = n) (hm : P.follows .mixedOrders = true) (hf : fine ops n = true)
    (ha : ∀ s, (∀ j, dstOf ops j ≠ some s) → a0.getD s undef = (F fun _ => 0).getD s undef) (hA : ∀ j b W W', A j b W → Below W.heap.size W W' → A j b W')
    (hF : ∀ i ∈ spec, ∀ x b s, (∀ j, dstOf ops j = some s → j ≠ i ∧ reach ops j i = false) → (F (upd x i b)).getD s undef = (F x).getD s undef)
    (hJ : J W.drew) (hS : ∀ i, i < ops.size → (i ∈ spec → SpecOK P ops Q F ds J A sv i) ∧ (i ∉ spec → PlainOK P ops Q F ds J spec A i))
    (hQ : ∀ x W', J W' → (∀ j ∈ spec, j < ops.size → A j (x j) W') → Q .normal ⟨F x, ds⟩ W') : (Code.region id ops true).wp P Q ⟨a0, ds⟩ W := by
  refine wp_region_noPanic (wp_region_any hm ?_)
  have hnl : ∀ i, (Array.replicate ops.size false).getD i false = false := fun i => by
    rcases Nat.lt_or_ge i ops.size with h | h
    · simp [h]
    · simp [h]
  refine any_inv (P := P) (ops := ops) (Q := NoPanic Q) (md := .any) (I := fun f listed a' w' => PInv ops F ds J spec A listed a' w')
    (fun f listed a' w' i hI hr => by
      obtain ⟨_, o, ho, _⟩ := mem_ready.1 hr
      have hlt := (Array.getElem?_eq_some_iff.1 ho).1
      by_cases hi : i ∈ spec
      · exact pend_spec hn hf hA hF hi ((hS i hlt).1 hi) hI hr
      · exact pend_plain hn hf hA hi ((hS i hlt).2 hi) hI hr)
    (fun f listed a' w' hI hr => ?_)
    ops.size (Array.replicate ops.size false) ⟨a0, ds⟩ W.drew (all_unlisted ops.size)
    ⟨fun j k h _ => (by rw [hnl] at h; cases h), fun _ => 0, ⟨by simp, by rw [hn0, hn], rfl, ⟨hJ, fun j _ h => (by rw [hnl] at h; cases h)⟩, ha, fun j s h _ => (by rw [hnl] at h; cases h)⟩⟩
  obtain ⟨x, V⟩ := hI.val
  have h2 := all_listed (fun i o ho => (fine_at hf ho).fwd) V.lsz hr
  have e : a' = ⟨F x, ds⟩ := by
    obtain ⟨ts, df⟩ := a'
    have h3 : df = ds := V.dfr
    subst h3
    congr 1
    have hsz : ts.size = (F x).size := V.tsz
    apply Array.ext hsz
    intro s hs1 hs2
    have h4 : ts.getD s undef = (F x).getD s undef := by
      by_cases h : ∃ j, dstOf ops j = some s
      · obtain ⟨j, hj⟩ := h
        exact V.new j s (h2 j (dst_lt hj)) hj
      · exact V.old s (fun j hj => h ⟨j, hj⟩)
    simp [hs1, hs2] at h4
    exact h4
  rw [e]
  exact NoPanic.normal (hQ x w' V.held.1 (fun j hj hlt => V.held.2 j hj (h2 j hlt)))
theorem pend_fill {n id : Nat} {a0 : Array Value} {W : World} (L : (Nat → Nat) → List (Nat × Value)) (hn0 : a0.size = n) (hm : P.follows .mixedOrders = true) (hf : fine ops n = true) (hL : filled ops (L fun _ => 0) = true)
    (hA : ∀ j b W W', A j b W → Below W.heap.size W W' → A j b W') (hJ : J W.drew)
    (h : ∀ F : (Nat → Nat) → Array Value, F = (fun x => fill a0 (L x)) → (∀ i ∈ spec, ∀ x b s, (∀ j, dstOf ops j = some s → j ≠ i ∧ reach ops j i = false) → (F (upd x i b)).getD s undef = (F x).getD s undef) ∧
      (∀ i, i < ops.size → (i ∈ spec → SpecOK P ops Q F ds J A sv i) ∧ (i ∉ spec → PlainOK P ops Q F ds J spec A i)) ∧ ∀ x W', J W' → (∀ j ∈ spec, j < ops.size → A j (x j) W') → Q .normal ⟨F x, ds⟩ W') : (Code.region id ops true).wp P Q ⟨a0, ds⟩ W := by
  obtain ⟨h1, h2, h3⟩ := h _ rfl
  refine pend_region (F := fun x => fill a0 (L x)) (sv := sv) hn0 (fun x => by rw [fill_size]; exact hn0) hm hf ?_ hA h1 hJ h2 h3
  intro s hs
  refine (fill_other (L fun _ => 0) (fun p hp e => ?_) a0).symm
  have h4 := List.all_eq_true.1 hL p hp
  obtain ⟨j, _, h5⟩ := List.any_eq_true.1 h4
  rw [e] at h5
  exact hs j (by simpa using h5)
/-- Two frames that differ in these slots alone. -/
theorem puts_other {F G : Array Value} (D : List (Nat × Value)) (h : G = fill F D) {s : Nat} (hs : ∀ p ∈ D, p.1 ≠ s) : G.getD s undef = F.getD s undef := by
  rw [h]; exact fill_other D hs F
end
end Go.Proofs.YtledjiikpajdaaaDoor.Rg
