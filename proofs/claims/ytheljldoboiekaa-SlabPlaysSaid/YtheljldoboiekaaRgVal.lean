/-
  A region that draws its order and whose operations each leave a value that is told ahead (or are not wanted): its frame behind it. No condition.
-/
import Derived.Test.YtheljldoboiekaaRgInv
import Derived.Deep.RegionHeld3
namespace Go.Proofs.Ytheljldoboiekaa.Rg
open Go.RowKit
set_option linter.unusedVariables false

def dstOf (ops : Array Oper) (i : Nat) : Option Nat := (ops[i]?).bind (·.dst)
/-- A frame with these values put into these slots. -/
def fill (a : Array Value) : List (Nat × Value) → Array Value
  | [] => a
  | p :: r => fill (a.setIfInBounds p.1 p.2) r
def isSel : Op → Bool
  | .select _ _ => true
  | _ => false
/-- Each operation waits for those whose slots it looks at; each slot has one operation. -/
def fine (ops : Array Oper) (n : Nat) : Bool := (List.range ops.size).all fun i => match ops[i]? with
  | none => false
  | some o =>
    (o.after.all fun e => decide (e.on < i) || !Region.binds .any e) &&
    (match o.dst with | some d => decide (d < n) && (List.range ops.size).all (fun j => j == i || !(dstOf ops j == some d)) | none => true) &&
    (o.op.operands.all fun x => match x with | .tmp s => (List.range ops.size).all (fun j => !(dstOf ops j == some s) || o.after.any (fun e => e.on == j && Region.binds .any e)) | _ => true) &&
    (match o.guard with | some (g, _) => o.after.any (fun e => e.on == g && Region.binds .any e) | none => true) &&
    !(isSel o.op)
/-- The slots that are filled are those of operations. -/
def filled (ops : Array Oper) (L : List (Nat × Value)) : Bool := L.all fun p => (List.range ops.size).any fun j => dstOf ops j == some p.1
theorem fill_size (L : List (Nat × Value)) : ∀ a : Array Value, (fill a L).size = a.size := by
  induction L with
  | nil => intro a; rfl
  | cons p r ih => intro a; unfold fill; rw [ih, Array.size_setIfInBounds]
theorem fill_other {s : Nat} (L : List (Nat × Value)) (h : ∀ p ∈ L, p.1 ≠ s) : ∀ a : Array Value, (fill a L).getD s undef = a.getD s undef := by
  induction L with
  | nil => intro a; rfl
  | cons p r ih =>
    intro a
    unfold fill
    rw [ih (fun q hq => h q (List.mem_cons_of_mem _ hq))]
    exact put_other (⟨a, []⟩ : Act) p.2 (Ne.symm (h p (by simp)))
section
variable {P : Program} {ops : Array Oper} {Q : Exit → Act → World → Prop} {F : Array Value} {ds : List Deferred} {J : World → Prop}
structure Fine1 (ops : Array Oper) (n i : Nat) (o : Oper) : Prop where
  fwd : ∀ e ∈ o.after, Region.binds .any e = true → e.on < i
  lt : ∀ d, o.dst = some d → d < n
  one : ∀ d, o.dst = some d → ∀ j, j ≠ i → dstOf ops j ≠ some d
  looks : ∀ s, Operand.tmp s ∈ o.op.operands → ∀ j, dstOf ops j = some s → ∃ e ∈ o.after, e.on = j ∧ Region.binds .any e = true
  guard : ∀ g b, o.guard = some (g, b) → ∃ e ∈ o.after, e.on = g ∧ Region.binds .any e = true
  sel : ∀ cs b, o.op ≠ .select cs b
theorem dst_lt {j d : Nat} (h : dstOf ops j = some d) : j < ops.size := by
  unfold dstOf at h
  rcases Nat.lt_or_ge j ops.size with h' | h'
  · exact h'
  · rw [Array.getElem?_eq_none h'] at h; cases h
theorem fine_at {n i : Nat} {o : Oper} (h : fine ops n = true) (ho : ops[i]? = some o) : Fine1 ops n i o := by
  have hi := (Array.getElem?_eq_some_iff.1 ho).1
  have h1 := List.all_eq_true.1 h i (List.mem_range.2 hi)
  rw [ho] at h1
  simp only [Bool.and_eq_true] at h1
  obtain ⟨⟨⟨⟨a1, a2⟩, a3⟩, a4⟩, a5⟩ := h1
  refine ⟨?_, ?_, ?_, ?_, ?_, ?_⟩
  · intro e he hb
    have := Array.all_eq_true_iff_forall_mem.1 a1 e he
    rw [hb] at this
    simpa using this
  · intro d hd
    rw [hd] at a2
    simp only [Bool.and_eq_true, decide_eq_true_eq] at a2
    exact a2.1
  · intro d hd j hj e
    rw [hd] at a2
    simp only [Bool.and_eq_true] at a2
    have := List.all_eq_true.1 a2.2 j (List.mem_range.2 (dst_lt e))
    rw [e] at this
    simp [hj] at this
  · intro s hs j hj
    have h2 := Array.all_eq_true_iff_forall_mem.1 a3 _ hs
    have h3 := List.all_eq_true.1 h2 j (List.mem_range.2 (dst_lt hj))
    rw [hj] at h3
    have h4 : o.after.any (fun e => e.on == j && Region.binds .any e) = true := by simpa using h3
    obtain ⟨e, he, h5⟩ := Array.any_eq_true'.1 h4
    simp only [Bool.and_eq_true, beq_iff_eq] at h5
    exact ⟨e, he, h5⟩
  · intro g b hg
    rw [hg] at a4
    obtain ⟨e, he, h5⟩ := Array.any_eq_true'.1 a4
    simp only [Bool.and_eq_true, beq_iff_eq] at h5
    exact ⟨e, he, h5⟩
  · intro cs b e
    rw [e] at a5
    simp [isSel] at a5
/-- Where no more may come up, and each waits for earlier ones alone, all have come up. -/
theorem all_listed2 {listed : Array Bool} (hfwd : ∀ (i : Nat) (o : Oper), ops[i]? = some o → ∀ e ∈ o.after, Region.binds .any e = true → e.on < i) (hsz : listed.size = ops.size) (hr : Region.ready .any ops listed = []) : ∀ i, i < ops.size → listed.getD i false = true := by
  intro i
  induction i using Nat.strongRecOn with
  | ind i ih =>
    intro hi
    cases hl : listed.getD i false with
    | true => rfl
    | false =>
      exfalso
      have h1 : listed.getD i true = false := by
        have hlt : i < listed.size := by omega
        simp [hlt] at hl ⊢
        exact hl
      have h2 : i ∈ Region.ready .any ops listed := mem_ready.2 ⟨h1, ops[i], Array.getElem?_eq_getElem hi, fun e he hb => ih e.on (hfwd i ops[i] (Array.getElem?_eq_getElem hi) e he hb) (by have := hfwd i ops[i] (Array.getElem?_eq_getElem hi) e he hb; omega)⟩
      rw [hr] at h2
      cases h2
/-- What holds whatever has come up. -/
structure VInv (ops : Array Oper) (F : Array Value) (ds : List Deferred) (J : World → Prop) (listed : Array Bool) (a : Act) (W : World) : Prop where
  lsz : listed.size = ops.size
  tsz : a.tmps.size = F.size
  dfr : a.defers = ds
  held : J W
  old : ∀ s, (∀ j, dstOf ops j ≠ some s) → a.tmps.getD s undef = F.getD s undef
  new : ∀ j s, listed.getD j false = true → dstOf ops j = some s → a.tmps.getD s undef = F.getD s undef
/-- What is asked of an operation: at the frame behind the region it leaves that frame, or it is not wanted there. -/
def StepOK (P : Program) (ops : Array Oper) (Q : Exit → Act → World → Prop) (F : Array Value) (ds : List Deferred) (J : World → Prop) (i : Nat) : Prop :=
  ∀ o, ops[i]? = some o → (Region.wanted o (yielded ops F) = false ∧ ∀ d, o.dst = some d → F.getD d undef = undef) ∨
    (Region.wanted o (yielded ops F) = true ∧ ∀ W, J W → o.wp P ⟨F, ds⟩ W (fun a' W' => a' = ⟨F, ds⟩ ∧ J W') (NoPanic Q))
theorem val_step {n : Nat} {listed : Array Bool} {a : Act} {W : World} {i : Nat} (hn : F.size = n) (hf : fine ops n = true) (hS : StepOK P ops Q F ds J i) (I : VInv ops F ds J listed a W) (hr : i ∈ Region.ready .any ops listed) :
    wpOp P ops (NoPanic Q) i (fun a' W' => VInv ops F ds J (listed.setIfInBounds i true) a' W') a W := by
  obtain ⟨h0, o, ho, hw⟩ := mem_ready.1 hr
  have f1 := fine_at hf ho
  -- what it looks at is as it will be
  have he : ∀ x ∈ o.op.operands, a.eval x = (⟨F, ds⟩ : Act).eval x := by
    intro x hx
    cases x with
    | tmp s =>
      show a.tmps.getD s undef = F.getD s undef
      by_cases h : ∃ j, dstOf ops j = some s
      · obtain ⟨j, hj⟩ := h
        obtain ⟨e, he, e1, e2⟩ := f1.looks s hx j hj
        exact I.new j s (by rw [← e1]; exact hw e he e2) hj
      · exact I.old s (fun j hj => h ⟨j, hj⟩)
    | const v => rfl
    | global g => rfl
    | func f => rfl
  have hx : execOp a.eval o = execOp (⟨F, ds⟩ : Act).eval o := execOp_congr o f1.sel he
  have hwant : Region.wanted o (yielded ops a.tmps) = Region.wanted o (yielded ops F) := by
    unfold Region.wanted
    cases hg : o.guard with
    | none => rfl
    | some gb =>
      obtain ⟨g, b⟩ := gb
      obtain ⟨e, he, e1, e2⟩ := f1.guard g b hg
      have hl : listed.getD g false = true := by rw [← e1]; exact hw e he e2
      have hy : yielded ops a.tmps g = yielded ops F g := by
        unfold yielded
        cases hd : (ops[g]?).bind (·.dst) with
        | none => rfl
        | some d =>
          have e3 := I.new g d hl hd
          have e4 : a.tmps[d]? = F[d]? := by
            rcases Nat.lt_or_ge d F.size with h' | h'
            · have h2 : d < a.tmps.size := by rw [I.tsz]; exact h'
              rw [Array.getElem?_eq_getElem h', Array.getElem?_eq_getElem h2]
              simp [h', h2] at e3
              rw [e3]
            · rw [Array.getElem?_eq_none h', Array.getElem?_eq_none (by rw [I.tsz]; exact h')]
          simp only [Option.bind_some]
          rw [e4]
      show (yielded ops a.tmps g == some b) = (yielded ops F g == some b)
      rw [hy]
  have hput : ∀ (v : Value) (W' : World), (∀ d, o.dst = some d → F.getD d undef = v) → J W' → VInv ops F ds J (listed.setIfInBounds i true) (a.put o.dst v) W' := by
    intro v W' hv hJ
    have hd : dstOf ops i = o.dst := by unfold dstOf; rw [ho]; rfl
    cases hds : o.dst with
    | none =>
      refine ⟨by rw [Array.size_setIfInBounds]; exact I.lsz, I.tsz, I.dfr, hJ, I.old, ?_⟩
      intro j s hl hj
      have hne : j ≠ i := by rintro rfl; rw [hd, hds] at hj; cases hj
      exact I.new j s (set_old hl hne) hj
    | some d =>
      refine ⟨by rw [Array.size_setIfInBounds]; exact I.lsz, by rw [put_size]; exact I.tsz, I.dfr, hJ, ?_, ?_⟩
      · intro s hs
        have : s ≠ d := fun e => hs i (by rw [hd, hds, e])
        rw [put_other _ _ this]
        exact I.old s hs
      · intro j s hl hj
        by_cases e : j = i
        · subst e
          rw [hd, hds] at hj
          injection hj with hj
          subst hj
          rw [put_same _ _ _ (by rw [I.tsz, hn]; exact f1.lt d hds)]
          exact (hv d hds).symm
        · have : s ≠ d := by
            rintro rfl
            exact f1.one s hds j e hj
          rw [put_other _ _ this]
          exact I.new j s (set_old hl e) hj
  have hback : ∀ (v : Value), (⟨F, ds⟩ : Act).put o.dst v = ⟨F, ds⟩ → ∀ d, o.dst = some d → F.getD d undef = v := by
    intro v h d hd
    rw [hd] at h
    have h2 : F.setIfInBounds d v = F := by injection h
    have h3 : d < F.size := by rw [hn]; exact f1.lt d hd
    have h4 := congrArg (fun A : Array Value => A.getD d undef) h2
    simp [h3] at h4
    simp [h3]
    exact h4.symm
  unfold wpOp
  simp only [ho, hwant]
  rcases hS o ho with ⟨w1, w2⟩ | ⟨w1, w2⟩
  · rw [w1, if_neg (by simp)]
    exact hput undef W w2 I.held
  · rw [w1, if_pos rfl]
    left
    have h := w2 W I.held
    unfold Oper.wp at h ⊢
    rw [hx]
    generalize (execOp (⟨F, ds⟩ : Act).eval o).run P W = r at h ⊢
    cases r with
    | ok nx w' =>
      cases nx <;> simp only [Oper.upon] at h ⊢
      case value v => exact hput v w' (hback v h.1) h.2
      case skip => exact hput undef w' (hback undef h.1) h.2
      case defer d =>
        exfalso
        have h2 := congrArg Act.defers h.1
        have h3 : d :: ds = ds := by
          cases hds : o.dst <;> simp [hds, Act.put] at h2
        have := congrArg List.length h3
        simp at this
      case enter f args =>
        refine Calls.mono h (fun e w'' he => ?_)
        cases e with
        | returned v => exact hput v w'' (hback v he.1) he.2
        | panicked c => exact (he : False).elim
        | outgrown => exact he
      case row row args => exact Rows.mono h (fun v w'' he => hput v w'' (hback v he.1) he.2)
      all_goals exact h.elim
    | halt x w' =>
      cases x <;> simp only [Oper.upon] at h ⊢
      all_goals exact (h : False).elim
theorem StepOK.of {i : Nat} {o : Oper} (ho : ops[i]? = some o) (h : (Region.wanted o (yielded ops F) = false ∧ ∀ d, o.dst = some d → F.getD d undef = undef) ∨
    (Region.wanted o (yielded ops F) = true ∧ ∀ W, J W → ∀ K : Act → World → Prop, (∀ W', J W' → K ⟨F, ds⟩ W') → o.wp P ⟨F, ds⟩ W K (NoPanic Q))) : StepOK P ops Q F ds J i := by
  intro o' ho'
  rw [ho] at ho'
  injection ho' with ho'
  subst ho'
  rcases h with h | ⟨h1, h2⟩
  · exact .inl h
  · exact .inr ⟨h1, fun W hJ => h2 W hJ _ (fun W' hJ' => ⟨rfl, hJ'⟩)⟩
theorem below_zero {p : Nat → Prop} : ∀ i, i < 0 → p i := fun i hi => absurd hi (by omega)
theorem below_succ {p : Nat → Prop} {n : Nat} (h0 : p n) (h : ∀ i, i < n → p i) : ∀ i, i < n + 1 → p i := fun i hi => by
  rcases Nat.lt_or_ge i n with h' | h'
  · exact h i h'
  · rw [show i = n by omega]; exact h0
theorem val_region {n id : Nat} {a0 : Array Value} {W : World} (L : List (Nat × Value)) (hn : a0.size = n) (hm : P.follows .mixedOrders = true) (hf : fine ops n = true) (hL : filled ops L = true)
    (hJ : J W.drew) (hS : ∀ F, F = fill a0 L → (∀ i, i < ops.size → StepOK P ops Q F ds J i) ∧ ∀ W', J W' → Q .normal ⟨F, ds⟩ W') : (Code.region id ops true).wp P Q ⟨a0, ds⟩ W := by
  obtain ⟨F, hF⟩ : ∃ F, F = fill a0 L := ⟨_, rfl⟩
  obtain ⟨hS, hQ⟩ := hS F hF
  replace hn : F.size = n := by rw [hF, fill_size]; exact hn
  refine wp_region_noPanic (wp_region_any hm ?_)
  have hnl : ∀ i, (Array.replicate ops.size false).getD i false = false := fun i => by
    rcases Nat.lt_or_ge i ops.size with h | h
    · simp [h]
    · simp [h]
  refine any_inv (P := P) (ops := ops) (Q := NoPanic Q) (md := .any) (I := fun f listed a' w' => VInv ops F ds J listed a' w')
    (fun f listed a' w' i hI hr => by
      obtain ⟨_, o, ho, _⟩ := mem_ready.1 hr
      exact val_step hn hf (hS i (Array.getElem?_eq_some_iff.1 ho).1) hI hr)
    (fun f listed a' w' hI hr => ?_)
    ops.size (Array.replicate ops.size false) ⟨a0, ds⟩ W.drew (all_unlisted ops.size)
    ⟨by simp, by rw [hF, fill_size], rfl, hJ, ?_, fun j s h _ => by rw [hnl] at h; cases h⟩
  · have h2 := all_listed2 (fun i o ho => (fine_at hf ho).fwd) hI.lsz hr
    have e : a' = ⟨F, ds⟩ := by
      obtain ⟨ts, df⟩ := a'
      have h3 : df = ds := hI.dfr
      subst h3
      congr 1
      have hsz : ts.size = F.size := hI.tsz
      apply Array.ext hsz
      intro s hs1 hs2
      have h4 : ts.getD s undef = F.getD s undef := by
        by_cases h : ∃ j, dstOf ops j = some s
        · obtain ⟨j, hj⟩ := h
          exact hI.new j s (h2 j (dst_lt hj)) hj
        · exact hI.old s (fun j hj => h ⟨j, hj⟩)
      simp [hs1, hs2] at h4
      exact h4
    rw [e]
    exact NoPanic.normal (hQ w' hI.held)
  · intro s hs
    rw [hF]
    refine (fill_other L (fun p hp e => ?_) a0).symm
    have h3 := List.all_eq_true.1 hL p hp
    obtain ⟨j, _, h4⟩ := List.any_eq_true.1 h3
    rw [e] at h4
    exact hs j (by simpa using h4)
end
end Go.Proofs.Ytheljldoboiekaa.Rg
