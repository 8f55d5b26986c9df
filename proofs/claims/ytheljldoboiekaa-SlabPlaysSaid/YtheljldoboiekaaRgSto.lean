/-
  As RgVal: a region that draws its order and whose operations each leave a value that is told ahead, with one operation that stores: J false holds ahead of it, J true behind it. No condition.
-/
import Derived.Test.YtheljldoboiekaaRgVal
namespace Go.Proofs.Ytheljldoboiekaa.Rg
open Go.RowKit
set_option linter.unusedVariables false

theorem get_set {listed : Array Bool} {i k : Nat} (h : i < listed.size) : (listed.setIfInBounds i true).getD k false = if i = k then true else listed.getD k false := by
  by_cases e : i = k
  · subst e
    rw [if_pos rfl]; simp [h]
  · rw [if_neg e]; exact getD_set_ne false e
theorem get_false {listed : Array Bool} {i : Nat} (h : listed.getD i true = false) : listed.getD i false = false := by
  rcases Nat.lt_or_ge i listed.size with h2 | h2
  · simp [h2] at h ⊢; exact h
  · simp [h2]
section
variable {P : Program} {ops : Array Oper} {Q : Exit → Act → World → Prop} {F : Array Value} {ds : List Deferred} {J : Bool → World → Prop} {k0 : Nat}
/-- What holds whatever has come up. -/
structure SInv (ops : Array Oper) (F : Array Value) (ds : List Deferred) (J : Bool → World → Prop) (k0 : Nat) (listed : Array Bool) (a : Act) (W : World) : Prop where
  lsz : listed.size = ops.size
  tsz : a.tmps.size = F.size
  dfr : a.defers = ds
  held : J (listed.getD k0 false) W
  old : ∀ s, (∀ j, dstOf ops j ≠ some s) → a.tmps.getD s undef = F.getD s undef
  new : ∀ j s, listed.getD j false = true → dstOf ops j = some s → a.tmps.getD s undef = F.getD s undef
/-- What is asked of an operation: at the frame behind the region it leaves that frame, or it is not wanted there. -/
def StepS (P : Program) (ops : Array Oper) (Q : Exit → Act → World → Prop) (F : Array Value) (ds : List Deferred) (J : Bool → World → Prop) (k0 i : Nat) : Prop :=
  ∀ o, ops[i]? = some o → (Region.wanted o (yielded ops F) = false ∧ i ≠ k0 ∧ ∀ d, o.dst = some d → F.getD d undef = undef) ∨
    (Region.wanted o (yielded ops F) = true ∧ ∀ b W, (i = k0 → b = false) → J b W → o.wp P ⟨F, ds⟩ W (fun a' W' => a' = ⟨F, ds⟩ ∧ J (if i = k0 then true else b) W') (NoPanic Q))
theorem sto_step {n : Nat} {listed : Array Bool} {a : Act} {W : World} {i : Nat} (hn : F.size = n) (hf : fine ops n = true) (hS : StepS P ops Q F ds J k0 i) (I : SInv ops F ds J k0 listed a W) (hr : i ∈ Region.ready .any ops listed) :
    wpOp P ops (NoPanic Q) i (fun a' W' => SInv ops F ds J k0 (listed.setIfInBounds i true) a' W') a W := by
  obtain ⟨h0, o, ho, hw⟩ := mem_ready.1 hr
  have f1 := fine_at hf ho
  -- what it looks at is as it will be
  have he : ∀ x ∈ o.op.operands, a.eval x = (⟨F, ds⟩ : Act).eval x := by
    intro x hx
    cases x with
    | tmp s =>
      show a.tmps.getD s undef = F.getD s undef
      by_cases h : ∃ j, dstOf ops j = some s
      · obtain ⟨j, hj⟩ := h
        obtain ⟨e, he, e1, e2⟩ := f1.looks s hx j hj
        exact I.new j s (by rw [← e1]; exact hw e he e2) hj
      · exact I.old s (fun j hj => h ⟨j, hj⟩)
    | const v => rfl
    | global g => rfl
    | func f => rfl
  have hx : execOp a.eval o = execOp (⟨F, ds⟩ : Act).eval o := execOp_congr o f1.sel he
  have hwant : Region.wanted o (yielded ops a.tmps) = Region.wanted o (yielded ops F) := by
    unfold Region.wanted
    cases hg : o.guard with
    | none => rfl
    | some gb =>
      obtain ⟨g, b⟩ := gb
      obtain ⟨e, he, e1, e2⟩ := f1.guard g b hg
      have hl : listed.getD g false = true := by rw [← e1]; exact hw e he e2
      have hy : yielded ops a.tmps g = yielded ops F g := by
        unfold yielded
        cases hd : (ops[g]?).bind (·.dst) with
        | none => rfl
        | some d =>
          have e3 := I.new g d hl hd
          have e4 : a.tmps[d]? = F[d]? := by
            rcases Nat.lt_or_ge d F.size with h' | h'
            · have h2 : d < a.tmps.size := by rw [I.tsz]; exact h'
              rw [Array.getElem?_eq_getElem h', Array.getElem?_eq_getElem h2]
              simp [h', h2] at e3
              rw [e3]
            · rw [Array.getElem?_eq_none h', Array.getElem?_eq_none (by rw [I.tsz]; exact h')]
          simp only [Option.bind_some]
          rw [e4]
      show (yielded ops a.tmps g == some b) = (yielded ops F g == some b)
      rw [hy]
  have hput : ∀ (v : Value) (W' : World), (∀ d, o.dst = some d → F.getD d undef = v) → J (if i = k0 then true else listed.getD k0 false) W' → SInv ops F ds J k0 (listed.setIfInBounds i true) (a.put o.dst v) W' := by
    intro v W' hv hJ
    have hil : i < listed.size := by rw [I.lsz]; exact (Array.getElem?_eq_some_iff.1 ho).1
    rw [← get_set hil] at hJ
    have hd : dstOf ops i = o.dst := by unfold dstOf; rw [ho]; rfl
    cases hds : o.dst with
    | none =>
      refine ⟨by rw [Array.size_setIfInBounds]; exact I.lsz, I.tsz, I.dfr, hJ, I.old, ?_⟩
      intro j s hl hj
      have hne : j ≠ i := by rintro rfl; rw [hd, hds] at hj; cases hj
      exact I.new j s (set_old hl hne) hj
    | some d =>
      refine ⟨by rw [Array.size_setIfInBounds]; exact I.lsz, by rw [put_size]; exact I.tsz, I.dfr, hJ, ?_, ?_⟩
      · intro s hs
        have : s ≠ d := fun e => hs i (by rw [hd, hds, e])
        rw [put_other _ _ this]
        exact I.old s hs
      · intro j s hl hj
        by_cases e : j = i
        · subst e
          rw [hd, hds] at hj
          injection hj with hj
          subst hj
          rw [put_same _ _ _ (by rw [I.tsz, hn]; exact f1.lt d hds)]
          exact (hv d hds).symm
        · have : s ≠ d := by
            rintro rfl
            exact f1.one s hds j e hj
          rw [put_other _ _ this]
          exact I.new j s (set_old hl e) hj
  have hback : ∀ (v : Value), (⟨F, ds⟩ : Act).put o.dst v = ⟨F, ds⟩ → ∀ d, o.dst = some d → F.getD d undef = v := by
    intro v h d hd
    rw [hd] at h
    have h2 : F.setIfInBounds d v = F := by injection h
    have h3 : d < F.size := by rw [hn]; exact f1.lt d hd
    have h4 := congrArg (fun A : Array Value => A.getD d undef) h2
    simp [h3] at h4
    simp [h3]
    exact h4.symm
  unfold wpOp
  simp only [ho, hwant]
  rcases hS o ho with ⟨w1, w2⟩ | ⟨w1, w2⟩
  · rw [w1, if_neg (by simp)]
    exact hput undef W w2.2 (by rw [if_neg w2.1]; exact I.held)
  · rw [w1, if_pos rfl]
    left
    have h := w2 (listed.getD k0 false) W (fun e => by subst e; exact get_false h0) I.held
    unfold Oper.wp at h ⊢
    rw [hx]
    generalize (execOp (⟨F, ds⟩ : Act).eval o).run P W = r at h ⊢
    cases r with
    | ok nx w' =>
      cases nx <;> simp only [Oper.upon] at h ⊢
      case value v => exact hput v w' (hback v h.1) h.2
      case skip => exact hput undef w' (hback undef h.1) h.2
      case defer d =>
        exfalso
        have h2 := congrArg Act.defers h.1
        have h3 : d :: ds = ds := by
          cases hds : o.dst <;> simp [hds, Act.put] at h2
        have := congrArg List.length h3
        simp at this
      case enter f args =>
        refine Calls.mono h (fun e w'' he => ?_)
        cases e with
        | returned v => exact hput v w'' (hback v he.1) he.2
        | panicked c => exact (he : False).elim
        | outgrown => exact he
      case row row args => exact Rows.mono h (fun v w'' he => hput v w'' (hback v he.1) he.2)
      all_goals exact h.elim
    | halt x w' =>
      cases x <;> simp only [Oper.upon] at h ⊢
      all_goals exact (h : False).elim
theorem StepS.of {i : Nat} {o : Oper} (ho : ops[i]? = some o) (hk : i ≠ k0) (h : (Region.wanted o (yielded ops F) = false ∧ ∀ d, o.dst = some d → F.getD d undef = undef) ∨
    (Region.wanted o (yielded ops F) = true ∧ ∀ b W, J b W → ∀ K : Act → World → Prop, (∀ W', J b W' → K ⟨F, ds⟩ W') → o.wp P ⟨F, ds⟩ W K (NoPanic Q))) : StepS P ops Q F ds J k0 i := by
  intro o' ho'
  rw [ho] at ho'
  injection ho' with ho'
  subst ho'
  rcases h with h | ⟨h1, h2⟩
  · exact .inl ⟨h.1, hk, h.2⟩
  · exact .inr ⟨h1, fun b W _ hJ => h2 b W hJ _ (fun W' hJ' => ⟨rfl, by rw [if_neg hk]; exact hJ'⟩)⟩
theorem StepS.st {o : Oper} (ho : ops[k0]? = some o) (h1 : Region.wanted o (yielded ops F) = true) (h2 : ∀ W, J false W → ∀ K : Act → World → Prop, (∀ W', J true W' → K ⟨F, ds⟩ W') → o.wp P ⟨F, ds⟩ W K (NoPanic Q)) : StepS P ops Q F ds J k0 k0 := by
  intro o' ho'
  rw [ho] at ho'
  injection ho' with ho'
  subst ho'
  refine .inr ⟨h1, fun b W hb hJ => ?_⟩
  rw [hb rfl] at hJ
  exact h2 W hJ _ (fun W' hJ' => ⟨rfl, by rw [if_pos rfl]; exact hJ'⟩)
theorem sto_region {n id : Nat} {a0 : Array Value} {W : World} (L : List (Nat × Value)) (hn : a0.size = n) (hm : P.follows .mixedOrders = true) (hf : fine ops n = true) (hL : filled ops L = true)
    (hk0 : k0 < ops.size) (hJ : J false W.drew) (hS : ∀ F, F = fill a0 L → (∀ i, i < ops.size → StepS P ops Q F ds J k0 i) ∧ ∀ W', J true W' → Q .normal ⟨F, ds⟩ W') : (Code.region id ops true).wp P Q ⟨a0, ds⟩ W := by
  obtain ⟨F, hF⟩ : ∃ F, F = fill a0 L := ⟨_, rfl⟩
  obtain ⟨hS, hQ⟩ := hS F hF
  replace hn : F.size = n := by rw [hF, fill_size]; exact hn
  refine wp_region_noPanic (wp_region_any hm ?_)
  have hnl : ∀ i, (Array.replicate ops.size false).getD i false = false := fun i => by
    rcases Nat.lt_or_ge i ops.size with h | h
    · simp [h]
    · simp [h]
  refine any_inv (P := P) (ops := ops) (Q := NoPanic Q) (md := .any) (I := fun f listed a' w' => SInv ops F ds J k0 listed a' w')
    (fun f listed a' w' i hI hr => by
      obtain ⟨_, o, ho, _⟩ := mem_ready.1 hr
      exact sto_step hn hf (hS i (Array.getElem?_eq_some_iff.1 ho).1) hI hr)
    (fun f listed a' w' hI hr => ?_)
    ops.size (Array.replicate ops.size false) ⟨a0, ds⟩ W.drew (all_unlisted ops.size)
    ⟨by simp, by rw [hF, fill_size], rfl, by rw [hnl]; exact hJ, ?_, fun j s h _ => by rw [hnl] at h; cases h⟩
  · have h2 := all_listed2 (fun i o ho => (fine_at hf ho).fwd) hI.lsz hr
    have e : a' = ⟨F, ds⟩ := by
      obtain ⟨ts, df⟩ := a'
      have h3 : df = ds := hI.dfr
      subst h3
      congr 1
      have hsz : ts.size = F.size := hI.tsz
      apply Array.ext hsz
      intro s hs1 hs2
      have h4 : ts.getD s undef = F.getD s undef := by
        by_cases h : ∃ j, dstOf ops j = some s
        · obtain ⟨j, hj⟩ := h
          exact hI.new j s (h2 j (dst_lt hj)) hj
        · exact hI.old s (fun j hj => h ⟨j, hj⟩)
      simp [hs1, hs2] at h4
      exact h4
    rw [e]
    have h5 := hI.held
    rw [h2 k0 hk0] at h5
    exact NoPanic.normal (hQ w' h5)
  · intro s hs
    rw [hF]
    refine (fill_other L (fun p hp e => ?_) a0).symm
    have h3 := List.all_eq_true.1 hL p hp
    obtain ⟨j, _, h4⟩ := List.any_eq_true.1 h3
    rw [e] at h4
    exact hs j (by simpa using h4)
end
end Go.Proofs.Ytheljldoboiekaa.Rg
