/-
  Texts that the laws' proofs stand on, 3 of them in one file; each one's head says what it proves and under which condition.
-/
import Derived.Test.YtjbdgndejbiikaaDoorSgBP17
import Derived.Test.YtjbdgndejbiikaaDoorSgBP9
import Derived.Deep.RegionWith
import Derived.Laws.EntriesVeiled
import Derived.Maps.OwnSet
import Derived.StringKeys
import Derived.Test.YtjbdgndejbiikaaDoorRows
import Derived.Orders
import Derived.WalkKit
/-
  The closures that read a directive's number, and what makes them: what each returns and leaves. No condition but what each states.
-/
namespace Go.Proofs.YtjbdgndejbiikaaDoor.Ct
open Go.RowKit Go.Proofs.YtjbdgndejbiikaaDoor.Tk Go.Proofs.YtjbdgndejbiikaaDoor.Fd Go.Proofs.YtjbdgndejbiikaaDoor.Hd
set_option linter.unusedVariables false

/-- The number that a directive tells: bare, where it has no value; wrong, where that is no number. -/
def told (bare wrong : Int) (v : ByteArray) (has : Bool) : Int := if has = false then bare else if (Num.numOf v most).2 = false then wrong else (Num.numOf v most).1
/-- A variable of one cell. -/
def Var (w : World) (b : Nat) (x : Value) (t : TypeId) : Prop := w.heap[b]? = some (.cells #[x] t (0, 0))
theorem Var.cell {w : World} {b : Nat} {x : Value} {t : TypeId} (h : Var w b x t) : w.cell? ⟨b, 0, none⟩ = some x := by rw [Lib.cell_of_heap h]; rfl
theorem Var.more {w w' : World} {b : Nat} {x : Value} {t : TypeId} (h : Var w b x t) {B : Nat} (hb : Below B w w') (hl : b < B) : Var w' b x t := Bl.old hb hl h

set_option maxHeartbeats 4000000 in
theorem number1_any (g i b0 b1 b2 : Nat) (x bare wrong : Int) (v : ByteArray) (has : Bool) (w : World) (hv : v.size ≤ maxLen) (h0 : Var w b0 (.int .i64 bare) 3) (h1 : Var w b1 (.int .i64 wrong) 3) (h2 : Var w b2 (.pointer (some ⟨g, i, none⟩)) 112)
    (hx : w.cell? ⟨g, i, none⟩ = some (.int .i64 x)) (hf : w.frozen? ⟨g, i, none⟩ = false) :
    Calls Tryd.prog 68 #[.string v, .bool has, .pointer (some ⟨b0, 0, none⟩), .pointer (some ⟨b1, 0, none⟩), .pointer (some ⟨b2, 0, none⟩)] w fun e w' => e = .returned (.tuple #[]) ∧ PutAt w w' ⟨g, i, none⟩ (.int .i64 (leastP x (told bare wrong v has))) := by
  have c0 := h0.cell
  have c1 := h1.cell
  have c2 := h2.cell
  clear h0 h1 h2
  obtain ⟨N, ok, hN⟩ : ∃ N ok, Num.numOf v most = (N, ok) := ⟨_, _, rfl⟩
  have HN1 := Lib.hid (show (Num.numOf v most).1 = N from by rw [hN])
  have HN2 := Lib.hid (show (Num.numOf v most).2 = ok from by rw [hN])
  have HC := Lib.hid (show Calls Tryd.prog 42 #[.string v, .int .i64 2147483648] w fun e w' => e = .returned (.tuple #[.int .i64 N, .bool ok]) ∧ w = w' from by
    have h := Num.number_any v most w hv (by decide)
    rw [hN] at h
    exact h)
  clear hN
  cases has with
  | false =>
    have HT := Lib.hid (show told bare wrong v false = bare from rfl)
    rw [HT.out]
    go_enter Tryd.func68, Tryd.ntmps68
    go_wp2_with (go_at_call 42; refine HC.out.mono ?_; rintro e w2 ⟨rfl, rfl⟩)
    go_region_with (go_at_call 69; refine (leastP_any _ _ _).mono ?_; rintro e w2 ⟨rfl, rfl⟩)
    all_goals
      go_wp2_with fail
      go_end0
      exact ⟨rfl, rfl, rfl, rfl, rfl⟩
  | true =>
    cases ok with
    | false =>
      have HT := Lib.hid (show told bare wrong v true = wrong from by unfold told; rw [if_neg (by decide), if_pos HN2.out])
      rw [HT.out]
      go_enter Tryd.func68, Tryd.ntmps68
      go_wp2_with (go_at_call 42; refine HC.out.mono ?_; rintro e w2 ⟨rfl, rfl⟩)
      go_region_with (go_at_call 69; refine (leastP_any _ _ _).mono ?_; rintro e w2 ⟨rfl, rfl⟩)
      all_goals
        go_wp2_with fail
        go_end0
        exact ⟨rfl, rfl, rfl, rfl, rfl⟩
    | true =>
      have HT := Lib.hid (show told bare wrong v true = N from by unfold told; rw [if_neg (by decide), if_neg (by rw [HN2.out]; decide), HN1.out])
      rw [HT.out]
      go_enter Tryd.func68, Tryd.ntmps68
      go_wp2_with (go_at_call 42; refine HC.out.mono ?_; rintro e w2 ⟨rfl, rfl⟩)
      go_region_with (go_at_call 69; refine (leastP_any _ _ _).mono ?_; rintro e w2 ⟨rfl, rfl⟩)
      all_goals
        go_wp2_with fail
        go_end0
        exact ⟨rfl, rfl, rfl, rfl, rfl⟩

/-- What a directive is: it sets the flag of a cell, or tells a cell's number. -/
inductive Kind where
  | flag (i : Nat)
  | num (i : Nat) (bare wrong : Int)
/-- A directive's value: a closure, and what it has captured. -/
def DirOf (w : World) (g : Nat) : Kind → Value → Prop
  | .flag i, v => ∃ b, v = .agg #[.func (.func 67) #[] #[.pointer (some ⟨b, 0, none⟩)]] ∧ g < b ∧ Var w b (.pointer (some ⟨g, i, none⟩)) 110
  | .num i bare wrong, v => ∃ b0 b1 b2, v = .agg #[.func (.func 68) #[] #[.pointer (some ⟨b0, 0, none⟩), .pointer (some ⟨b1, 0, none⟩), .pointer (some ⟨b2, 0, none⟩)]] ∧ g < b0 ∧ g < b1 ∧ g < b2 ∧
      Var w b0 (.int .i64 bare) 3 ∧ Var w b1 (.int .i64 wrong) 3 ∧ Var w b2 (.pointer (some ⟨g, i, none⟩)) 112
theorem DirOf.same {w w' : World} {g : Nat} {k : Kind} {v : Value} (h : DirOf w g k v) (hb : ∀ b, g < b → b < w.heap.size → w'.heap[b]? = w.heap[b]?) : DirOf w' g k v := by
  cases k with
  | flag i =>
    obtain ⟨b, e, hg, hv⟩ := h
    exact ⟨b, e, hg, (hb b hg (block_lt hv)).trans hv⟩
  | num i bare wrong =>
    obtain ⟨b0, b1, b2, e, g0, g1, g2, v0, v1, v2⟩ := h
    exact ⟨b0, b1, b2, e, g0, g1, g2, (hb b0 g0 (block_lt v0)).trans v0, (hb b1 g1 (block_lt v1)).trans v1, (hb b2 g2 (block_lt v2)).trans v2⟩
theorem infoDir : (Tryd.prog.info? 93).map (·.size) = some 1 := by kernel_rfl

set_option maxHeartbeats 4000000 in
theorem flag_any (g i : Nat) (w : World) (hg : g < w.heap.size) : Calls Tryd.prog 57 #[.pointer (some ⟨g, i, none⟩)] w fun e w' => ∃ v, e = .returned v ∧ DirOf w' g (.flag i) v ∧ Below w.heap.size w w' := by
  go_enter Tryd.func57, Tryd.ntmps57
  go_wp2_with fail
  refine bodyPost_ret (results_one rfl _ _ (w.heap.size + 1) 93 _ (0, 0) _ rfl (new_block' _ _ (by simp)) Tryd.underlying93 rfl infoDir) rfl ?_
  refine ⟨_, rfl, ⟨w.heap.size, rfl, hg, ?_⟩, ((Below.refl _ _).alloc (Nat.le_refl _) _).alloc (by simp) _⟩
  exact (old_block _ _ (by simp)).trans (new_block _ _)
set_option maxHeartbeats 4000000 in
theorem number_any (g i : Nat) (bare wrong : Int) (w : World) (hg : g < w.heap.size) : Calls Tryd.prog 58 #[.pointer (some ⟨g, i, none⟩), .int .i64 bare, .int .i64 wrong] w fun e w' => ∃ v, e = .returned v ∧ DirOf w' g (.num i bare wrong) v ∧ Below w.heap.size w w' := by
  go_enter Tryd.func58, Tryd.ntmps58
  go_wp2_with fail
  refine bodyPost_ret (results_one rfl _ _ (w.heap.size + 3) 93 _ (0, 0) _ rfl (new_block' _ _ (by simp <;> omega)) Tryd.underlying93 rfl infoDir) rfl ?_
  refine ⟨_, rfl, ⟨w.heap.size + 1, w.heap.size + 2, w.heap.size, rfl, by omega, by omega, hg, ?_, ?_, ?_⟩, ((((Below.refl _ _).alloc (Nat.le_refl _) _).alloc (by simp <;> omega) _).alloc (by simp <;> omega) _).alloc (by simp <;> omega) _⟩
  · exact (old_block _ _ (by simp <;> omega)).trans ((old_block _ _ (by simp <;> omega)).trans (new_block' _ _ (by simp <;> omega)))
  · exact (old_block _ _ (by simp <;> omega)).trans (new_block' _ _ (by simp <;> omega))
  · exact (old_block _ _ (by simp <;> omega)).trans ((old_block _ _ (by simp <;> omega)).trans ((old_block _ _ (by simp <;> omega)).trans (new_block _ _)))
end Go.Proofs.YtjbdgndejbiikaaDoor.Ct
/-
  A map of directives: what a look-up in it tells, what a store leaves. No condition but what each states.
-/
namespace Go.Proofs.YtjbdgndejbiikaaDoor.Ct
open Go.RowKit Go.Proofs.YtjbdgndejbiikaaDoor.Tk Go.Proofs.YtjbdgndejbiikaaDoor.Fd Go.Proofs.YtjbdgndejbiikaaDoor.Hd Go.Maps
set_option maxRecDepth 100000
set_option linter.unusedVariables false

theorem keyed : Keyed Tryd.prog 9 := string_keyed Tryd.underlying9
/-- An element of the map, as it is. -/
def heldE (v : Value) : Option (DataW Value × List MemPlace) := some (.held v, [])
theorem zeroDir (w : World) : (zeroValue 93).run Tryd.prog w = .ok (.agg #[.nilFunc]) w := by kernel_rfl
theorem key_of {s : ByteArray} (h : s.size ≤ maxLen) : keyOf Tryd.prog 9 (.string s) = some (.string s.data.toList) := Go.WideMaps.keyOf_string_mk Tryd.underlying9 h
/-- What a map's reading has of a name. -/
def Has (W : World) (g : Nat) (D : DataW Value) (nm : Bs) : Option Kind → Prop
  | none => Maps.has D (.string nm) = false
  | some k => Maps.has D (.string nm) = true ∧ ∃ v, (∀ z, D.atKey (.string nm) z = .held v) ∧ DirOf W g k v
/-- Block M of W is a map of just these directives; of two of one name the first counts. -/
def Known (W : World) (g M : Nat) (l : List (Bs × Kind)) : Prop := ∃ (D : DataW Value) (n : Nat), W.ownsMap Tryd.prog 9 heldE M n D ∧ ∀ nm, Has W g D nm (l.lookup nm)
theorem DirOf.kept {w w' : World} {g : Nat} {k : Kind} {v : Value} (h : DirOf w g k v) (hb : ∀ b cs t fr, g < b → w.heap[b]? = some (.cells cs t fr) → w'.heap[b]? = w.heap[b]?) : DirOf w' g k v := by
  cases k with
  | flag i =>
    obtain ⟨b, e, hg, hv⟩ := h
    exact ⟨b, e, hg, (hb b _ _ _ hg hv).trans hv⟩
  | num i bare wrong =>
    obtain ⟨b0, b1, b2, e, g0, g1, g2, v0, v1, v2⟩ := h
    exact ⟨b0, b1, b2, e, g0, g1, g2, (hb b0 _ _ _ g0 v0).trans v0, (hb b1 _ _ _ g1 v1).trans v1, (hb b2 _ _ _ g2 v2).trans v2⟩
theorem Has.kept {w w' : World} {g : Nat} {D : DataW Value} {nm : Bs} {k : Option Kind} (h : Has w g D nm k) (hb : ∀ b cs t fr, g < b → w.heap[b]? = some (.cells cs t fr) → w'.heap[b]? = w.heap[b]?) : Has w' g D nm k := by
  cases k with
  | none => exact h
  | some k => obtain ⟨h1, v, h2, h3⟩ := h; exact ⟨h1, v, h2, h3.kept hb⟩
theorem Known.lt {W : World} {g M : Nat} {l : List (Bs × Kind)} (h : Known W g M l) : M < W.heap.size := by obtain ⟨D, n, h, _⟩ := h; exact World.ownsMap.lt h
/-- It hangs on the blocks behind g alone. -/
theorem Known.kept {W W' : World} {g M : Nat} {l : List (Bs × Kind)} (h : Known W g M l) (hM : g < M) (hb : ∀ b, g < b → b < W.heap.size → W'.heap[b]? = W.heap[b]?) : Known W' g M l := by
  obtain ⟨D, n, ⟨es, c, hg, r⟩, h2⟩ := h
  exact ⟨D, n, ⟨es, c, (hb M hM (block_lt hg)).trans hg, r⟩, fun nm => (h2 nm).kept fun b cs t fr hgb hc => hb b hgb (block_lt hc)⟩
theorem Known.more {W W' : World} {g M : Nat} {l : List (Bs × Kind)} (h : Known W g M l) (hM : g < M) (hb : Below W.heap.size W W') : Known W' g M l := h.kept hM fun b _ hl => hb.block b hl
theorem Known.put {W W' : World} {g M i : Nat} {v : Value} {l : List (Bs × Kind)} (h : Known W g M l) (hM : g < M) (hp : PutAt W W' ⟨g, i, none⟩ v) : Known W' g M l := h.kept hM fun b hb _ => hp.far (by show b ≠ g; omega)
theorem Known.look {W : World} {g M : Nat} {l : List (Bs × Kind)} (h : Known W g M l) (s : ByteArray) (hs : s.size ≤ maxLen) :
    match l.lookup s.data.toList with
    | none => (Instr.lookup 86 (.map (some M)) (.string s) true).run Tryd.prog W = .ok (.tuple #[.agg #[.nilFunc], .bool false]) W
    | some k => ∃ v, (Instr.lookup 86 (.map (some M)) (.string s) true).run Tryd.prog W = .ok (.tuple #[v, .bool true]) W ∧ DirOf W g k v := by
  obtain ⟨D, n, hD, h2⟩ := h
  obtain ⟨v, ps, hrun, hv⟩ := World.ownsMap.look_ok hD keyed Tryd.underlying86 (zeroDir W) (zd := .held (.agg #[.nilFunc])) (zp := []) rfl (key_of hs)
  have h3 := h2 s.data.toList
  cases hl : l.lookup s.data.toList with
  | none =>
    rw [hl] at h3
    have h4 : Maps.has D (.string s.data.toList) = false := h3
    rw [Maps.atKey_of_not_has h4] at hv
    injection hv with hv; injection hv with hv _; injection hv with hv
    rw [hrun, h4, hv]
  | some k =>
    rw [hl] at h3
    obtain ⟨h4, v', h5, h6⟩ := h3
    rw [h5] at hv
    injection hv with hv; injection hv with hv _; injection hv with hv
    exact ⟨v', by rw [hrun, h4, hv], h6⟩
/-- A store, of what it leaves of each name. -/
theorem has_store {W : World} {g M n : Nat} {D : DataW Value} (hD : W.ownsMap Tryd.prog 9 heldE M n D) (s : ByteArray) (hs : s.size ≤ maxLen) (hn : n < maxLen) (k : Kind) (v : Value) (hd : DirOf W g k v) :
    ∃ W', (Instr.mapUpdate 86 (.map (some M)) (.string s) v).run Tryd.prog W = .ok () W' ∧ W'.ownsMap Tryd.prog 9 heldE M (n + 1) (D.put (.string s.data.toList) (.held v)) ∧ Below M W W' ∧
      (∀ b cs t fr, g < b → W.heap[b]? = some (.cells cs t fr) → W'.heap[b]? = W.heap[b]?) ∧ Has W' g (D.put (.string s.data.toList) (.held v)) s.data.toList (some k) ∧
      ∀ nm o, nm ≠ s.data.toList → Has W g D nm o → Has W' g (D.put (.string s.data.toList) (.held v)) nm o := by
  obtain ⟨W', hrun, ho, ht⟩ := World.ownsMap.store hD keyed Tryd.underlying86 hn (key_of hs) (val := v) (d := .held v) (ps := []) rfl
  have hg := ht.grown
  have hmap : ∃ es c, W.heap[M]? = some (.map es c) := by obtain ⟨es, c, _, _, h, _⟩ := ht; exact ⟨es, c, h⟩
  have hk : ∀ b cs t fr, g < b → W.heap[b]? = some (.cells cs t fr) → W'.heap[b]? = W.heap[b]? := by
    intro b cs t fr _ hb
    refine hg.block b (block_lt hb) ?_
    intro e
    injection e with e
    subst e
    obtain ⟨es, c, h3⟩ := hmap
    rw [hb] at h3
    injection h3 with h3
    cases h3
  have hK : WideAt.IsKeyLit (Lit.string s.data.toList) := trivial
  refine ⟨W', hrun, ho, ⟨hg.os, hg.tape, hg.output, hg.size, fun b hb => hg.block b (by have := World.ownsMap.lt hD; omega) (by intro e; injection e with e; omega)⟩, hk, ⟨Maps.has_put_same hD.isMap hK _, v, fun z => Maps.atKey_put_same hD.isMap hK _ z, hd.kept hk⟩, ?_⟩
  intro nm o h4 h
  have h5 : (Lit.string nm) ≠ .string s.data.toList := fun e => h4 (by injection e)
  have h6 := h.kept hk
  cases o with
  | none => exact (Maps.has_put_other h5 _).trans h6
  | some k' =>
    obtain ⟨h7, v', h8, h9⟩ := h6
    exact ⟨(Maps.has_put_other h5 _).trans h7, v', fun z => (Maps.atKey_put_other h5 _ z).trans (h8 z), h9⟩
end Go.Proofs.YtjbdgndejbiikaaDoor.Ct
/-
  A region that draws its order, by what holds whatever has come up. No condition.
-/
namespace Go.Proofs.YtjbdgndejbiikaaDoor.Rg
open Go.RowKit
set_option linter.unusedVariables false

section
variable {P : Program} {ops : Array Oper} {Q : Exit → Act → World → Prop} {md : Region.Mode}

theorem count_drop {listed : Array Bool} {n i : Nat} (hi : i < n) (h : listed.getD i true = false) (f : Nat) (hc : (List.range n).countP (fun j => !listed.getD j true) ≤ f + 1) :
    (List.range n).countP (fun j => !(listed.setIfInBounds i true).getD j true) ≤ f := by
  have hlt : i < listed.size := by
    rcases Nat.lt_or_ge i listed.size with h' | h'
    · exact h'
    · simp [Array.getElem?_eq_none h'] at h
  have h1 : ∀ l : List Nat, l.countP (fun j => !(listed.setIfInBounds i true).getD j true) + (if i ∈ l then 1 else 0) ≤ l.countP (fun j => !listed.getD j true) := by
    intro l
    induction l with
    | nil => simp
    | cons x r ih =>
      rw [List.countP_cons, List.countP_cons]
      by_cases hx : x = i
      · subst hx
        have e1 : (listed.setIfInBounds x true).getD x true = true := by simp [hlt]
        rw [e1, h]
        simp only [List.mem_cons, true_or, if_true, Bool.not_true, Bool.not_false, Bool.false_eq_true, if_false]
        split at ih <;> omega
      · have e1 : (listed.setIfInBounds i true).getD x true = listed.getD x true := getD_set_ne true (Ne.symm hx)
        rw [e1]
        have e2 : (i ∈ x :: r) ↔ i ∈ r := by simp [Ne.symm hx]
        simp only [e2]
        omega
  have h2 := h1 (List.range n)
  rw [if_pos (List.mem_range.2 hi)] at h2
  omega
/-- What holds ahead of an operation holds behind it, whichever may come up; so it holds at the end. The number tells how many have still to come. -/
theorem any_inv {I : Nat → Array Bool → Act → World → Prop}
    (hstep : ∀ f listed a w i, I (f + 1) listed a w → i ∈ Region.ready md ops listed → wpOp P ops Q i (fun a' w' => I f (listed.setIfInBounds i true) a' w') a w)
    (hdone : ∀ f listed a w, I f listed a w → Region.ready md ops listed = [] → Q .normal a w) :
    ∀ fuel listed a w, (List.range ops.size).countP (fun j => !listed.getD j true) ≤ fuel → I fuel listed a w → wpAny P md ops Q fuel listed a w
  | 0, listed, a, w, hc, h => by
    have hr : Region.ready md ops listed = [] := by
      cases hr : Region.ready md ops listed with
      | nil => rfl
      | cons i r =>
        have hi : i ∈ Region.ready md ops listed := by rw [hr]; simp
        obtain ⟨h0, o, ho, _⟩ := mem_ready.1 hi
        have hlt := (Array.getElem?_eq_some_iff.1 ho).1
        have : 0 < (List.range ops.size).countP (fun j => !listed.getD j true) := List.countP_pos_iff.2 ⟨i, List.mem_range.2 hlt, by rw [h0]; rfl⟩
        omega
    exact ⟨hr, hdone _ _ _ _ h hr⟩
  | fuel + 1, listed, a, w, hc, h => by
    refine ⟨fun hr => hdone _ _ _ _ h hr, fun i hi => ?_⟩
    obtain ⟨h0, o, ho, _⟩ := mem_ready.1 hi
    have hlt := (Array.getElem?_eq_some_iff.1 ho).1
    exact wpOp_mono (fun a' w' h' => any_inv hstep hdone fuel _ a' w' (count_drop hlt h0 fuel hc) h') (hstep _ _ _ _ _ h hi)
/-- Where no more may come up, and each waits for earlier ones alone, all have come up. -/
theorem all_listed {listed : Array Bool} (hfwd : ∀ (i : Nat) (o : Oper), ops[i]? = some o → ∀ e ∈ o.after, e.on < i) (hsz : listed.size = ops.size) (hr : Region.ready md ops listed = []) : ∀ i, i < ops.size → listed.getD i false = true := by
  intro i
  induction i using Nat.strongRecOn with
  | ind i ih =>
    intro hi
    cases hl : listed.getD i false with
    | true => rfl
    | false =>
      exfalso
      have h1 : listed.getD i true = false := by
        have hlt : i < listed.size := by omega
        simp [hlt] at hl ⊢
        exact hl
      have h2 : i ∈ Region.ready md ops listed := mem_ready.2 ⟨h1, ops[i], Array.getElem?_eq_getElem hi, fun e he _ => ih e.on (hfwd i ops[i] (Array.getElem?_eq_getElem hi) e he) (by have := hfwd i ops[i] (Array.getElem?_eq_getElem hi) e he; omega)⟩
      rw [hr] at h2
      cases h2
theorem all_unlisted (n : Nat) : (List.range n).countP (fun j => !(Array.replicate n false).getD j true) ≤ n := by
  have := List.countP_le_length (p := fun j => !(Array.replicate n false).getD j true) (l := List.range n)
  simpa using this

/-- An operation that leaves a value. -/
theorem op_value {i : Nat} {o : Oper} {a : Act} {w w' : World} {v : Value} {K : Act → World → Prop} (hi : ops[i]? = some o) (hg : o.guard = none) (hrun : (execOp a.eval o).run P w = .ok (.value v) w') (hK : K (a.put o.dst v) w') : wpOp P ops Q i K a w := by
  unfold wpOp
  simp only [hi, Region.wanted, hg, if_true]
  refine .inl ?_
  unfold Oper.wp
  rw [hrun]
  exact hK
theorem op_skip {i : Nat} {o : Oper} {a : Act} {w w' : World} {K : Act → World → Prop} (hi : ops[i]? = some o) (hg : o.guard = none) (hrun : (execOp a.eval o).run P w = .ok .skip w') (hK : K (a.put o.dst undef) w') : wpOp P ops Q i K a w := by
  unfold wpOp
  simp only [hi, Region.wanted, hg, if_true]
  refine .inl ?_
  unfold Oper.wp
  rw [hrun]
  exact hK
theorem op_call {i : Nat} {o : Oper} {a : Act} {w : World} {f : FuncId} {args : Array Value} {R : Ending → World → Prop} {K : Act → World → Prop} (hi : ops[i]? = some o) (hg : o.guard = none) (hrun : (execOp a.eval o).run P w = .ok (.enter f args) w)
    (hc : Calls P f args w R) (hK : ∀ e w', R e w' → ∃ v, e = .returned v ∧ K (a.put o.dst v) w') : wpOp P ops Q i K a w := by
  unfold wpOp
  simp only [hi, Region.wanted, hg, if_true]
  refine .inl ?_
  unfold Oper.wp
  rw [hrun]
  show Calls P f args w _
  refine hc.mono fun e w' he => ?_
  obtain ⟨v, rfl, h⟩ := hK e w' he
  exact h
theorem put_same (a : Act) (d : Nat) (v : Value) (h : d < a.tmps.size) : (a.put (some d) v).tmps.getD d undef = v := by simp [Act.put, h]
theorem put_other (a : Act) {d e : Nat} (v : Value) (h : e ≠ d) : (a.put (some d) v).tmps.getD e undef = a.tmps.getD e undef := by simp [Act.put, Array.getElem?_setIfInBounds_ne (Ne.symm h)]
theorem put_size (a : Act) (d : Nat) (v : Value) : (a.put (some d) v).tmps.size = a.tmps.size := by simp [Act.put]
theorem set_old {listed : Array Bool} {i j : Nat} (h : (listed.setIfInBounds i true).getD j false = true) (hne : j ≠ i) : listed.getD j false = true := by rwa [getD_set_ne false (Ne.symm hne)] at h
end
end Go.Proofs.YtjbdgndejbiikaaDoor.Rg
