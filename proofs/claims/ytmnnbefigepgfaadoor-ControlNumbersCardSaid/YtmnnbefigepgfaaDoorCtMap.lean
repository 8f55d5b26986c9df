/-
  A map of directives: what a look-up in it tells, what a store leaves. No condition but what each states.
-/
import Derived.Test.YtmnnbefigepgfaaDoorCtClos
import Derived.Maps.OwnSet
import Derived.StringKeys
namespace Go.Proofs.YtmnnbefigepgfaaDoor.Ct
open Go.RowKit Go.Proofs.YtmnnbefigepgfaaDoor.Tk Go.Proofs.YtmnnbefigepgfaaDoor.Fd Go.Proofs.YtmnnbefigepgfaaDoor.Hd Go.Maps
set_option linter.unusedVariables false

theorem keyed : Keyed Tryd.prog 9 := string_keyed Tryd.underlying9
/-- An element of the map, as it is. -/
def heldE (v : Value) : Option (DataW Value × List MemPlace) := some (.held v, [])
theorem zeroDir (w : World) : (zeroValue 47).run Tryd.prog w = .ok (.agg #[.nilFunc]) w := by kernel_rfl
theorem key_of {s : ByteArray} (h : s.size ≤ maxLen) : keyOf Tryd.prog 9 (.string s) = some (.string s.data.toList) := Go.WideMaps.keyOf_string_mk Tryd.underlying9 h
/-- What a map's reading has of a name. -/
def Has (W : World) (g : Nat) (D : DataW Value) (nm : Bs) : Option Kind → Prop
  | none => Maps.has D (.string nm) = false
  | some k => Maps.has D (.string nm) = true ∧ ∃ v, (∀ z, D.atKey (.string nm) z = .held v) ∧ DirOf W g k v
/-- Block M of W is a map of just these directives; of two of one name the first counts. -/
def Known (W : World) (g M : Nat) (l : List (Bs × Kind)) : Prop := ∃ (D : DataW Value) (n : Nat), W.ownsMap Tryd.prog 9 heldE M n D ∧ ∀ nm, Has W g D nm (l.lookup nm)
theorem DirOf.kept {w w' : World} {g : Nat} {k : Kind} {v : Value} (h : DirOf w g k v) (hb : ∀ b cs t fr, g < b → w.heap[b]? = some (.cells cs t fr) → w'.heap[b]? = w.heap[b]?) : DirOf w' g k v := by
  cases k with
  | flag i =>
    obtain ⟨b, e, hg, hv⟩ := h
    exact ⟨b, e, hg, (hb b _ _ _ hg hv).trans hv⟩
  | num i bare wrong =>
    obtain ⟨b0, b1, b2, e, g0, g1, g2, v0, v1, v2⟩ := h
    exact ⟨b0, b1, b2, e, g0, g1, g2, (hb b0 _ _ _ g0 v0).trans v0, (hb b1 _ _ _ g1 v1).trans v1, (hb b2 _ _ _ g2 v2).trans v2⟩
theorem Has.kept {w w' : World} {g : Nat} {D : DataW Value} {nm : Bs} {k : Option Kind} (h : Has w g D nm k) (hb : ∀ b cs t fr, g < b → w.heap[b]? = some (.cells cs t fr) → w'.heap[b]? = w.heap[b]?) : Has w' g D nm k := by
  cases k with
  | none => exact h
  | some k => obtain ⟨h1, v, h2, h3⟩ := h; exact ⟨h1, v, h2, h3.kept hb⟩
theorem Known.lt {W : World} {g M : Nat} {l : List (Bs × Kind)} (h : Known W g M l) : M < W.heap.size := by obtain ⟨D, n, h, _⟩ := h; exact World.ownsMap.lt h
/-- It hangs on the blocks behind g alone. -/
theorem Known.kept {W W' : World} {g M : Nat} {l : List (Bs × Kind)} (h : Known W g M l) (hM : g < M) (hb : ∀ b, g < b → b < W.heap.size → W'.heap[b]? = W.heap[b]?) : Known W' g M l := by
  obtain ⟨D, n, ⟨es, c, hg, r⟩, h2⟩ := h
  exact ⟨D, n, ⟨es, c, (hb M hM (block_lt hg)).trans hg, r⟩, fun nm => (h2 nm).kept fun b cs t fr hgb hc => hb b hgb (block_lt hc)⟩
theorem Known.more {W W' : World} {g M : Nat} {l : List (Bs × Kind)} (h : Known W g M l) (hM : g < M) (hb : Below W.heap.size W W') : Known W' g M l := h.kept hM fun b _ hl => hb.block b hl
theorem Known.put {W W' : World} {g M i : Nat} {v : Value} {l : List (Bs × Kind)} (h : Known W g M l) (hM : g < M) (hp : PutAt W W' ⟨g, i, none⟩ v) : Known W' g M l := h.kept hM fun b hb _ => hp.far (by show b ≠ g; omega)
theorem Known.look {W : World} {g M : Nat} {l : List (Bs × Kind)} (h : Known W g M l) (s : ByteArray) (hs : s.size ≤ maxLen) :
    match l.lookup s.data.toList with
    | none => (Instr.lookup 40 (.map (some M)) (.string s) true).run Tryd.prog W = .ok (.tuple #[.agg #[.nilFunc], .bool false]) W
    | some k => ∃ v, (Instr.lookup 40 (.map (some M)) (.string s) true).run Tryd.prog W = .ok (.tuple #[v, .bool true]) W ∧ DirOf W g k v := by
  obtain ⟨D, n, hD, h2⟩ := h
  obtain ⟨v, ps, hrun, hv⟩ := World.ownsMap.look_ok hD keyed Tryd.underlying40 (zeroDir W) (zd := .held (.agg #[.nilFunc])) (zp := []) rfl (key_of hs)
  have h3 := h2 s.data.toList
  cases hl : l.lookup s.data.toList with
  | none =>
    rw [hl] at h3
    have h4 : Maps.has D (.string s.data.toList) = false := h3
    rw [Maps.atKey_of_not_has h4] at hv
    injection hv with hv; injection hv with hv _; injection hv with hv
    rw [hrun, h4, hv]
  | some k =>
    rw [hl] at h3
    obtain ⟨h4, v', h5, h6⟩ := h3
    rw [h5] at hv
    injection hv with hv; injection hv with hv _; injection hv with hv
    exact ⟨v', by rw [hrun, h4, hv], h6⟩
/-- A store, of what it leaves of each name. -/
theorem has_store {W : World} {g M n : Nat} {D : DataW Value} (hD : W.ownsMap Tryd.prog 9 heldE M n D) (s : ByteArray) (hs : s.size ≤ maxLen) (hn : n < maxLen) (k : Kind) (v : Value) (hd : DirOf W g k v) :
    ∃ W', (Instr.mapUpdate 40 (.map (some M)) (.string s) v).run Tryd.prog W = .ok () W' ∧ W'.ownsMap Tryd.prog 9 heldE M (n + 1) (D.put (.string s.data.toList) (.held v)) ∧ Below M W W' ∧
      (∀ b cs t fr, g < b → W.heap[b]? = some (.cells cs t fr) → W'.heap[b]? = W.heap[b]?) ∧ Has W' g (D.put (.string s.data.toList) (.held v)) s.data.toList (some k) ∧
      ∀ nm o, nm ≠ s.data.toList → Has W g D nm o → Has W' g (D.put (.string s.data.toList) (.held v)) nm o := by
  obtain ⟨W', hrun, ho, ht⟩ := World.ownsMap.store hD keyed Tryd.underlying40 hn (key_of hs) (val := v) (d := .held v) (ps := []) rfl
  have hg := ht.grown
  have hmap : ∃ es c, W.heap[M]? = some (.map es c) := by obtain ⟨es, c, _, _, h, _⟩ := ht; exact ⟨es, c, h⟩
  have hk : ∀ b cs t fr, g < b → W.heap[b]? = some (.cells cs t fr) → W'.heap[b]? = W.heap[b]? := by
    intro b cs t fr _ hb
    refine hg.block b (block_lt hb) ?_
    intro e
    injection e with e
    subst e
    obtain ⟨es, c, h3⟩ := hmap
    rw [hb] at h3
    injection h3 with h3
    cases h3
  have hK : WideAt.IsKeyLit (Lit.string s.data.toList) := trivial
  refine ⟨W', hrun, ho, ⟨hg.os, hg.tape, hg.output, hg.size, fun b hb => hg.block b (by have := World.ownsMap.lt hD; omega) (by intro e; injection e with e; omega)⟩, hk, ⟨Maps.has_put_same hD.isMap hK _, v, fun z => Maps.atKey_put_same hD.isMap hK _ z, hd.kept hk⟩, ?_⟩
  intro nm o h4 h
  have h5 : (Lit.string nm) ≠ .string s.data.toList := fun e => h4 (by injection e)
  have h6 := h.kept hk
  cases o with
  | none => exact (Maps.has_put_other h5 _).trans h6
  | some k' =>
    obtain ⟨h7, v', h8, h9⟩ := h6
    exact ⟨(Maps.has_put_other h5 _).trans h7, v', fun z => (Maps.atKey_put_other h5 _ z).trans (h8 z), h9⟩
end Go.Proofs.YtmnnbefigepgfaaDoor.Ct
