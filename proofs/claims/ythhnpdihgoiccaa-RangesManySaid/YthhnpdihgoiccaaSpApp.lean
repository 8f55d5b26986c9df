/-
  An append of spans to spans of the call's own. Condition: at most 2^43 spans in all.
-/
import Derived.Test.YthhnpdihgoiccaaSpBase
import Derived.Deep.AppendSrc
import Derived.Maps.AppendAt
namespace Go.Proofs.Ythhnpdihgoiccaa.Sn
open Go.RowKit Go.Proofs.Ythhnpdihgoiccaa.Fd
set_option linter.unusedVariables false

theorem info_parts {e : TypeId} {z : Value} {n b : Nat} (h : (Try.prog.info? e).map (fun i => (i.zero, i.size, i.bytes)) = some (some z, n, b)) : ∃ i, Try.prog.info? e = some i ∧ i.zero = some z ∧ i.size = n ∧ i.bytes = b := by
  cases hi : Try.prog.info? e with
  | none => rw [hi] at h; simp at h
  | some i =>
    rw [hi] at h
    simp at h
    exact ⟨i, rfl, h.1, h.2.1, h.2.2⟩
theorem grown_refl (w : World) (row : Option Nat) : w.grownBy w row := ⟨rfl, rfl, rfl, Nat.le_refl _, fun _ _ _ => rfl⟩
theorem run_append_none {P : Program} (w : World) (t tx ty e : TypeId) (i : TypeInfo) (ht : P.underlying t = some (.slice e)) (hi : P.info? e = some i) (x : Value) (hs : Src P i.size tx x 0 [] w) :
    (Builtin.append_ #[t, tx] ty #[.slice none 0 0, x]).run P w = .ok (.slice none 0 0) w := by
  rcases hs.kind with ⟨e', hk⟩ | hk <;> simp [Builtin.append_, run_underlying ht, run_underlying hk, Go.sizeOf, typeInfo, hi, hs.len, hs.cells]
set_option maxRecDepth 100000 in
theorem run_append_spans (w : World) (ty : TypeId) (base : Nat) (v x : Value) (l m : List Sp) (hb : base ≤ w.heap.size) (h : OwnS w base v l) (hx : Spans w x m) (hl : l.length + m.length ≤ 8796093022208) :
    ∃ v' w', (Builtin.append_ #[53, 53] ty #[v, x]).run Try.prog w = .ok v' w' ∧ OwnS w' base v' (l ++ m) ∧ w.grownBy w' v.ownBlock ∧ (v'.ownBlock = v.ownBlock ∨ v'.ownBlock = some w.heap.size) := by
  obtain ⟨i0, hi, hz0, hz1, hz2⟩ := info_parts infoSpan
  by_cases hm : m = []
  · subst hm
    obtain ⟨xa, xc, rfl⟩ := hx.shape
    have hs : Src Try.prog i0.size 53 (.slice xa ([] : List Sp).length xc) 0 [] w := by
      rw [hz1]
      cases xa with
      | none => exact Src.ofNil w Try.underlying53 xc
      | some a => exact Src.ofSlice w Try.underlying53 a 0 xc [] rfl (fun j u hj => by simp at hj) (fun u hu => by simp at hu)
    refine ⟨v, w, ?_, by rw [List.append_nil]; exact h, grown_refl _ _, .inl rfl⟩
    rcases h.2 with ⟨rfl, _⟩ | ⟨g, cap, cur, rfl, _, _, hc, _⟩
    · exact run_append_none w _ _ _ 31 i0 Try.underlying53 hi _ hs
    · have hr := run_append_room_src (P := Try.prog) w 53 53 ty 31 i0 Try.underlying53 hi g 0 l.length cap _ 0 [] hs (by omega) (fun j hj => by simp at hj) (fun j hj => by simp at hj)
      exact hr
  · rcases hx with ⟨rfl, _⟩ | ⟨b, off, cap, rfl, _, _, _, hs⟩
    · exact absurd rfl hm
    · obtain ⟨v', w', h1, h2, h3, _, h5⟩ := run_append_own_at (P := Try.prog) w base 53 ty 31 i0 (.agg #[.int .i64 0, .int .i64 0]) 2 16 Try.underlying53 hi hz0 hz1 hz2 rfl (by decide) v l.length (flat l) h ⟨b, off, none⟩ m.length cap (flat m) (flat_length m) hs.news (flat_cells m) (by unfold maxLen; omega) (by omega) hb
      exact ⟨v', w', h1, by unfold OwnS; rw [flat_append, List.length_append]; exact h2, h3, h5⟩
def AppS (base : Nat) (v : Value) (l m : List Sp) (w : World) (v' : Value) (w' : World) : Prop := OwnS w' base v' (l ++ m) ∧ w.grownBy w' v.ownBlock ∧ (v'.ownBlock = v.ownBlock ∨ v'.ownBlock = some w.heap.size)
theorem wpList_append_spans (w : World) {ops : Array Oper} {rest : List Oper} {o : Oper} {a : Act} {Q : Exit → Act → World → Prop} (hg : o.guard = none) (s x : Operand)
    (hop : o.op = Op.call { callee := Callee.builtin Builtin.append, args := #[s, x], argTypes := #[53, 53] }) (base : Nat) (v y : Value) (l m : List Sp) (hs : a.eval s = v) (hy : a.eval x = y) (hb : base ≤ w.heap.size) (h : OwnS w base v l)
    (hx : Spans w y m) (hl : l.length + m.length ≤ 8796093022208)
    (hK : ∀ v' w', AppS base v l m w v' w' → wpList Try.prog ops Q rest (a.put o.dst v') w') : wpList Try.prog ops Q (o :: rest) a w := by
  refine wpList_plain hg fun K hK' => ?_
  obtain ⟨v', w', hrun, hp⟩ := run_append_spans w o.type base v y l m hb h hx hl
  unfold Oper.wp
  simp [execOp, hop, resolve, invoke, builtin, hs, hy, hrun, Result.andThen]
  exact hK' _ _ (hK v' w' hp)
theorem OwnS.spans {w : World} {base : Nat} {v : Value} {l : List Sp} (h : OwnS w base v l) : Spans w v l := by
  rcases h.2 with ⟨rfl, h0⟩ | ⟨g, cap, cur, rfl, _, hh, hc, hm, _⟩
  · exact .inl ⟨List.length_eq_zero_iff.1 h0, _, _, rfl⟩
  · exact SAt.spans (OwnS.at h) rfl hc (by unfold maxLen at hm; exact hm) (block_lt hh)
theorem OwnS.form {w : World} {base : Nat} {v : Value} {l : List Sp} (h : OwnS w base v l) : ∃ a cap, v = .slice a l.length cap := h.spans.shape
theorem OwnS.mono {w : World} {base base' : Nat} {v : Value} {l : List Sp} (h : OwnS w base v l) (hb : base' ≤ base) : OwnS w base' v l := owns_mono h hb
end Go.Proofs.Ythhnpdihgoiccaa.Sn
