/-
  An append of ranges (the reference's) to ranges of the call's own. Condition: at most 2^43 in all.
-/
import Derived.Test.YthhnpdihgoiccaaSpApp
namespace Go.Proofs.Ythhnpdihgoiccaa.Rw
open Go.RowKit Go.Proofs.Ythhnpdihgoiccaa.Fd
open Go.Proofs.Ythhnpdihgoiccaa.Sn (Sp SV SAt Spans flat flat_append flat_length flat_snoc flat_at flat_cells info_parts grown_refl run_append_none owns_kept owns_mono cellsInt SAt.spans SAt.news)
set_option linter.unusedVariables false

theorem infoRef : (Try.prog.info? 30).map (fun i => (i.zero, i.size, i.bytes)) = some (some (.agg #[.int .i64 0, .int .i64 0]), 2, 16) := by kernel_rfl
def OwnS (w : World) (base : Nat) (v : Value) (l : List Sp) : Prop := w.ownsRow base 30 2 v l.length (flat l)
theorem OwnS.nil (w : World) (base : Nat) : OwnS w base (.slice none 0 0) [] := World.ownsRow_nil _ _ _ _
theorem OwnS.kept {w w' : World} {base : Nat} {v : Value} {l : List Sp} (h : OwnS w base v l) (hb : Below w.heap.size w w') : OwnS w' base v l := owns_kept h hb
theorem OwnS.row {w : World} {base : Nat} {v : Value} {l : List Sp} (h : OwnS w base v l) : ∀ k, v.ownBlock = some k → base ≤ k := fun k hk => (World.ownsRow.lt h k hk).1
theorem OwnS.at {w : World} {base g n cap : Nat} {l : List Sp} (h : OwnS w base (.slice (some ⟨g, 0, none⟩) n cap) l) : SAt w g 0 l := by
  have hn : n = l.length := by
    rcases h.2 with ⟨hv, _⟩ | ⟨g', cap', cur, hv, _⟩ <;> cases hv
    rfl
  subst hn
  intro j hj
  obtain ⟨a, b⟩ := flat_at l j hj
  rw [Nat.zero_add, World.ownsRow.cellAt h (j * 2) (by omega), World.ownsRow.cellAt h (j * 2 + 1) (by omega), a, b]
  exact ⟨rfl, rfl⟩
set_option maxRecDepth 100000 in
theorem run_append_spans (w : World) (ty : TypeId) (base : Nat) (v x : Value) (l m : List Sp) (hb : base ≤ w.heap.size) (h : OwnS w base v l) (hx : Spans w x m) (hl : l.length + m.length ≤ 8796093022208) :
    ∃ v' w', (Builtin.append_ #[27, 27] ty #[v, x]).run Try.prog w = .ok v' w' ∧ OwnS w' base v' (l ++ m) ∧ w.grownBy w' v.ownBlock ∧ (v'.ownBlock = v.ownBlock ∨ v'.ownBlock = some w.heap.size) := by
  obtain ⟨i0, hi, hz0, hz1, hz2⟩ := info_parts infoRef
  by_cases hm : m = []
  · subst hm
    obtain ⟨xa, xc, rfl⟩ := hx.shape
    have hs : Src Try.prog i0.size 27 (.slice xa ([] : List Sp).length xc) 0 [] w := by
      rw [hz1]
      cases xa with
      | none => exact Src.ofNil w Try.underlying27 xc
      | some a => exact Src.ofSlice w Try.underlying27 a 0 xc [] rfl (fun j u hj => by simp at hj) (fun u hu => by simp at hu)
    refine ⟨v, w, ?_, by rw [List.append_nil]; exact h, grown_refl _ _, .inl rfl⟩
    rcases h.2 with ⟨rfl, _⟩ | ⟨g, cap, cur, rfl, _, _, hc, _⟩
    · exact run_append_none w _ _ _ 30 i0 Try.underlying27 hi _ hs
    · have hr := run_append_room_src (P := Try.prog) w 27 27 ty 30 i0 Try.underlying27 hi g 0 l.length cap _ 0 [] hs (by omega) (fun j hj => by simp at hj) (fun j hj => by simp at hj)
      exact hr
  · rcases hx with ⟨rfl, _⟩ | ⟨b, off, cap, rfl, _, _, _, hs⟩
    · exact absurd rfl hm
    · obtain ⟨v', w', h1, h2, h3, _, h5⟩ := run_append_own_at (P := Try.prog) w base 27 ty 30 i0 (.agg #[.int .i64 0, .int .i64 0]) 2 16 Try.underlying27 hi hz0 hz1 hz2 rfl (by decide) v l.length (flat l) h ⟨b, off, none⟩ m.length cap (flat m) (flat_length m) hs.news (flat_cells m) (by unfold maxLen; omega) (by omega) hb
      exact ⟨v', w', h1, by unfold OwnS; rw [flat_append, List.length_append]; exact h2, h3, h5⟩
def AppS (base : Nat) (v : Value) (l m : List Sp) (w : World) (v' : Value) (w' : World) : Prop := OwnS w' base v' (l ++ m) ∧ w.grownBy w' v.ownBlock ∧ (v'.ownBlock = v.ownBlock ∨ v'.ownBlock = some w.heap.size)
theorem wpList_append_spans (w : World) {ops : Array Oper} {rest : List Oper} {o : Oper} {a : Act} {Q : Exit → Act → World → Prop} (hg : o.guard = none) (s x : Operand)
    (hop : o.op = Op.call { callee := Callee.builtin Builtin.append, args := #[s, x], argTypes := #[27, 27] }) (base : Nat) (v y : Value) (l m : List Sp) (hs : a.eval s = v) (hy : a.eval x = y) (hb : base ≤ w.heap.size) (h : OwnS w base v l)
    (hx : Spans w y m) (hl : l.length + m.length ≤ 8796093022208)
    (hK : ∀ v' w', AppS base v l m w v' w' → wpList Try.prog ops Q rest (a.put o.dst v') w') : wpList Try.prog ops Q (o :: rest) a w := by
  refine wpList_plain hg fun K hK' => ?_
  obtain ⟨v', w', hrun, hp⟩ := run_append_spans w o.type base v y l m hb h hx hl
  unfold Oper.wp
  simp [execOp, hop, resolve, invoke, builtin, hs, hy, hrun, Result.andThen]
  exact hK' _ _ (hK v' w' hp)
theorem OwnS.spans {w : World} {base : Nat} {v : Value} {l : List Sp} (h : OwnS w base v l) : Spans w v l := by
  rcases h.2 with ⟨rfl, h0⟩ | ⟨g, cap, cur, rfl, _, hh, hc, hm, _⟩
  · exact .inl ⟨List.length_eq_zero_iff.1 h0, _, _, rfl⟩
  · exact SAt.spans (OwnS.at h) rfl hc (by unfold maxLen at hm; exact hm) (block_lt hh)
theorem OwnS.form {w : World} {base : Nat} {v : Value} {l : List Sp} (h : OwnS w base v l) : ∃ a cap, v = .slice a l.length cap := h.spans.shape
theorem OwnS.mono {w : World} {base base' : Nat} {v : Value} {l : List Sp} (h : OwnS w base v l) (hb : base' ≤ base) : OwnS w base' v l := owns_mono h hb
end Go.Proofs.Ythhnpdihgoiccaa.Rw
