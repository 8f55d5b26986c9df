/-
  Lists of fields that calls made: rows of cells of their own. No condition.
-/
import Derived.Test.YtcnipjmeillfeaaDoorFdFlds
namespace Go.Proofs.YtcnipjmeillfeaaDoor.Fd
open Go.RowKit Tk
set_option linter.unusedVariables false

/-- Fields as cells. -/
def flat (fs : List Fl) : List Value := fs.flatMap fun f => [.string f.1, .string f.2]
theorem flat_snoc (fs : List Fl) (f : Fl) : flat (fs ++ [f]) = flat fs ++ [.string f.1, .string f.2] := by simp [flat]
theorem flat_length (fs : List Fl) : (flat fs).length = fs.length * 2 := by
  induction fs with
  | nil => rfl
  | cons f r ih => simp only [flat, List.flatMap_cons, List.length_append, List.length_cons, List.length_nil] at ih ⊢; omega
theorem flat_at (fs : List Fl) (j : Nat) (h : j < fs.length) : (flat fs)[j * 2]? = some (.string fs[j].1) ∧ (flat fs)[j * 2 + 1]? = some (.string fs[j].2) := by
  induction fs generalizing j with
  | nil => simp at h
  | cons f r ih =>
    cases j with
    | zero => exact ⟨rfl, rfl⟩
    | succ j =>
      have h2 := ih j (by simpa using h)
      have e1 : (j + 1) * 2 = j * 2 + 2 := by omega
      have e2 : (j + 1) * 2 + 1 = j * 2 + 1 + 2 := by omega
      rw [e2, e1]
      exact ⟨h2.1, h2.2⟩
theorem owns_kept {w w' : World} {base : Nat} {e : TypeId} {sz : Nat} {v : Value} {n : Nat} {xs : List Value} (h : w.ownsRow base e sz v n xs) (hb : Below w.heap.size w w') : w'.ownsRow base e sz v n xs := by
  refine ⟨h.1, ?_⟩
  rcases h.2 with h2 | ⟨g, cap, cur, hv, hg, hh, r⟩
  · exact .inl h2
  · exact .inr ⟨g, cap, cur, hv, hg, (hb.block g (block_lt hh)).trans hh, r⟩
theorem owns_mono {w : World} {base base' : Nat} {e : TypeId} {size : Nat} {v : Value} {n : Nat} {xs : List Value} (h : w.ownsRow base e size v n xs) (hb : base' ≤ base) : w.ownsRow base' e size v n xs := by
  refine ⟨h.1, ?_⟩
  rcases h.2 with h2 | ⟨g, cap, cur, hv, hg, r⟩
  · exact .inl h2
  · exact .inr ⟨g, cap, cur, hv, by omega, r⟩
/-- A slice of fields that a call made, in memory from base on. -/
def OwnF (w : World) (base : Nat) (v : Value) (fs : List Fl) : Prop := w.ownsRow base 37 2 v fs.length (flat fs)
theorem OwnF.nil (w : World) (base : Nat) : OwnF w base (.slice none 0 0) [] := World.ownsRow_nil _ _ _ _
theorem OwnF.flds {w : World} {base : Nat} {v : Value} {fs : List Fl} (h : OwnF w base v fs) : Flds w v fs := by
  rcases h.2 with ⟨hv, h0⟩ | ⟨g, cap, cur, hv, _, hg, _⟩
  · exact .inl ⟨List.length_eq_zero_iff.1 h0, none, 0, hv⟩
  · refine .inr ⟨g, 0, cap, hv, block_lt hg, fun j hj => ?_⟩
    have h' : w.ownsRow base 37 2 (.slice (some ⟨g, 0, none⟩) fs.length cap) fs.length (flat fs) := by rw [← hv]; exact h
    obtain ⟨a, b⟩ := flat_at fs j hj
    rw [Nat.zero_add, h'.cellAt (j * 2) (by omega), h'.cellAt (j * 2 + 1) (by omega), a, b]
    exact ⟨rfl, rfl⟩
theorem OwnF.kept {w w' : World} {base : Nat} {v : Value} {fs : List Fl} (h : OwnF w base v fs) (hb : Below w.heap.size w w') : OwnF w' base v fs := owns_kept h hb
theorem OwnF.form {w : World} {base : Nat} {v : Value} {fs : List Fl} (h : OwnF w base v fs) : ∃ a cap, v = .slice a fs.length cap := h.flds.shape
theorem OwnF.row {w : World} {base : Nat} {v : Value} {fs : List Fl} (h : OwnF w base v fs) : ∀ k, v.ownBlock = some k → base ≤ k := fun k hk => (World.ownsRow.lt h k hk).1
theorem one_cells (x y : ByteArray) : ∀ u ∈ [Value.string x, Value.string y], u.oneCell' = true := by intro u hu; simp at hu; rcases hu with rfl | rfl <;> rfl
theorem news_at {w : World} {g : Nat} {x y : Value} {t : TypeId} (h : w.heap[g]? = some (.cells #[x, y] t (0, 0))) : ∀ j u, [x, y][j]? = some u → w.cell? ((⟨g, 0, none⟩ : Addr).add j) = some u := by
  intro j u hu
  match j, hu with
  | 0, hu => simp at hu; subst hu; exact two0 h
  | 1, hu => simp at hu; subst hu; exact two1 h

end Go.Proofs.YtcnipjmeillfeaaDoor.Fd
