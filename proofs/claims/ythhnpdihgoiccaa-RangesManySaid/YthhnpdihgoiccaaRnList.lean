/-
  Lists of ranges as the model has them; the plain function on lists, element by element. No condition.
-/
import Derived.Test.YthhnpdihgoiccaaRnOne
import Derived.Test.YthhnpdihgoiccaaRnIx
import Derived.Test.YthhnpdihgoiccaaSpApp
import Derived.Test.YthhnpdihgoiccaaFdNamesMath
import Derived.Test.YthhnpdihgoiccaaFdTextsDef
import Derived.Test.YthhnpdihgoiccaaTokSplitAll
namespace Go.Proofs.Ythhnpdihgoiccaa.Rn
open Go.RowKit Go.Proofs.Ythhnpdihgoiccaa.Fd Go.Proofs.Ythhnpdihgoiccaa.Sn Go.Proofs.Ythhnpdihgoiccaa.Rm
set_option maxRecDepth 100000
set_option linter.unusedVariables false
set_option linter.unusedSimpArgs false

theorem allW_snoc : ∀ (l : List Tk.Bs) {L : List Rm.W} {x : Tk.Bs} {p : Rm.W}, allW l = some L → oneW x = some p → allW (l ++ [x]) = some (L ++ [p])
  | [], L, x, p, h, hx => by
    injection h with h
    subst h
    show (match oneW x, allW [] with | some w, some l => some (w :: l) | _, _ => none) = _
    rw [hx]; rfl
  | y :: r, L, x, p, h, hx => by
    unfold allW at h
    cases hy : oneW y with
    | none => rw [hy] at h; cases h
    | some q =>
      cases hr : allW r with
      | none => rw [hy, hr] at h; cases h
      | some M =>
        rw [hy, hr] at h
        injection h with h
        subst h
        show (match oneW y, allW (r ++ [x]) with | some w, some l => some (w :: l) | _, _ => none) = _
        rw [hy, allW_snoc r hr hx]; rfl
theorem allW_bad : ∀ (l : List Tk.Bs) (k : Nat) (h : k < l.length), oneW l[k] = none → allW l = none
  | [], k, h, _ => absurd h (by simp)
  | y :: r, 0, h, hx => by
    have hx : oneW y = none := hx
    unfold allW; rw [hx]
  | y :: r, k + 1, h, hx => by
    unfold allW
    rw [allW_bad r k (by simpa using h) (by simpa using hx)]
    cases oneW y <;> rfl
theorem allW_length : ∀ (l : List Tk.Bs) {L : List Rm.W}, allW l = some L → L.length = l.length
  | [], L, h => by injection h with h; subst h; rfl
  | y :: r, L, h => by
    unfold allW at h
    cases hy : oneW y with
    | none => rw [hy] at h; cases h
    | some q =>
      cases hr : allW r with
      | none => rw [hy, hr] at h; cases h
      | some M =>
        rw [hy, hr] at h
        injection h with h
        subst h
        rw [List.length_cons, List.length_cons, allW_length r hr]
theorem take_snoc (ls : List Tk.Bs) (k : Nat) (h : k < ls.length) : ls.take (k + 1) = ls.take k ++ [ls[k]] := by rw [List.take_succ_eq_append_getElem h]

/-- What a Range text's parse answers. -/
def ParsePost (l : Tk.Bs) (w : World) (e : Ending) (w' : World) : Prop :=
  ∃ v, e = .returned (.tuple #[v, .bool (parseR l).isSome]) ∧ Spans w' v ((parseR l).getD []) ∧ Below w.heap.size w w'
theorem post_none {l : Tk.Bs} {w w' : World} (h : parseR l = none) (hB : Below w.heap.size w w') : ParsePost l w (.returned (.tuple #[.slice none 0 0, .bool false])) w' :=
  ⟨_, by rw [h]; rfl, by rw [h]; exact Spans.nil _, hB⟩
theorem post_some {l : Tk.Bs} {w w' : World} {v : Value} {L : List Rm.W} (h : parseR l = some L) (hv : Spans w' v L) (hB : Below w.heap.size w w') : ParsePost l w (.returned (.tuple #[v, .bool true])) w' :=
  ⟨_, by rw [h]; rfl, by rw [h]; exact hv, hB⟩
theorem parse_short {s : ByteArray} (h : s.size < 6) : parseR s.data.toList = none := by
  unfold parseR
  rw [if_neg]
  intro e
  have := congrArg List.length e
  have e2 : s.data.toList.length = s.size := size_len s
  simp [Tk.lower, hdL] at this
  omega
theorem parse_head {s : ByteArray} (h : Tk.lower (s.extract 0 6).data.toList ≠ hdL) : parseR s.data.toList = none := by
  unfold parseR
  rw [ext_take] at h
  rw [if_neg h]
theorem parse_split {s : ByteArray} (h : Tk.lower (s.extract 0 6).data.toList = hdL) : parseR s.data.toList = match Tk.splitOf (s.extract 6 s.size).data.toList with
    | none => none
    | some l => if 1 ≤ l.length ∧ l.length ≤ 32 then allW l else none := by
  unfold parseR
  rw [ext_take] at h
  rw [if_pos h, ext_drop]
  cases Tk.splitOf (s.data.toList.drop 6) <;> rfl
/-- What a list of texts' cells hold: those of a slice that a call made. -/
structure Cells (w : World) (g : Nat) (ls : List Tk.Bs) : Prop where
  lt : g < w.heap.size
  cell : ∀ j (hj : j < ls.length), w.cell? ⟨g, j, none⟩ = some (TS ls[j])
theorem Cells.next {w w' : World} {g : Nat} {ls : List Tk.Bs} {B : Nat} (h : Cells w g ls) (hb : Below B w w') (hg : g < B) : Cells w' g ls :=
  ⟨Nat.lt_of_lt_of_le h.lt hb.size, fun j hj => (hb.cell (p := ⟨g, j, none⟩) hg).trans (h.cell j hj)⟩
theorem cells_of {w : World} {base : Nat} {v : Value} {ls : List Tk.Bs} (h : w.ownsRow base 9 1 v ls.length (ls.map Tk.S)) (h0 : 1 ≤ ls.length) : ∃ g cap, v = .slice (some ⟨g, 0, none⟩) ls.length cap ∧ Cells w g ls := by
  have h2 := h
  rcases h.2 with ⟨hv, h1⟩ | ⟨g, cap, cur, hv, _⟩
  · omega
  · subst hv
    refine ⟨g, cap, rfl, (World.ownsRow.lt h2 g rfl).2, fun j hj => ?_⟩
    have h3 := h2.cellAt j (by omega)
    rw [h3, List.getElem?_map, List.getElem?_eq_getElem hj]; rfl
end Go.Proofs.Ythhnpdihgoiccaa.Rn
