/-
  A list of fields that came in: nil, or at an address; its cells. Condition: what the form says of what is read.
-/
import Derived.Test.YtacnlohfipcbdaaDoorFdOpen
import Derived.Test.YtacnlohfipcbdaaDoorFdKeep
import Derived.Deep.DeepCutAuto
namespace Go.Proofs.YtacnlohfipcbdaaDoor.Fd
open Go.RowKit Tk Go.ChangeShapes Go.WideShapes Go.Deep Go.Joins
set_option linter.unusedVariables false

def Shape (v : Value) : Prop := v = .slice none 0 0 ∨ ∃ a n c, v = .slice (some a) n c
theorem open_shape {H : Type} {enc : TypeId × Value → H} {W : World} {base : Nat} {v : Value} {d : DataW H} {p : List MemPlace} (hv : Value.okWide Tryd.prog W .any base 25 v)
    (h : DataW.Trod enc Tryd.prog W 0 (fun _ => true) true 25 v d p) : Shape v := by
  obtain ⟨a0, len0, cap0, rfl⟩ := okWide_slice Tryd.underlying25 hv
  cases a0 with
  | some a => exact .inr ⟨a, len0, cap0, rfl⟩
  | none =>
    obtain ⟨fuel, hf⟩ := h
    rcases open_slice_pairs Tryd.underlying25 Tryd.underlying23 cellsField rfl rfl cellsText cellsText hf with ⟨hcs, _⟩ | ⟨a, len, cap, m, n, V0, V1, D0, D1, P0, P1, hcs, _⟩
    · simp [Value.cells] at hcs
      obtain ⟨rfl, rfl⟩ := hcs
      exact .inl rfl
    · simp [Value.cells] at hcs
theorem flds_len {w : World} {a : Option Addr} {n c : Nat} {fs : List Fl} (h : Flds w (.slice a n c) fs) : n = fs.length := by
  obtain ⟨a', cap, e⟩ := h.shape
  injection e
theorem flds_news {w : World} {a : Addr} {n c : Nat} {fs : List Fl} (h : Flds w (.slice (some a) n c) fs) : ∀ j u, (flat fs)[j]? = some u → w.cell? (a.add j) = some u := by
  rcases h with ⟨rfl, _⟩ | ⟨b, off, cap, hv, _, hc⟩
  · intro j u hu; simp [flat] at hu
  · injection hv with ha hn hcap
    injection ha with ha
    subst ha
    intro j u hu
    have hj : j < (flat fs).length := (List.getElem?_eq_some_iff.1 hu).1
    rw [flat_length] at hj
    rw [Addr.add_lit]
    obtain ⟨e0, e1⟩ := flat_at fs (j / 2) (by omega)
    obtain ⟨c0, c1⟩ := hc (j / 2) (by omega)
    rcases Nat.mod_two_eq_zero_or_one j with hm | hm
    · have ej : j / 2 * 2 = j := by omega
      rw [ej] at e0 c0
      rw [e0] at hu
      rw [c0, ← hu]
    · have ej : j / 2 * 2 + 1 = j := by omega
      rw [ej] at e1
      rw [Nat.add_assoc, ej] at c1
      rw [e1] at hu
      rw [c1, ← hu]
end Go.Proofs.YtacnlohfipcbdaaDoor.Fd
