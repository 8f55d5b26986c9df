/-
  Worlds that turned within blocks of some types alone, none older than a base. No condition.
-/
import Derived.Test.YtheljldoboiekaaKit
import Derived.Laws.CopyOwn
import Derived.Deep.AppendLies
namespace Go.Proofs.Ytheljldoboiekaa.Sl
open Go.RowKit Go.Proofs.Ytheljldoboiekaa.Fd
set_option linter.unusedVariables false

/-- A block of one of these types. -/
def IsT (T : TypeId → Bool) (w : World) (k : Nat) : Prop := ∃ cs t fr, w.heap[k]? = some (.cells cs t fr) ∧ T t = true
structure Tn (T : TypeId → Bool) (base : Nat) (w w' : World) : Prop where
  os : w'.os = w.os
  tape : w'.tape = w.tape
  output : w'.output = w.output
  size : w.heap.size ≤ w'.heap.size
  block : ∀ k, k < w.heap.size → (k < base ∨ ¬ IsT T w k) → w'.heap[k]? = w.heap[k]?
theorem Tn.refl (T : TypeId → Bool) (base : Nat) (w : World) : Tn T base w w := ⟨rfl, rfl, rfl, Nat.le_refl _, fun _ _ _ => rfl⟩
theorem Tn.of_below {T : TypeId → Bool} {base : Nat} {w w' : World} (h : Below w.heap.size w w') : Tn T base w w' := ⟨h.os, h.tape, h.output, h.size, fun k hk _ => h.block k hk⟩
theorem Tn.trans {T : TypeId → Bool} {base : Nat} {a b c : World} (h : Tn T base a b) (k : Tn T base b c) : Tn T base a c :=
  ⟨k.os.trans h.os, k.tape.trans h.tape, k.output.trans h.output, Nat.le_trans h.size k.size, fun i hi hn => by
    have e := h.block i hi hn
    refine (k.block i (Nat.lt_of_lt_of_le hi h.size) ?_).trans e
    rcases hn with hn | hn
    · exact .inl hn
    · right
      rintro ⟨cs, t, fr, h1, h2⟩
      exact hn ⟨cs, t, fr, by rw [← e]; exact h1, h2⟩⟩
theorem Tn.next {T : TypeId → Bool} {base : Nat} {a b c : World} (h : Tn T base a b) (k : Below b.heap.size b c) : Tn T base a c := h.trans (.of_below k)
theorem Tn.one {T : TypeId → Bool} {base : Nat} {w w' : World} {g : Nat} (h : IsT T w g) (hb : base ≤ g) (h1 : w'.os = w.os) (h2 : w'.tape = w.tape) (h3 : w'.output = w.output) (h4 : w.heap.size ≤ w'.heap.size) (h5 : ∀ k, k < w.heap.size → k ≠ g → w'.heap[k]? = w.heap[k]?) : Tn T base w w' :=
  ⟨h1, h2, h3, h4, fun k hk hn => h5 k hk (fun e => by
    subst e
    rcases hn with hn | hn
    · omega
    · exact hn h)⟩
theorem Tn.set {T : TypeId → Bool} {base : Nat} {w : World} {g j : Nat} (h : IsT T w g) (hb : base ≤ g) (v : Value) : Tn T base w (w.setCell ⟨g, j, none⟩ v) :=
  .one h hb rfl rfl rfl (by simp [World.setCell]) (fun k _ hk => Below.heap_setCell _ _ _ _ hk)
theorem Tn.row {T : TypeId → Bool} {base : Nat} {w : World} {g : Nat} (h : IsT T w g) (hb : base ≤ g) (cs : Array Value) : Tn T base w (w.setRow g cs) :=
  .one h hb rfl rfl rfl (by simp [World.setRow]) (fun k _ hk => setRow_other w g k cs hk)
theorem Tn.grown {T : TypeId → Bool} {base : Nat} {w w' : World} {row : Option Nat} (hg : w.grownBy w' row) (h : ∀ k, row = some k → IsT T w k ∧ base ≤ k) : Tn T base w w' := by
  refine ⟨hg.os, hg.tape, hg.output, hg.size, fun k hk hn => hg.block k hk (fun e => ?_)⟩
  obtain ⟨h1, h2⟩ := h k e.symm
  rcases hn with hn | hn
  · omega
  · exact hn h1
theorem Tn.below {T : TypeId → Bool} {base : Nat} {w w' : World} (h : Tn T base w w') (hb : base ≤ w.heap.size) : Below base w w' :=
  ⟨h.os, h.tape, h.output, h.size, fun k hk => h.block k (by omega) (.inl hk)⟩
theorem Tn.drew {T : TypeId → Bool} {base : Nat} {a w : World} (h : Tn T base a w) : Tn T base a w.drew := ⟨h.os, h.tape, h.output, h.size, h.block⟩
theorem Tn.mono {T : TypeId → Bool} {base b : Nat} {a w : World} (h : Tn T base a w) (hb : b ≤ base) : Tn T b a w := ⟨h.os, h.tape, h.output, h.size, fun k hk hn => h.block k hk (by
  rcases hn with hn | hn
  · exact .inl (by omega)
  · exact .inr hn)⟩
/-- A block of another type stays. -/
theorem Tn.other {T : TypeId → Bool} {base : Nat} {w w' : World} (h : Tn T base w w') {k : Nat} {cs : Array Value} {t : TypeId} {fr : Nat × Nat} (e : w.heap[k]? = some (.cells cs t fr)) (ht : T t = false) : w'.heap[k]? = some (.cells cs t fr) := by
  rw [h.block k (block_lt e) (.inr ?_)]
  · exact e
  · rintro ⟨cs2, t2, fr2, h1, h2⟩
    rw [e] at h1
    injection h1 with h1
    injection h1 with _ h3
    subst h3
    rw [ht] at h2
    cases h2
theorem Tn.old {T : TypeId → Bool} {base : Nat} {w w' : World} (h : Tn T base w w') {k : Nat} (hk : k < base) {o : Obj} (e : w.heap[k]? = some o) : w'.heap[k]? = some o := (h.block k (block_lt e) (.inl hk)).trans e
theorem Tn.cell {T : TypeId → Bool} {base : Nat} {w w' : World} (h : Tn T base w w') {p : Addr} (hp : p.block < base) (hs : base ≤ w.heap.size) : w'.cell? p = w.cell? p := (h.below hs).cell hp
end Go.Proofs.Ytheljldoboiekaa.Sl
