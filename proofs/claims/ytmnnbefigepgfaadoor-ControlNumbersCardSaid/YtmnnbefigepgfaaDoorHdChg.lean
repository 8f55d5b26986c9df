/-
  Worlds that turned within some blocks alone. No condition.
-/
import Derived.Test.YtmnnbefigepgfaaDoorFdOwn
import Derived.Test.YtmnnbefigepgfaaDoorHdByts
import Derived.Laws.CopyOwn
import Derived.Deep.AppendLies
namespace Go.Proofs.YtmnnbefigepgfaaDoor.Hd
open Go.RowKit Go.Proofs.YtmnnbefigepgfaaDoor.Tk Go.Proofs.YtmnnbefigepgfaaDoor.Fd
set_option linter.unusedVariables false

/-- But for the blocks of O, and new ones, w' is as w was. -/
structure Chg (O : Nat → Prop) (w w' : World) : Prop where
  os : w'.os = w.os
  tape : w'.tape = w.tape
  output : w'.output = w.output
  size : w.heap.size ≤ w'.heap.size
  block : ∀ k, k < w.heap.size → ¬ O k → w'.heap[k]? = w.heap[k]?
theorem Chg.refl (O : Nat → Prop) (w : World) : Chg O w w := ⟨rfl, rfl, rfl, Nat.le_refl _, fun _ _ _ => rfl⟩
theorem Chg.of_below {O : Nat → Prop} {w w' : World} (h : Below w.heap.size w w') : Chg O w w' := ⟨h.os, h.tape, h.output, h.size, fun k hk _ => h.block k hk⟩
theorem Chg.below {O : Nat → Prop} {w w' : World} {B : Nat} (h : Chg O w w') (hO : ∀ k, O k → B ≤ k) (hB : B ≤ w.heap.size) : Below B w w' :=
  ⟨h.os, h.tape, h.output, h.size, fun k hk => h.block k (by omega) (fun ho => by have := hO k ho; omega)⟩
/-- The blocks of O, and those that are new since w. -/
def New (O : Nat → Prop) (w : World) (k : Nat) : Prop := O k ∨ w.heap.size ≤ k
theorem Chg.trans {O O' : Nat → Prop} {a b c : World} (h : Chg O a b) (k : Chg O' b c) (hO : ∀ i, O' i → New O a i) : Chg O a c :=
  ⟨k.os.trans h.os, k.tape.trans h.tape, k.output.trans h.output, Nat.le_trans h.size k.size, fun i hi hn =>
    (k.block i (Nat.lt_of_lt_of_le hi h.size) (fun ho => by rcases hO i ho with h1 | h1; exact hn h1; omega)).trans (h.block i hi hn)⟩
theorem Chg.put {O : Nat → Prop} {a w : World} (h : Chg O a w) (p : Addr) (v : Value) (hp : New O a p.block) : Chg O a (w.setCell p v) :=
  h.trans (O' := fun k => k = p.block) ⟨rfl, rfl, rfl, by simp [World.setCell], fun k hk hn => Below.heap_setCell _ _ _ _ hn⟩ (fun i hi => by subst hi; exact hp)
theorem Chg.row {O : Nat → Prop} {a w : World} (h : Chg O a w) (g : Nat) (cs : Array Value) (hp : New O a g) : Chg O a (w.setRow g cs) :=
  h.trans (O' := fun k => k = g) ⟨rfl, rfl, rfl, by simp [World.setRow], fun k hk hn => setRow_other w g k cs hn⟩ (fun i hi => by subst hi; exact hp)
theorem Chg.grown {O : Nat → Prop} {a w w' : World} {row : Option Nat} (h : Chg O a w) (hg : w.grownBy w' row) (hr : ∀ k, row = some k → New O a k) : Chg O a w' :=
  h.trans (O' := fun k => some k = row) ⟨hg.os, hg.tape, hg.output, hg.size, fun k hk hn => hg.block k hk hn⟩ (fun i hi => hr i hi.symm)
theorem Chg.next {O : Nat → Prop} {a w w' : World} (h : Chg O a w) (hb : Below w.heap.size w w') : Chg O a w' :=
  h.trans (O' := fun _ => False) (Chg.of_below hb) (fun i hi => hi.elim)
theorem Chg.alloc {O : Nat → Prop} {a w : World} (h : Chg O a w) (o : Obj) : Chg O a (w.alloc o) := h.next ((Below.refl _ _).alloc (Nat.le_refl _) o)
theorem Chg.drew {O : Nat → Prop} {a w : World} (h : Chg O a w) : Chg O a w.drew := ⟨h.os, h.tape, h.output, h.size, h.block⟩
theorem Chg.drewN {O : Nat → Prop} {a w : World} (h : Chg O a w) (n : Nat) : Chg O a (w.drewN n) := ⟨h.os, h.tape, h.output, h.size, h.block⟩
theorem Chg.again {O : Nat → Prop} {a b c : World} (h : Chg O a b) (k : Chg (New O a) b c) : Chg O a c := h.trans k (fun _ hi => hi)
theorem new_new {O : Nat → Prop} {a b : World} (hs : a.heap.size ≤ b.heap.size) (i : Nat) (h : New (New O a) b i) : New O a i := by
  rcases h with h | h
  · exact h
  · exact .inr (by omega)
theorem Chg.old {O : Nat → Prop} {w w' : World} (h : Chg O w w') {k : Nat} (ho : ¬ O k) {o : Obj} (e : w.heap[k]? = some o) : w'.heap[k]? = some o := (h.block k (block_lt e) ho).trans e

/-- Bytes as cells. -/
def bys (l : Bs) : List Value := l.map fun c => .int .u8 (c.toNat : Int)
theorem bys_length (l : Bs) : (bys l).length = l.length := by simp [bys]
theorem bys_append (a b : Bs) : bys (a ++ b) = bys a ++ bys b := by simp [bys]
theorem bys_one (l : Bs) : ∀ v ∈ bys l, v.oneCell' = true := by
  intro v hv; obtain ⟨c, _, rfl⟩ := List.mem_map.1 hv; rfl
theorem bys_at (l : Bs) (j : Nat) (h : j < l.length) : (bys l)[j]? = some (.int .u8 (l[j].toNat : Int)) := by simp [bys, h]
/-- Bytes in a row of a call's own. -/
def OwnB (w : World) (v : Value) (l : Bs) : Prop := w.ownsRow 0 5 1 v l.length (bys l)
theorem OwnB.nil (w : World) : OwnB w (.slice none 0 0) [] := World.ownsRow_nil _ _ _ _
/-- A row's fact hangs on its block alone. -/
theorem row_same {w w' : World} {base : Nat} {e : TypeId} {sz : Nat} {v : Value} {n : Nat} {xs : List Value} (h : w.ownsRow base e sz v n xs) (hb : ∀ k, v.ownBlock = some k → w'.heap[k]? = w.heap[k]?) : w'.ownsRow base e sz v n xs := by
  refine ⟨h.1, ?_⟩
  rcases h.2 with h2 | ⟨g, cap, cur, hv, hg, hh, r⟩
  · exact .inl h2
  · exact .inr ⟨g, cap, cur, hv, hg, (hb g (by rw [hv]; rfl)).trans hh, r⟩
theorem row_chg {O O' : Nat → Prop} {w w' : World} {base : Nat} {e : TypeId} {sz : Nat} {v : Value} {n : Nat} {xs : List Value} (h : w.ownsRow base e sz v n xs) (hc : Chg O' w w') (ho : ∀ k, v.ownBlock = some k → O k) (hd : ∀ k, O k → ¬ O' k) : w'.ownsRow base e sz v n xs :=
  row_same h fun k hk => hc.block k (World.ownsRow.lt h k hk).2 (hd k (ho k hk))
theorem OwnB.holds {w : World} {v : Value} {l : Bs} (h : OwnB w v l) {g cap : Nat} (hv : v = .slice (some ⟨g, 0, none⟩) l.length cap) : Holds w g 0 l := by
  subst hv
  intro j hj
  rw [Nat.zero_add, World.ownsRow.cellAt h j (by omega), bys_at l j hj]
theorem OwnB.shape {w : World} {v : Value} {l : Bs} (h : OwnB w v l) : ∃ a cap, v = .slice a l.length cap := by
  rcases h.2 with ⟨hv, h0⟩ | ⟨g, cap, cur, hv, _⟩
  · rw [h0]; exact ⟨none, 0, hv⟩
  · exact ⟨_, cap, hv⟩
/-- The type of a row's block. -/
theorem row_type {w : World} {base : Nat} {e : TypeId} {sz : Nat} {v : Value} {n : Nat} {xs : List Value} (h : w.ownsRow base e sz v n xs) {k : Nat} (hk : v.ownBlock = some k) : ∃ cur, w.heap[k]? = some (.cells cur e (0, 0)) := by
  rcases h.2 with ⟨hv, _⟩ | ⟨g, cap, cur, hv, _, hh, _⟩
  · rw [hv] at hk; cases hk
  · rw [hv] at hk; injection hk with hk; subst hk; exact ⟨cur, hh⟩
/-- Blocks of unlike types are unlike. -/
theorem apart_of {w : World} {a b : Nat} {x y : Array Value} {s t : TypeId} {fr fs : Nat × Nat} (ha : w.heap[a]? = some (.cells x s fr)) (hb : w.heap[b]? = some (.cells y t fs)) (h : s ≠ t) : a ≠ b := by
  intro e; subst e; rw [ha] at hb; injection hb with hb; injection hb with _ h2; exact h h2
theorem put_far {w : World} {a : Addr} {v : Value} {k : Nat} {o : Option Obj} (h : w.heap[k]? = o) (hk : k ≠ a.block) : (w.setCell a v).heap[k]? = o := (Below.heap_setCell w a v k hk).trans h
theorem row_far {w : World} {g : Nat} {cs : Array Value} {k : Nat} {o : Option Obj} (h : w.heap[k]? = o) (hk : k ≠ g) : (w.setRow g cs).heap[k]? = o := (setRow_other w g k cs hk).trans h
end Go.Proofs.YtmnnbefigepgfaaDoor.Hd
