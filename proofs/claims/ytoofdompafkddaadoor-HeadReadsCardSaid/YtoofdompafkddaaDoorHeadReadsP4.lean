/-
  Texts that the law's proof stands on, 4 of them in one file; each one's head says what it proves and under which condition.
-/
import Derived.Test.YtoofdompafkddaaDoorHeadReadsP1
import Derived.Lib.SmallJoins
import Derived.SizedLaws
import Derived.ProofKit
import Derived.ChangeArms
import Derived.OpenShut
import Derived.Test.YtoofdompafkddaaDoorHeadReadsP3
import Derived.Laws.CopyOwn
import Derived.Deep.AppendLies
/-
  A slice of bytes, as it reads; one that came in. Condition: what the form says of what is read.
-/
namespace Go.Proofs.YtoofdompafkddaaDoor.Hd
open Go.RowKit Go.Proofs.YtoofdompafkddaaDoor.Tk Go.ChangeShapes Go.WideShapes
set_option linter.unusedVariables false

/-- A slice value that reads as these bytes. -/
def Byts (w : World) (v : Value) (l : Bs) : Prop :=
  (l = [] ∧ ∃ a cap, v = .slice a 0 cap) ∨ ∃ b off cap, v = .slice (some ⟨b, off, none⟩) l.length cap ∧ l.length ≤ cap ∧ cap ≤ maxLen ∧ b < w.heap.size ∧ Holds w b off l
theorem holds_below {B : Nat} {w w' : World} {b off : Nat} {l : Bs} (h : Holds w b off l) (hb : Below B w w') (hB : b < B) : Holds w' b off l := fun j hj => by
  rw [hb.cell (p := ⟨b, off + j, none⟩) hB]; exact h j hj
theorem Byts.below {B : Nat} {w w' : World} {v : Value} {l : Bs} (h : Byts w v l) (hb : Below B w w') (hB : w.heap.size ≤ B) : Byts w' v l := by
  rcases h with h | ⟨b, off, cap, hv, hc, hm, hlt, hh⟩
  · exact .inl h
  · exact .inr ⟨b, off, cap, hv, hc, hm, Nat.lt_of_lt_of_le hlt hb.size, holds_below hh hb (by omega)⟩
theorem Byts.shape {w : World} {v : Value} {l : Bs} (h : Byts w v l) : ∃ a cap, v = .slice a l.length cap := by
  rcases h with ⟨rfl, a, cap, hv⟩ | ⟨b, off, cap, hv, _⟩
  · exact ⟨a, cap, hv⟩
  · exact ⟨_, cap, hv⟩

theorem cellsByte : Tryd.prog.cellsOf 5 = 1 := by kernel_rfl
theorem byte_back {n : Int} (h : (Lit.int .u8 n).wf = true) : (((UInt8.ofNat n.toNat).toNat : Nat) : Int) = n := by
  have h2 : 0 ≤ n ∧ n < 256 := by
    have e1 : IntKind.u8.min = 0 := rfl
    have e2 : IntKind.u8.max = 255 := rfl
    simp [Lit.wf, e1, e2] at h
    omega
  rw [UInt8.toNat_ofNat']
  omega
set_option maxRecDepth 100000 in
theorem open_byts {H : Type} {enc : TypeId × Value → H} {W : World} {base : Nat} {v : Value} {d : DataW H} {p : List MemPlace} (hv : Value.okWide Tryd.prog W .any base 22 v)
    (h : DataW.Trod enc Tryd.prog W 0 (fun _ => true) true 22 v d p) :
    ∃ l : Bs, Byts W v l ∧ l.length ≤ maxLen := by
  obtain ⟨a0, len0, cap0, rfl⟩ := okWide_slice Tryd.underlying22 hv
  obtain ⟨fuel, hf⟩ := h
  rcases open_ints Tryd.underlying22 Tryd.underlying5 cellsByte hf with ⟨hcs, _⟩ | ⟨a, len, cap, zs, hcs, _, hl, hm, hz, hx, hcell, hwz⟩
  · simp [Value.cells] at hcs
    obtain ⟨rfl, rfl, rfl⟩ := hcs
    exact ⟨[], .inl ⟨rfl, _, _, rfl⟩, by simp⟩
  · simp [Value.cells] at hcs
    obtain ⟨rfl, rfl, rfl⟩ := hcs
    simp only [if_true] at hz
    by_cases h0 : len0 = 0
    · subst h0; exact ⟨[], .inl ⟨rfl, _, _, rfl⟩, by simp⟩
    · obtain ⟨b, off, spot⟩ := a
      have hc0 := hcell 0 (by omega)
      have hspot : spot = none := by simpa [Addr.add] using World.cell?_spot hc0
      subst hspot
      have hlen : ((zs.take len0).map fun n => UInt8.ofNat n.toNat).length = len0 := by simp; omega
      refine ⟨(zs.take len0).map fun n => UInt8.ofNat n.toNat, .inr ⟨b, off, cap0, by rw [hlen], by rw [hlen]; exact hl, hm, ?_, fun j hj => ?_⟩, by rw [hlen]; omega⟩
      · rw [Addr.add_lit] at hc0
        exact World.block_lt_of_cell? W _ hc0
      · rw [hlen] at hj
        have hcj := hcell j (by omega)
        rw [Addr.add_lit] at hcj
        have hjz : j < zs.length := by omega
        have hw := hwz zs[j] (List.getElem_mem hjz)
        have e : zs.getD j 0 = zs[j] := by simp [List.getD, List.getElem?_eq_getElem hjz]
        rw [hcj, e]
        simp only [List.getElem_map, List.getElem_take]
        rw [byte_back hw]
end Go.Proofs.YtoofdompafkddaaDoor.Hd
/-
  A slice of ints that came in. Condition: what the form says of what is read.
-/
namespace Go.Proofs.YtoofdompafkddaaDoor.Hd
open Go.RowKit Go.Proofs.YtoofdompafkddaaDoor.Tk Go.ChangeShapes Go.WideShapes
set_option linter.unusedVariables false

/-- A slice of so many ints. -/
def Ints (w : World) (v : Value) (L : Nat) : Prop :=
  (L = 0 ∧ ∃ a cap, v = .slice a 0 cap) ∨ ∃ b off cap, v = .slice (some ⟨b, off, none⟩) L cap ∧ b < w.heap.size ∧ ∀ j, j < L → ∃ z : Int, w.cell? ⟨b, off + j, none⟩ = some (.int .i64 z)
theorem Ints.below {B : Nat} {w w' : World} {v : Value} {L : Nat} (h : Ints w v L) (hb : Below B w w') (hB : w.heap.size ≤ B) : Ints w' v L := by
  rcases h with h | ⟨b, off, cap, hv, hlt, hh⟩
  · exact .inl h
  · exact .inr ⟨b, off, cap, hv, Nat.lt_of_lt_of_le hlt hb.size, fun j hj => by rw [hb.cell (p := ⟨b, off + j, none⟩) (by show b < B; omega)]; exact hh j hj⟩
theorem Ints.shape {w : World} {v : Value} {L : Nat} (h : Ints w v L) : ∃ a cap, v = .slice a L cap := by
  rcases h with ⟨rfl, a, cap, hv⟩ | ⟨b, off, cap, hv, _⟩
  · exact ⟨a, cap, hv⟩
  · exact ⟨_, cap, hv⟩
theorem cellsInt : Tryd.prog.cellsOf 3 = 1 := by kernel_rfl
set_option maxRecDepth 100000 in
theorem open_nums {H : Type} {enc : TypeId × Value → H} {W : World} {base : Nat} {v : Value} {d : DataW H} {p : List MemPlace} (hv : Value.okWide Tryd.prog W .any base 23 v)
    (h : DataW.Trod enc Tryd.prog W 0 (fun _ => true) true 23 v d p) :
    ∃ L : Nat, Ints W v L ∧ L ≤ maxLen := by
  obtain ⟨a0, len0, cap0, rfl⟩ := okWide_slice Tryd.underlying23 hv
  obtain ⟨fuel, hf⟩ := h
  rcases open_ints Tryd.underlying23 Tryd.underlying3 cellsInt hf with ⟨hcs, _⟩ | ⟨a, len, cap, zs, hcs, _, hl, hm, hz, hx, hcell, hwz⟩
  · simp [Value.cells] at hcs
    obtain ⟨rfl, rfl, rfl⟩ := hcs
    exact ⟨0, .inl ⟨rfl, _, _, rfl⟩, by simp⟩
  · simp [Value.cells] at hcs
    obtain ⟨rfl, rfl, rfl⟩ := hcs
    simp only [if_true] at hz
    by_cases h0 : len0 = 0
    · subst h0; exact ⟨0, .inl ⟨rfl, _, _, rfl⟩, by simp⟩
    · obtain ⟨b, off, spot⟩ := a
      have hc0 := hcell 0 (by omega)
      have hspot : spot = none := by simpa [Addr.add] using World.cell?_spot hc0
      subst hspot
      refine ⟨len0, .inr ⟨b, off, cap0, rfl, ?_, fun j hj => ?_⟩, by omega⟩
      · rw [Addr.add_lit] at hc0
        exact World.block_lt_of_cell? W _ hc0
      · have hcj := hcell j (by omega)
        rw [Addr.add_lit] at hcj
        exact ⟨_, hcj⟩
end Go.Proofs.YtoofdompafkddaaDoor.Hd
/-
  Lists of fields that calls made: rows of cells of their own. No condition.
-/
namespace Go.Proofs.YtoofdompafkddaaDoor.Fd
open Go.RowKit Tk
set_option linter.unusedVariables false

/-- Fields as cells. -/
def flat (fs : List Fl) : List Value := fs.flatMap fun f => [.string f.1, .string f.2]
theorem flat_snoc (fs : List Fl) (f : Fl) : flat (fs ++ [f]) = flat fs ++ [.string f.1, .string f.2] := by simp [flat]
theorem flat_length (fs : List Fl) : (flat fs).length = fs.length * 2 := by
  induction fs with
  | nil => rfl
  | cons f r ih => simp only [flat, List.flatMap_cons, List.length_append, List.length_cons, List.length_nil] at ih ⊢; omega
theorem flat_at (fs : List Fl) (j : Nat) (h : j < fs.length) : (flat fs)[j * 2]? = some (.string fs[j].1) ∧ (flat fs)[j * 2 + 1]? = some (.string fs[j].2) := by
  induction fs generalizing j with
  | nil => simp at h
  | cons f r ih =>
    cases j with
    | zero => exact ⟨rfl, rfl⟩
    | succ j =>
      have h2 := ih j (by simpa using h)
      have e1 : (j + 1) * 2 = j * 2 + 2 := by omega
      have e2 : (j + 1) * 2 + 1 = j * 2 + 1 + 2 := by omega
      rw [e2, e1]
      exact ⟨h2.1, h2.2⟩
theorem owns_kept {w w' : World} {base : Nat} {e : TypeId} {sz : Nat} {v : Value} {n : Nat} {xs : List Value} (h : w.ownsRow base e sz v n xs) (hb : Below w.heap.size w w') : w'.ownsRow base e sz v n xs := by
  refine ⟨h.1, ?_⟩
  rcases h.2 with h2 | ⟨g, cap, cur, hv, hg, hh, r⟩
  · exact .inl h2
  · exact .inr ⟨g, cap, cur, hv, hg, (hb.block g (block_lt hh)).trans hh, r⟩
theorem owns_mono {w : World} {base base' : Nat} {e : TypeId} {size : Nat} {v : Value} {n : Nat} {xs : List Value} (h : w.ownsRow base e size v n xs) (hb : base' ≤ base) : w.ownsRow base' e size v n xs := by
  refine ⟨h.1, ?_⟩
  rcases h.2 with h2 | ⟨g, cap, cur, hv, hg, r⟩
  · exact .inl h2
  · exact .inr ⟨g, cap, cur, hv, by omega, r⟩
/-- A slice of fields that a call made, in memory from base on. -/
def OwnF (w : World) (base : Nat) (v : Value) (fs : List Fl) : Prop := w.ownsRow base 56 2 v fs.length (flat fs)
theorem OwnF.nil (w : World) (base : Nat) : OwnF w base (.slice none 0 0) [] := World.ownsRow_nil _ _ _ _
theorem OwnF.flds {w : World} {base : Nat} {v : Value} {fs : List Fl} (h : OwnF w base v fs) : Flds w v fs := by
  rcases h.2 with ⟨hv, h0⟩ | ⟨g, cap, cur, hv, _, hg, _⟩
  · exact .inl ⟨List.length_eq_zero_iff.1 h0, none, 0, hv⟩
  · refine .inr ⟨g, 0, cap, hv, block_lt hg, fun j hj => ?_⟩
    have h' : w.ownsRow base 56 2 (.slice (some ⟨g, 0, none⟩) fs.length cap) fs.length (flat fs) := by rw [← hv]; exact h
    obtain ⟨a, b⟩ := flat_at fs j hj
    rw [Nat.zero_add, h'.cellAt (j * 2) (by omega), h'.cellAt (j * 2 + 1) (by omega), a, b]
    exact ⟨rfl, rfl⟩
theorem OwnF.kept {w w' : World} {base : Nat} {v : Value} {fs : List Fl} (h : OwnF w base v fs) (hb : Below w.heap.size w w') : OwnF w' base v fs := owns_kept h hb
theorem OwnF.form {w : World} {base : Nat} {v : Value} {fs : List Fl} (h : OwnF w base v fs) : ∃ a cap, v = .slice a fs.length cap := h.flds.shape
theorem OwnF.row {w : World} {base : Nat} {v : Value} {fs : List Fl} (h : OwnF w base v fs) : ∀ k, v.ownBlock = some k → base ≤ k := fun k hk => (World.ownsRow.lt h k hk).1
theorem one_cells (x y : ByteArray) : ∀ u ∈ [Value.string x, Value.string y], u.oneCell' = true := by intro u hu; simp at hu; rcases hu with rfl | rfl <;> rfl
theorem news_at {w : World} {g : Nat} {x y : Value} {t : TypeId} (h : w.heap[g]? = some (.cells #[x, y] t (0, 0))) : ∀ j u, [x, y][j]? = some u → w.cell? ((⟨g, 0, none⟩ : Addr).add j) = some u := by
  intro j u hu
  match j, hu with
  | 0, hu => simp at hu; subst hu; exact two0 h
  | 1, hu => simp at hu; subst hu; exact two1 h

end Go.Proofs.YtoofdompafkddaaDoor.Fd
/-
  Worlds that turned within some blocks alone. No condition.
-/
namespace Go.Proofs.YtoofdompafkddaaDoor.Hd
open Go.RowKit Go.Proofs.YtoofdompafkddaaDoor.Tk Go.Proofs.YtoofdompafkddaaDoor.Fd
set_option linter.unusedVariables false

/-- But for the blocks of O, and new ones, w' is as w was. -/
structure Chg (O : Nat → Prop) (w w' : World) : Prop where
  os : w'.os = w.os
  tape : w'.tape = w.tape
  output : w'.output = w.output
  size : w.heap.size ≤ w'.heap.size
  block : ∀ k, k < w.heap.size → ¬ O k → w'.heap[k]? = w.heap[k]?
theorem Chg.refl (O : Nat → Prop) (w : World) : Chg O w w := ⟨rfl, rfl, rfl, Nat.le_refl _, fun _ _ _ => rfl⟩
theorem Chg.of_below {O : Nat → Prop} {w w' : World} (h : Below w.heap.size w w') : Chg O w w' := ⟨h.os, h.tape, h.output, h.size, fun k hk _ => h.block k hk⟩
theorem Chg.below {O : Nat → Prop} {w w' : World} {B : Nat} (h : Chg O w w') (hO : ∀ k, O k → B ≤ k) (hB : B ≤ w.heap.size) : Below B w w' :=
  ⟨h.os, h.tape, h.output, h.size, fun k hk => h.block k (by omega) (fun ho => by have := hO k ho; omega)⟩
/-- The blocks of O, and those that are new since w. -/
def New (O : Nat → Prop) (w : World) (k : Nat) : Prop := O k ∨ w.heap.size ≤ k
theorem Chg.trans {O O' : Nat → Prop} {a b c : World} (h : Chg O a b) (k : Chg O' b c) (hO : ∀ i, O' i → New O a i) : Chg O a c :=
  ⟨k.os.trans h.os, k.tape.trans h.tape, k.output.trans h.output, Nat.le_trans h.size k.size, fun i hi hn =>
    (k.block i (Nat.lt_of_lt_of_le hi h.size) (fun ho => by rcases hO i ho with h1 | h1; exact hn h1; omega)).trans (h.block i hi hn)⟩
theorem Chg.put {O : Nat → Prop} {a w : World} (h : Chg O a w) (p : Addr) (v : Value) (hp : New O a p.block) : Chg O a (w.setCell p v) :=
  h.trans (O' := fun k => k = p.block) ⟨rfl, rfl, rfl, by simp [World.setCell], fun k hk hn => Below.heap_setCell _ _ _ _ hn⟩ (fun i hi => by subst hi; exact hp)
theorem Chg.row {O : Nat → Prop} {a w : World} (h : Chg O a w) (g : Nat) (cs : Array Value) (hp : New O a g) : Chg O a (w.setRow g cs) :=
  h.trans (O' := fun k => k = g) ⟨rfl, rfl, rfl, by simp [World.setRow], fun k hk hn => setRow_other w g k cs hn⟩ (fun i hi => by subst hi; exact hp)
theorem Chg.grown {O : Nat → Prop} {a w w' : World} {row : Option Nat} (h : Chg O a w) (hg : w.grownBy w' row) (hr : ∀ k, row = some k → New O a k) : Chg O a w' :=
  h.trans (O' := fun k => some k = row) ⟨hg.os, hg.tape, hg.output, hg.size, fun k hk hn => hg.block k hk hn⟩ (fun i hi => hr i hi.symm)
theorem Chg.next {O : Nat → Prop} {a w w' : World} (h : Chg O a w) (hb : Below w.heap.size w w') : Chg O a w' :=
  h.trans (O' := fun _ => False) (Chg.of_below hb) (fun i hi => hi.elim)
theorem Chg.alloc {O : Nat → Prop} {a w : World} (h : Chg O a w) (o : Obj) : Chg O a (w.alloc o) := h.next ((Below.refl _ _).alloc (Nat.le_refl _) o)
theorem Chg.drew {O : Nat → Prop} {a w : World} (h : Chg O a w) : Chg O a w.drew := ⟨h.os, h.tape, h.output, h.size, h.block⟩
theorem Chg.drewN {O : Nat → Prop} {a w : World} (h : Chg O a w) (n : Nat) : Chg O a (w.drewN n) := ⟨h.os, h.tape, h.output, h.size, h.block⟩
theorem Chg.again {O : Nat → Prop} {a b c : World} (h : Chg O a b) (k : Chg (New O a) b c) : Chg O a c := h.trans k (fun _ hi => hi)
theorem new_new {O : Nat → Prop} {a b : World} (hs : a.heap.size ≤ b.heap.size) (i : Nat) (h : New (New O a) b i) : New O a i := by
  rcases h with h | h
  · exact h
  · exact .inr (by omega)
theorem Chg.old {O : Nat → Prop} {w w' : World} (h : Chg O w w') {k : Nat} (ho : ¬ O k) {o : Obj} (e : w.heap[k]? = some o) : w'.heap[k]? = some o := (h.block k (block_lt e) ho).trans e

/-- Bytes as cells. -/
def bys (l : Bs) : List Value := l.map fun c => .int .u8 (c.toNat : Int)
theorem bys_length (l : Bs) : (bys l).length = l.length := by simp [bys]
theorem bys_append (a b : Bs) : bys (a ++ b) = bys a ++ bys b := by simp [bys]
theorem bys_one (l : Bs) : ∀ v ∈ bys l, v.oneCell' = true := by
  intro v hv; obtain ⟨c, _, rfl⟩ := List.mem_map.1 hv; rfl
theorem bys_at (l : Bs) (j : Nat) (h : j < l.length) : (bys l)[j]? = some (.int .u8 (l[j].toNat : Int)) := by simp [bys, h]
/-- Bytes in a row of a call's own. -/
def OwnB (w : World) (v : Value) (l : Bs) : Prop := w.ownsRow 0 5 1 v l.length (bys l)
theorem OwnB.nil (w : World) : OwnB w (.slice none 0 0) [] := World.ownsRow_nil _ _ _ _
/-- A row's fact hangs on its block alone. -/
theorem row_same {w w' : World} {base : Nat} {e : TypeId} {sz : Nat} {v : Value} {n : Nat} {xs : List Value} (h : w.ownsRow base e sz v n xs) (hb : ∀ k, v.ownBlock = some k → w'.heap[k]? = w.heap[k]?) : w'.ownsRow base e sz v n xs := by
  refine ⟨h.1, ?_⟩
  rcases h.2 with h2 | ⟨g, cap, cur, hv, hg, hh, r⟩
  · exact .inl h2
  · exact .inr ⟨g, cap, cur, hv, hg, (hb g (by rw [hv]; rfl)).trans hh, r⟩
theorem row_chg {O O' : Nat → Prop} {w w' : World} {base : Nat} {e : TypeId} {sz : Nat} {v : Value} {n : Nat} {xs : List Value} (h : w.ownsRow base e sz v n xs) (hc : Chg O' w w') (ho : ∀ k, v.ownBlock = some k → O k) (hd : ∀ k, O k → ¬ O' k) : w'.ownsRow base e sz v n xs :=
  row_same h fun k hk => hc.block k (World.ownsRow.lt h k hk).2 (hd k (ho k hk))
theorem OwnB.holds {w : World} {v : Value} {l : Bs} (h : OwnB w v l) {g cap : Nat} (hv : v = .slice (some ⟨g, 0, none⟩) l.length cap) : Holds w g 0 l := by
  subst hv
  intro j hj
  rw [Nat.zero_add, World.ownsRow.cellAt h j (by omega), bys_at l j hj]
theorem OwnB.shape {w : World} {v : Value} {l : Bs} (h : OwnB w v l) : ∃ a cap, v = .slice a l.length cap := by
  rcases h.2 with ⟨hv, h0⟩ | ⟨g, cap, cur, hv, _⟩
  · rw [h0]; exact ⟨none, 0, hv⟩
  · exact ⟨_, cap, hv⟩
/-- The type of a row's block. -/
theorem row_type {w : World} {base : Nat} {e : TypeId} {sz : Nat} {v : Value} {n : Nat} {xs : List Value} (h : w.ownsRow base e sz v n xs) {k : Nat} (hk : v.ownBlock = some k) : ∃ cur, w.heap[k]? = some (.cells cur e (0, 0)) := by
  rcases h.2 with ⟨hv, _⟩ | ⟨g, cap, cur, hv, _, hh, _⟩
  · rw [hv] at hk; cases hk
  · rw [hv] at hk; injection hk with hk; subst hk; exact ⟨cur, hh⟩
/-- Blocks of unlike types are unlike. -/
theorem apart_of {w : World} {a b : Nat} {x y : Array Value} {s t : TypeId} {fr fs : Nat × Nat} (ha : w.heap[a]? = some (.cells x s fr)) (hb : w.heap[b]? = some (.cells y t fs)) (h : s ≠ t) : a ≠ b := by
  intro e; subst e; rw [ha] at hb; injection hb with hb; injection hb with _ h2; exact h h2
theorem put_far {w : World} {a : Addr} {v : Value} {k : Nat} {o : Option Obj} (h : w.heap[k]? = o) (hk : k ≠ a.block) : (w.setCell a v).heap[k]? = o := (Below.heap_setCell w a v k hk).trans h
theorem row_far {w : World} {g : Nat} {cs : Array Value} {k : Nat} {o : Option Obj} (h : w.heap[k]? = o) (hk : k ≠ g) : (w.setRow g cs).heap[k]? = o := (setRow_other w g k cs hk).trans h
end Go.Proofs.YtoofdompafkddaaDoor.Hd
