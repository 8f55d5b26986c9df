/-
  Texts that the laws' proofs stand on, 3 of them in one file; each one's head says what it proves and under which condition.
-/
import Derived.Test.YtjbdgndejbiikaaDoorSgBP1
import Derived.Lib.SmallJoins
import Derived.SizedLaws
import Derived.ProofKit
import Derived.ChangeArms
import Derived.OpenShut
import Derived.Test.YtjbdgndejbiikaaDoorSgBP16
import Derived.Laws.CopyOwn
import Derived.Deep.AppendLies
import Derived.Test.YtjbdgndejbiikaaDoorSgBP10
import Derived.Test.YtjbdgndejbiikaaDoorSgBP5
import Derived.Test.YtjbdgndejbiikaaDoorSgBP7
/-
  A slice of bytes, as it reads; one that came in. Condition: what the form says of what is read.
-/
namespace Go.Proofs.YtjbdgndejbiikaaDoor.Hd
open Go.RowKit Go.Proofs.YtjbdgndejbiikaaDoor.Tk Go.ChangeShapes Go.WideShapes
set_option linter.unusedVariables false

/-- A slice value that reads as these bytes. -/
def Byts (w : World) (v : Value) (l : Bs) : Prop :=
  (l = [] ∧ ∃ a cap, v = .slice a 0 cap) ∨ ∃ b off cap, v = .slice (some ⟨b, off, none⟩) l.length cap ∧ l.length ≤ cap ∧ cap ≤ maxLen ∧ b < w.heap.size ∧ Holds w b off l
theorem holds_below {B : Nat} {w w' : World} {b off : Nat} {l : Bs} (h : Holds w b off l) (hb : Below B w w') (hB : b < B) : Holds w' b off l := fun j hj => by
  rw [hb.cell (p := ⟨b, off + j, none⟩) hB]; exact h j hj
theorem Byts.below {B : Nat} {w w' : World} {v : Value} {l : Bs} (h : Byts w v l) (hb : Below B w w') (hB : w.heap.size ≤ B) : Byts w' v l := by
  rcases h with h | ⟨b, off, cap, hv, hc, hm, hlt, hh⟩
  · exact .inl h
  · exact .inr ⟨b, off, cap, hv, hc, hm, Nat.lt_of_lt_of_le hlt hb.size, holds_below hh hb (by omega)⟩
theorem Byts.shape {w : World} {v : Value} {l : Bs} (h : Byts w v l) : ∃ a cap, v = .slice a l.length cap := by
  rcases h with ⟨rfl, a, cap, hv⟩ | ⟨b, off, cap, hv, _⟩
  · exact ⟨a, cap, hv⟩
  · exact ⟨_, cap, hv⟩

theorem cellsByte : Tryd.prog.cellsOf 5 = 1 := by kernel_rfl
theorem byte_back {n : Int} (h : (Lit.int .u8 n).wf = true) : (((UInt8.ofNat n.toNat).toNat : Nat) : Int) = n := by
  have h2 : 0 ≤ n ∧ n < 256 := by
    have e1 : IntKind.u8.min = 0 := rfl
    have e2 : IntKind.u8.max = 255 := rfl
    simp [Lit.wf, e1, e2] at h
    omega
  rw [UInt8.toNat_ofNat']
  omega
set_option maxRecDepth 100000 in
theorem open_byts {H : Type} {enc : TypeId × Value → H} {W : World} {base : Nat} {v : Value} {d : DataW H} {p : List MemPlace} (hv : Value.okWide Tryd.prog W .any base 77 v)
    (h : DataW.Trod enc Tryd.prog W 0 (fun _ => true) true 77 v d p) :
    ∃ l : Bs, Byts W v l ∧ l.length ≤ maxLen := by
  obtain ⟨a0, len0, cap0, rfl⟩ := okWide_slice Tryd.underlying77 hv
  obtain ⟨fuel, hf⟩ := h
  rcases open_ints Tryd.underlying77 Tryd.underlying5 cellsByte hf with ⟨hcs, _⟩ | ⟨a, len, cap, zs, hcs, _, hl, hm, hz, hx, hcell, hwz⟩
  · simp [Value.cells] at hcs
    obtain ⟨rfl, rfl, rfl⟩ := hcs
    exact ⟨[], .inl ⟨rfl, _, _, rfl⟩, by simp⟩
  · simp [Value.cells] at hcs
    obtain ⟨rfl, rfl, rfl⟩ := hcs
    simp only [if_true] at hz
    by_cases h0 : len0 = 0
    · subst h0; exact ⟨[], .inl ⟨rfl, _, _, rfl⟩, by simp⟩
    · obtain ⟨b, off, spot⟩ := a
      have hc0 := hcell 0 (by omega)
      have hspot : spot = none := by simpa [Addr.add] using World.cell?_spot hc0
      subst hspot
      have hlen : ((zs.take len0).map fun n => UInt8.ofNat n.toNat).length = len0 := by simp; omega
      refine ⟨(zs.take len0).map fun n => UInt8.ofNat n.toNat, .inr ⟨b, off, cap0, by rw [hlen], by rw [hlen]; exact hl, hm, ?_, fun j hj => ?_⟩, by rw [hlen]; omega⟩
      · rw [Addr.add_lit] at hc0
        exact World.block_lt_of_cell? W _ hc0
      · rw [hlen] at hj
        have hcj := hcell j (by omega)
        rw [Addr.add_lit] at hcj
        have hjz : j < zs.length := by omega
        have hw := hwz zs[j] (List.getElem_mem hjz)
        have e : zs.getD j 0 = zs[j] := by simp [List.getD, List.getElem?_eq_getElem hjz]
        rw [hcj, e]
        simp only [List.getElem_map, List.getElem_take]
        rw [byte_back hw]
end Go.Proofs.YtjbdgndejbiikaaDoor.Hd
/-
  Worlds that turned within some blocks alone. No condition.
-/
namespace Go.Proofs.YtjbdgndejbiikaaDoor.Hd
open Go.RowKit Go.Proofs.YtjbdgndejbiikaaDoor.Tk Go.Proofs.YtjbdgndejbiikaaDoor.Fd
set_option linter.unusedVariables false

/-- But for the blocks of O, and new ones, w' is as w was. -/
structure Chg (O : Nat → Prop) (w w' : World) : Prop where
  os : w'.os = w.os
  tape : w'.tape = w.tape
  output : w'.output = w.output
  size : w.heap.size ≤ w'.heap.size
  block : ∀ k, k < w.heap.size → ¬ O k → w'.heap[k]? = w.heap[k]?
theorem Chg.refl (O : Nat → Prop) (w : World) : Chg O w w := ⟨rfl, rfl, rfl, Nat.le_refl _, fun _ _ _ => rfl⟩
theorem Chg.of_below {O : Nat → Prop} {w w' : World} (h : Below w.heap.size w w') : Chg O w w' := ⟨h.os, h.tape, h.output, h.size, fun k hk _ => h.block k hk⟩
theorem Chg.below {O : Nat → Prop} {w w' : World} {B : Nat} (h : Chg O w w') (hO : ∀ k, O k → B ≤ k) (hB : B ≤ w.heap.size) : Below B w w' :=
  ⟨h.os, h.tape, h.output, h.size, fun k hk => h.block k (by omega) (fun ho => by have := hO k ho; omega)⟩
/-- The blocks of O, and those that are new since w. -/
def New (O : Nat → Prop) (w : World) (k : Nat) : Prop := O k ∨ w.heap.size ≤ k
theorem Chg.trans {O O' : Nat → Prop} {a b c : World} (h : Chg O a b) (k : Chg O' b c) (hO : ∀ i, O' i → New O a i) : Chg O a c :=
  ⟨k.os.trans h.os, k.tape.trans h.tape, k.output.trans h.output, Nat.le_trans h.size k.size, fun i hi hn =>
    (k.block i (Nat.lt_of_lt_of_le hi h.size) (fun ho => by rcases hO i ho with h1 | h1; exact hn h1; omega)).trans (h.block i hi hn)⟩
theorem Chg.put {O : Nat → Prop} {a w : World} (h : Chg O a w) (p : Addr) (v : Value) (hp : New O a p.block) : Chg O a (w.setCell p v) :=
  h.trans (O' := fun k => k = p.block) ⟨rfl, rfl, rfl, by simp [World.setCell], fun k hk hn => Below.heap_setCell _ _ _ _ hn⟩ (fun i hi => by subst hi; exact hp)
theorem Chg.row {O : Nat → Prop} {a w : World} (h : Chg O a w) (g : Nat) (cs : Array Value) (hp : New O a g) : Chg O a (w.setRow g cs) :=
  h.trans (O' := fun k => k = g) ⟨rfl, rfl, rfl, by simp [World.setRow], fun k hk hn => setRow_other w g k cs hn⟩ (fun i hi => by subst hi; exact hp)
theorem Chg.grown {O : Nat → Prop} {a w w' : World} {row : Option Nat} (h : Chg O a w) (hg : w.grownBy w' row) (hr : ∀ k, row = some k → New O a k) : Chg O a w' :=
  h.trans (O' := fun k => some k = row) ⟨hg.os, hg.tape, hg.output, hg.size, fun k hk hn => hg.block k hk hn⟩ (fun i hi => hr i hi.symm)
theorem Chg.next {O : Nat → Prop} {a w w' : World} (h : Chg O a w) (hb : Below w.heap.size w w') : Chg O a w' :=
  h.trans (O' := fun _ => False) (Chg.of_below hb) (fun i hi => hi.elim)
theorem Chg.alloc {O : Nat → Prop} {a w : World} (h : Chg O a w) (o : Obj) : Chg O a (w.alloc o) := h.next ((Below.refl _ _).alloc (Nat.le_refl _) o)
theorem Chg.drew {O : Nat → Prop} {a w : World} (h : Chg O a w) : Chg O a w.drew := ⟨h.os, h.tape, h.output, h.size, h.block⟩
theorem Chg.drewN {O : Nat → Prop} {a w : World} (h : Chg O a w) (n : Nat) : Chg O a (w.drewN n) := ⟨h.os, h.tape, h.output, h.size, h.block⟩
theorem Chg.again {O : Nat → Prop} {a b c : World} (h : Chg O a b) (k : Chg (New O a) b c) : Chg O a c := h.trans k (fun _ hi => hi)
theorem new_new {O : Nat → Prop} {a b : World} (hs : a.heap.size ≤ b.heap.size) (i : Nat) (h : New (New O a) b i) : New O a i := by
  rcases h with h | h
  · exact h
  · exact .inr (by omega)
theorem Chg.old {O : Nat → Prop} {w w' : World} (h : Chg O w w') {k : Nat} (ho : ¬ O k) {o : Obj} (e : w.heap[k]? = some o) : w'.heap[k]? = some o := (h.block k (block_lt e) ho).trans e

/-- Bytes as cells. -/
def bys (l : Bs) : List Value := l.map fun c => .int .u8 (c.toNat : Int)
theorem bys_length (l : Bs) : (bys l).length = l.length := by simp [bys]
theorem bys_append (a b : Bs) : bys (a ++ b) = bys a ++ bys b := by simp [bys]
theorem bys_one (l : Bs) : ∀ v ∈ bys l, v.oneCell' = true := by
  intro v hv; obtain ⟨c, _, rfl⟩ := List.mem_map.1 hv; rfl
theorem bys_at (l : Bs) (j : Nat) (h : j < l.length) : (bys l)[j]? = some (.int .u8 (l[j].toNat : Int)) := by simp [bys, h]
/-- Bytes in a row of a call's own. -/
def OwnB (w : World) (v : Value) (l : Bs) : Prop := w.ownsRow 0 5 1 v l.length (bys l)
theorem OwnB.nil (w : World) : OwnB w (.slice none 0 0) [] := World.ownsRow_nil _ _ _ _
/-- A row's fact hangs on its block alone. -/
theorem row_same {w w' : World} {base : Nat} {e : TypeId} {sz : Nat} {v : Value} {n : Nat} {xs : List Value} (h : w.ownsRow base e sz v n xs) (hb : ∀ k, v.ownBlock = some k → w'.heap[k]? = w.heap[k]?) : w'.ownsRow base e sz v n xs := by
  refine ⟨h.1, ?_⟩
  rcases h.2 with h2 | ⟨g, cap, cur, hv, hg, hh, r⟩
  · exact .inl h2
  · exact .inr ⟨g, cap, cur, hv, hg, (hb g (by rw [hv]; rfl)).trans hh, r⟩
theorem row_chg {O O' : Nat → Prop} {w w' : World} {base : Nat} {e : TypeId} {sz : Nat} {v : Value} {n : Nat} {xs : List Value} (h : w.ownsRow base e sz v n xs) (hc : Chg O' w w') (ho : ∀ k, v.ownBlock = some k → O k) (hd : ∀ k, O k → ¬ O' k) : w'.ownsRow base e sz v n xs :=
  row_same h fun k hk => hc.block k (World.ownsRow.lt h k hk).2 (hd k (ho k hk))
theorem OwnB.holds {w : World} {v : Value} {l : Bs} (h : OwnB w v l) {g cap : Nat} (hv : v = .slice (some ⟨g, 0, none⟩) l.length cap) : Holds w g 0 l := by
  subst hv
  intro j hj
  rw [Nat.zero_add, World.ownsRow.cellAt h j (by omega), bys_at l j hj]
theorem OwnB.shape {w : World} {v : Value} {l : Bs} (h : OwnB w v l) : ∃ a cap, v = .slice a l.length cap := by
  rcases h.2 with ⟨hv, h0⟩ | ⟨g, cap, cur, hv, _⟩
  · rw [h0]; exact ⟨none, 0, hv⟩
  · exact ⟨_, cap, hv⟩
/-- The type of a row's block. -/
theorem row_type {w : World} {base : Nat} {e : TypeId} {sz : Nat} {v : Value} {n : Nat} {xs : List Value} (h : w.ownsRow base e sz v n xs) {k : Nat} (hk : v.ownBlock = some k) : ∃ cur, w.heap[k]? = some (.cells cur e (0, 0)) := by
  rcases h.2 with ⟨hv, _⟩ | ⟨g, cap, cur, hv, _, hh, _⟩
  · rw [hv] at hk; cases hk
  · rw [hv] at hk; injection hk with hk; subst hk; exact ⟨cur, hh⟩
/-- Blocks of unlike types are unlike. -/
theorem apart_of {w : World} {a b : Nat} {x y : Array Value} {s t : TypeId} {fr fs : Nat × Nat} (ha : w.heap[a]? = some (.cells x s fr)) (hb : w.heap[b]? = some (.cells y t fs)) (h : s ≠ t) : a ≠ b := by
  intro e; subst e; rw [ha] at hb; injection hb with hb; injection hb with _ h2; exact h h2
theorem put_far {w : World} {a : Addr} {v : Value} {k : Nat} {o : Option Obj} (h : w.heap[k]? = o) (hk : k ≠ a.block) : (w.setCell a v).heap[k]? = o := (Below.heap_setCell w a v k hk).trans h
theorem row_far {w : World} {g : Nat} {cs : Array Value} {k : Nat} {o : Option Obj} (h : w.heap[k]? = o) (hk : k ≠ g) : (w.setRow g cs).heap[k]? = o := (setRow_other w g k cs hk).trans h
end Go.Proofs.YtjbdgndejbiikaaDoor.Hd
/-
  What is said, in a struct's cells; control.silent, gatepostref08.None, both functions that take the less of two numbers: what each returns. No condition but what each states.
-/
-- cut by strips.py
namespace Go.Proofs.YtjbdgndejbiikaaDoor.Ct
open Go.RowKit Go.Proofs.YtjbdgndejbiikaaDoor.Tk Go.Proofs.YtjbdgndejbiikaaDoor.Fd Go.Proofs.YtjbdgndejbiikaaDoor.Hd
set_option linter.unusedVariables false

set_option maxRecDepth 100000 in
theorem silent_any (w : World) : Calls Tryd.prog 26 #[] w fun e w' => e = .returned (.agg #[.bool false, .bool false, .bool false, .bool false, .bool false, .bool false, .bool false, .int .i64 (-1), .int .i64 (-1), .int .i64 (-1), .int .i64 (-1), .int .i64 (-1), .int .i64 (-1)]) ∧ Below w.heap.size w w' := by
  go_enter Tryd.func26, Tryd.ntmps26
  go_wp2_with fail
  refine bodyPost_ret (results_one rfl _ _ w.heap.size 33 _ (0, 0) _ rfl (new_block _ _) Tryd.underlying33 rfl infoCon) rfl ?_
  exact ⟨rfl, (Below.refl _ _).alloc (Nat.le_refl _) _⟩
/-- The less of two numbers, of which one may be unsaid. -/
def leastP (a b : Int) : Int := if a = -1 then b else if b = -1 then a else min a b
theorem leastP_least {a b : Int} (ha : -1 ≤ a) (hb : 0 ≤ b) : leastP a b = least a b := by
  unfold leastP least
  by_cases h1 : a = -1
  · rw [if_pos h1, if_pos (by omega)]
  · rw [if_neg h1, if_neg (by omega)]
    split <;> omega
theorem leastP_unsaid {a : Int} (ha : -1 ≤ a) : leastP a (-1) = a := by
  unfold leastP
  by_cases h1 : a = -1
  · rw [if_pos h1, h1]
  · rw [if_neg h1, if_pos rfl]
theorem leastP_bd {a b : Int} (ha : -1 ≤ a) (hb : -1 ≤ b) : -1 ≤ leastP a b := by unfold leastP; split; exact hb; split <;> omega

theorem leastP_any (a b : Int) (w : World) : Calls Tryd.prog 69 #[.int .i64 a, .int .i64 b] w fun e w' => e = .returned (.int .i64 (leastP a b)) ∧ w = w' := by
  by_cases h1 : a = -1
  · subst h1
    have HV := Lib.hid (show leastP (-1) b = b from rfl)
    go_enter Tryd.func69, Tryd.ntmps69
    go_wp2_with fail
    go_ret
    exact ⟨by rw [HV.out]; rfl, rfl⟩
  · have t1 : (a == -1) = false := by simpa using h1
    by_cases h2 : b = -1
    · subst h2
      have HV := Lib.hid (show leastP a (-1) = a from by unfold leastP; rw [if_neg h1, if_pos rfl])
      go_enter Tryd.func69, Tryd.ntmps69
      go_wp2_with fail
      go_ret
      exact ⟨by rw [HV.out]; rfl, rfl⟩
    · have t2 : (b == -1) = false := by simpa using h2
      have HV := Lib.hid (show leastP a b = min a b from by unfold leastP; rw [if_neg h1, if_neg h2])
      go_enter Tryd.func69, Tryd.ntmps69
      go_wp2_with fail
      all_goals
        refine bodyPost_ret (results_tmp rfl _ _ _) rfl ?_
        first
          | exact ⟨by rw [HV.out]; rfl, rfl⟩
          | exact ⟨by rw [HV.out, Int.min_eq_right (by omega)]; rfl, rfl⟩
          | exact ⟨by rw [HV.out, Int.min_eq_left (by omega)]; rfl, rfl⟩
/-! Closures: what a directive does. -/
theorem flag1_any (g i b : Nat) (x : Value) (v : ByteArray) (has : Bool) (w : World) (hb : w.heap[b]? = some (.cells #[.pointer (some ⟨g, i, none⟩)] 110 (0, 0))) (hx : w.cell? ⟨g, i, none⟩ = some x) (hf : w.frozen? ⟨g, i, none⟩ = false) :
    Calls Tryd.prog 67 #[.string v, .bool has, .pointer (some ⟨b, 0, none⟩)] w fun e w' => e = .returned (.tuple #[]) ∧ PutAt w w' ⟨g, i, none⟩ (.bool true) := by
  have c1 : w.cell? ⟨b, 0, none⟩ = some (.pointer (some ⟨g, i, none⟩)) := by rw [Lib.cell_of_heap hb]; rfl
  clear hb
  go_enter Tryd.func67, Tryd.ntmps67
  go_wp2
  go_end0
  exact ⟨rfl, rfl, rfl, rfl, rfl⟩
end Go.Proofs.YtjbdgndejbiikaaDoor.Ct
