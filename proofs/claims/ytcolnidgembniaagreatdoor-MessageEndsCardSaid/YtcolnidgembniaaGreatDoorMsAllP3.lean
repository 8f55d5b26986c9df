/-
  Texts that the laws' proofs stand on, 10 of them in one file; each one's head says what it proves and under which condition.
-/
import Derived.Test.YtcolnidgembniaaGreatDoorMsAllP1
import Derived.Lib.SmallJoins
import Derived.SizedLaws
import Derived.ProofKit
import Derived.ChangeArms
import Derived.OpenShut
import Derived.Test.YtcolnidgembniaaGreatDoorMsAllP2
import Derived.Laws.CopyOwn
import Derived.Deep.AppendLies
import Derived.Shelf.LaysM
import Derived.Shelf.Bytes.SlSmallAll
import Derived.Shelf.Bytes.Small
import Derived.Shelf.Bytes.IndexByte
import Derived.Shelf.Spec.SlicesGrow
import Derived.Test.YtcolnidgembniaaGreatDoorProg
import Derived.BigQuiet
import Derived.Deep.DeepCutAuto
import Derived.Deep.RegionWith
/-
  A slice of bytes, as it reads; one that came in. Condition: what the form says of what is read.
-/
namespace Go.Proofs.YtcolnidgembniaaGreatDoor.Hd
open Go.RowKit Go.Proofs.YtcolnidgembniaaGreatDoor.Tk Go.ChangeShapes Go.WideShapes
set_option linter.unusedVariables false

/-- A slice value that reads as these bytes. -/
def Byts (w : World) (v : Value) (l : Bs) : Prop :=
  (l = [] ∧ ∃ a cap, v = .slice a 0 cap) ∨ ∃ b off cap, v = .slice (some ⟨b, off, none⟩) l.length cap ∧ l.length ≤ cap ∧ cap ≤ maxLen ∧ b < w.heap.size ∧ Holds w b off l
theorem holds_below {B : Nat} {w w' : World} {b off : Nat} {l : Bs} (h : Holds w b off l) (hb : Below B w w') (hB : b < B) : Holds w' b off l := fun j hj => by
  rw [hb.cell (p := ⟨b, off + j, none⟩) hB]; exact h j hj
theorem Byts.below {B : Nat} {w w' : World} {v : Value} {l : Bs} (h : Byts w v l) (hb : Below B w w') (hB : w.heap.size ≤ B) : Byts w' v l := by
  rcases h with h | ⟨b, off, cap, hv, hc, hm, hlt, hh⟩
  · exact .inl h
  · exact .inr ⟨b, off, cap, hv, hc, hm, Nat.lt_of_lt_of_le hlt hb.size, holds_below hh hb (by omega)⟩
theorem Byts.shape {w : World} {v : Value} {l : Bs} (h : Byts w v l) : ∃ a cap, v = .slice a l.length cap := by
  rcases h with ⟨rfl, a, cap, hv⟩ | ⟨b, off, cap, hv, _⟩
  · exact ⟨a, cap, hv⟩
  · exact ⟨_, cap, hv⟩

theorem cellsByte : Tryz.prog.cellsOf 5 = 1 := by kernel_rfl
theorem byte_back {n : Int} (h : (Lit.int .u8 n).wf = true) : (((UInt8.ofNat n.toNat).toNat : Nat) : Int) = n := by
  have h2 : 0 ≤ n ∧ n < 256 := by
    have e1 : IntKind.u8.min = 0 := rfl
    have e2 : IntKind.u8.max = 255 := rfl
    simp [Lit.wf, e1, e2] at h
    omega
  rw [UInt8.toNat_ofNat']
  omega
set_option maxRecDepth 100000 in
theorem open_byts {H : Type} {enc : TypeId × Value → H} {W : World} {base : Nat} {v : Value} {d : DataW H} {p : List MemPlace} (hv : Value.okWide Tryz.prog W .any base 22 v)
    (h : DataW.Trod enc Tryz.prog W 0 (fun _ => true) true 22 v d p) :
    ∃ l : Bs, Byts W v l ∧ l.length ≤ maxLen := by
  obtain ⟨a0, len0, cap0, rfl⟩ := okWide_slice Tryz.underlying22 hv
  obtain ⟨fuel, hf⟩ := h
  rcases open_ints Tryz.underlying22 Tryz.underlying5 cellsByte hf with ⟨hcs, _⟩ | ⟨a, len, cap, zs, hcs, _, hl, hm, hz, hx, hcell, hwz⟩
  · simp [Value.cells] at hcs
    obtain ⟨rfl, rfl, rfl⟩ := hcs
    exact ⟨[], .inl ⟨rfl, _, _, rfl⟩, by simp⟩
  · simp [Value.cells] at hcs
    obtain ⟨rfl, rfl, rfl⟩ := hcs
    simp only [if_true] at hz
    by_cases h0 : len0 = 0
    · subst h0; exact ⟨[], .inl ⟨rfl, _, _, rfl⟩, by simp⟩
    · obtain ⟨b, off, spot⟩ := a
      have hc0 := hcell 0 (by omega)
      have hspot : spot = none := by simpa [Addr.add] using World.cell?_spot hc0
      subst hspot
      have hlen : ((zs.take len0).map fun n => UInt8.ofNat n.toNat).length = len0 := by simp; omega
      refine ⟨(zs.take len0).map fun n => UInt8.ofNat n.toNat, .inr ⟨b, off, cap0, by rw [hlen], by rw [hlen]; exact hl, hm, ?_, fun j hj => ?_⟩, by rw [hlen]; omega⟩
      · rw [Addr.add_lit] at hc0
        exact World.block_lt_of_cell? W _ hc0
      · rw [hlen] at hj
        have hcj := hcell j (by omega)
        rw [Addr.add_lit] at hcj
        have hjz : j < zs.length := by omega
        have hw := hwz zs[j] (List.getElem_mem hjz)
        have e : zs.getD j 0 = zs[j] := by simp [List.getD, List.getElem?_eq_getElem hjz]
        rw [hcj, e]
        simp only [List.getElem_map, List.getElem_take]
        rw [byte_back hw]
end Go.Proofs.YtcolnidgembniaaGreatDoor.Hd
/-
  Worlds that turned within some blocks alone. No condition.
-/
namespace Go.Proofs.YtcolnidgembniaaGreatDoor.Hd
open Go.RowKit Go.Proofs.YtcolnidgembniaaGreatDoor.Tk Go.Proofs.YtcolnidgembniaaGreatDoor.Fd
set_option linter.unusedVariables false

/-- But for the blocks of O, and new ones, w' is as w was. -/
structure Chg (O : Nat → Prop) (w w' : World) : Prop where
  os : w'.os = w.os
  tape : w'.tape = w.tape
  output : w'.output = w.output
  size : w.heap.size ≤ w'.heap.size
  block : ∀ k, k < w.heap.size → ¬ O k → w'.heap[k]? = w.heap[k]?
theorem Chg.refl (O : Nat → Prop) (w : World) : Chg O w w := ⟨rfl, rfl, rfl, Nat.le_refl _, fun _ _ _ => rfl⟩
theorem Chg.of_below {O : Nat → Prop} {w w' : World} (h : Below w.heap.size w w') : Chg O w w' := ⟨h.os, h.tape, h.output, h.size, fun k hk _ => h.block k hk⟩
theorem Chg.below {O : Nat → Prop} {w w' : World} {B : Nat} (h : Chg O w w') (hO : ∀ k, O k → B ≤ k) (hB : B ≤ w.heap.size) : Below B w w' :=
  ⟨h.os, h.tape, h.output, h.size, fun k hk => h.block k (by omega) (fun ho => by have := hO k ho; omega)⟩
/-- The blocks of O, and those that are new since w. -/
def New (O : Nat → Prop) (w : World) (k : Nat) : Prop := O k ∨ w.heap.size ≤ k
theorem Chg.trans {O O' : Nat → Prop} {a b c : World} (h : Chg O a b) (k : Chg O' b c) (hO : ∀ i, O' i → New O a i) : Chg O a c :=
  ⟨k.os.trans h.os, k.tape.trans h.tape, k.output.trans h.output, Nat.le_trans h.size k.size, fun i hi hn =>
    (k.block i (Nat.lt_of_lt_of_le hi h.size) (fun ho => by rcases hO i ho with h1 | h1; exact hn h1; omega)).trans (h.block i hi hn)⟩
theorem Chg.put {O : Nat → Prop} {a w : World} (h : Chg O a w) (p : Addr) (v : Value) (hp : New O a p.block) : Chg O a (w.setCell p v) :=
  h.trans (O' := fun k => k = p.block) ⟨rfl, rfl, rfl, by simp [World.setCell], fun k hk hn => Below.heap_setCell _ _ _ _ hn⟩ (fun i hi => by subst hi; exact hp)
theorem Chg.row {O : Nat → Prop} {a w : World} (h : Chg O a w) (g : Nat) (cs : Array Value) (hp : New O a g) : Chg O a (w.setRow g cs) :=
  h.trans (O' := fun k => k = g) ⟨rfl, rfl, rfl, by simp [World.setRow], fun k hk hn => setRow_other w g k cs hn⟩ (fun i hi => by subst hi; exact hp)
theorem Chg.grown {O : Nat → Prop} {a w w' : World} {row : Option Nat} (h : Chg O a w) (hg : w.grownBy w' row) (hr : ∀ k, row = some k → New O a k) : Chg O a w' :=
  h.trans (O' := fun k => some k = row) ⟨hg.os, hg.tape, hg.output, hg.size, fun k hk hn => hg.block k hk hn⟩ (fun i hi => hr i hi.symm)
theorem Chg.next {O : Nat → Prop} {a w w' : World} (h : Chg O a w) (hb : Below w.heap.size w w') : Chg O a w' :=
  h.trans (O' := fun _ => False) (Chg.of_below hb) (fun i hi => hi.elim)
theorem Chg.alloc {O : Nat → Prop} {a w : World} (h : Chg O a w) (o : Obj) : Chg O a (w.alloc o) := h.next ((Below.refl _ _).alloc (Nat.le_refl _) o)
theorem Chg.drew {O : Nat → Prop} {a w : World} (h : Chg O a w) : Chg O a w.drew := ⟨h.os, h.tape, h.output, h.size, h.block⟩
theorem Chg.drewN {O : Nat → Prop} {a w : World} (h : Chg O a w) (n : Nat) : Chg O a (w.drewN n) := ⟨h.os, h.tape, h.output, h.size, h.block⟩
theorem Chg.again {O : Nat → Prop} {a b c : World} (h : Chg O a b) (k : Chg (New O a) b c) : Chg O a c := h.trans k (fun _ hi => hi)
theorem new_new {O : Nat → Prop} {a b : World} (hs : a.heap.size ≤ b.heap.size) (i : Nat) (h : New (New O a) b i) : New O a i := by
  rcases h with h | h
  · exact h
  · exact .inr (by omega)
theorem Chg.old {O : Nat → Prop} {w w' : World} (h : Chg O w w') {k : Nat} (ho : ¬ O k) {o : Obj} (e : w.heap[k]? = some o) : w'.heap[k]? = some o := (h.block k (block_lt e) ho).trans e

/-- Bytes as cells. -/
def bys (l : Bs) : List Value := l.map fun c => .int .u8 (c.toNat : Int)
theorem bys_length (l : Bs) : (bys l).length = l.length := by simp [bys]
theorem bys_append (a b : Bs) : bys (a ++ b) = bys a ++ bys b := by simp [bys]
theorem bys_one (l : Bs) : ∀ v ∈ bys l, v.oneCell' = true := by
  intro v hv; obtain ⟨c, _, rfl⟩ := List.mem_map.1 hv; rfl
theorem bys_at (l : Bs) (j : Nat) (h : j < l.length) : (bys l)[j]? = some (.int .u8 (l[j].toNat : Int)) := by simp [bys, h]
/-- Bytes in a row of a call's own. -/
def OwnB (w : World) (v : Value) (l : Bs) : Prop := w.ownsRow 0 5 1 v l.length (bys l)
theorem OwnB.nil (w : World) : OwnB w (.slice none 0 0) [] := World.ownsRow_nil _ _ _ _
/-- A row's fact hangs on its block alone. -/
theorem row_same {w w' : World} {base : Nat} {e : TypeId} {sz : Nat} {v : Value} {n : Nat} {xs : List Value} (h : w.ownsRow base e sz v n xs) (hb : ∀ k, v.ownBlock = some k → w'.heap[k]? = w.heap[k]?) : w'.ownsRow base e sz v n xs := by
  refine ⟨h.1, ?_⟩
  rcases h.2 with h2 | ⟨g, cap, cur, hv, hg, hh, r⟩
  · exact .inl h2
  · exact .inr ⟨g, cap, cur, hv, hg, (hb g (by rw [hv]; rfl)).trans hh, r⟩
theorem row_chg {O O' : Nat → Prop} {w w' : World} {base : Nat} {e : TypeId} {sz : Nat} {v : Value} {n : Nat} {xs : List Value} (h : w.ownsRow base e sz v n xs) (hc : Chg O' w w') (ho : ∀ k, v.ownBlock = some k → O k) (hd : ∀ k, O k → ¬ O' k) : w'.ownsRow base e sz v n xs :=
  row_same h fun k hk => hc.block k (World.ownsRow.lt h k hk).2 (hd k (ho k hk))
theorem OwnB.holds {w : World} {v : Value} {l : Bs} (h : OwnB w v l) {g cap : Nat} (hv : v = .slice (some ⟨g, 0, none⟩) l.length cap) : Holds w g 0 l := by
  subst hv
  intro j hj
  rw [Nat.zero_add, World.ownsRow.cellAt h j (by omega), bys_at l j hj]
theorem OwnB.shape {w : World} {v : Value} {l : Bs} (h : OwnB w v l) : ∃ a cap, v = .slice a l.length cap := by
  rcases h.2 with ⟨hv, h0⟩ | ⟨g, cap, cur, hv, _⟩
  · rw [h0]; exact ⟨none, 0, hv⟩
  · exact ⟨_, cap, hv⟩
/-- The type of a row's block. -/
theorem row_type {w : World} {base : Nat} {e : TypeId} {sz : Nat} {v : Value} {n : Nat} {xs : List Value} (h : w.ownsRow base e sz v n xs) {k : Nat} (hk : v.ownBlock = some k) : ∃ cur, w.heap[k]? = some (.cells cur e (0, 0)) := by
  rcases h.2 with ⟨hv, _⟩ | ⟨g, cap, cur, hv, _, hh, _⟩
  · rw [hv] at hk; cases hk
  · rw [hv] at hk; injection hk with hk; subst hk; exact ⟨cur, hh⟩
/-- Blocks of unlike types are unlike. -/
theorem apart_of {w : World} {a b : Nat} {x y : Array Value} {s t : TypeId} {fr fs : Nat × Nat} (ha : w.heap[a]? = some (.cells x s fr)) (hb : w.heap[b]? = some (.cells y t fs)) (h : s ≠ t) : a ≠ b := by
  intro e; subst e; rw [ha] at hb; injection hb with hb; injection hb with _ h2; exact h h2
theorem put_far {w : World} {a : Addr} {v : Value} {k : Nat} {o : Option Obj} (h : w.heap[k]? = o) (hk : k ≠ a.block) : (w.setCell a v).heap[k]? = o := (Below.heap_setCell w a v k hk).trans h
theorem row_far {w : World} {g : Nat} {cs : Array Value} {k : Nat} {o : Option Obj} (h : w.heap[k]? = o) (hk : k ≠ g) : (w.setRow g cs).heap[k]? = o := (setRow_other w g k cs hk).trans h
end Go.Proofs.YtcolnidgembniaaGreatDoor.Hd
/-
  A decoder in memory, and what framing.New returns. No condition.
-/
namespace Go.Proofs.YtcolnidgembniaaGreatDoor.Fr
open Go.RowKit Go.Proofs.YtcolnidgembniaaGreatDoor.Tk Go.Proofs.YtcolnidgembniaaGreatDoor.Fd Go.Proofs.YtcolnidgembniaaGreatDoor.Hd
set_option linter.unusedVariables false

/-- A decoder's cells. -/
def dc (s l r : Nat) (v : Value) (e : Nat) : Array Value := #[.int .i64 (s : Int), .int .i64 (l : Int), .int .i64 (r : Int), v, .int .i64 (e : Int)]
/-- The numbers that a decoder keeps: its state, what is left, the room, the error. -/
def num1 : St → Nat
  | .len _ => 1
  | .opn _ => 2
  | .size _ _ => 3
  | .chunk _ _ => 4
  | .gap _ _ => 5
  | .trail _ _ => 6
  | _ => 7
def num2 : St → Nat
  | .len n => n
  | .opn n => n
  | .chunk _ n => n
  | _ => 0
def num3 : St → Nat
  | .size m _ => m
  | .chunk m _ => m
  | .gap m _ => m
  | .trail m _ => m
  | _ => 0
def text : St → Bs
  | .size _ l => l
  | .gap _ l => l
  | .trail _ l => l
  | _ => []
/-- May it have a line's memory? -/
def lined : St → Bool
  | .size _ _ => true
  | .chunk _ _ => true
  | .gap _ _ => true
  | .trail _ _ => true
  | _ => false
/-- The decoder at block g: its own memory is within O. -/
structure At (w : World) (O : Nat → Prop) (g : Nat) (v : Value) (s : St) : Prop where
  blk : w.heap[g]? = some (.cells (dc (num1 s) (num2 s) (num3 s) v (errOf s)) 149 (0, 0))
  own : OwnB w v (text s)
  non : lined s = false → v = .slice none 0 0
  og : O g
  ov : ∀ k, v.ownBlock = some k → O k
def Dec (w : World) (O : Nat → Prop) (g : Nat) (s : St) : Prop := ∃ v, At w O g v s
theorem Dec.mono {w : World} {O O' : Nat → Prop} {g : Nat} {s : St} (h : Dec w O g s) (hO : ∀ k, O k → O' k) : Dec w O' g s := by
  obtain ⟨v, h⟩ := h; exact ⟨v, h.blk, h.own, h.non, hO _ h.og, fun k hk => hO _ (h.ov k hk)⟩
/-- What turns other blocks alone keeps a decoder. -/
theorem Dec.kept {w w' : World} {O O' : Nat → Prop} {g : Nat} {s : St} (h : Dec w O g s) (hc : Chg O' w w') (hd : ∀ k, O k → ¬ O' k) : Dec w' O g s := by
  obtain ⟨v, h⟩ := h; exact ⟨v, hc.old (hd _ h.og) h.blk, row_chg h.own hc h.ov hd, h.non, h.og, h.ov⟩
theorem Dec.below {w w' : World} {O : Nat → Prop} {g : Nat} {s : St} (h : Dec w O g s) (hb : Below w.heap.size w w') : Dec w' O g s :=
  h.kept (O' := fun _ => False) (Chg.of_below hb) (fun _ _ hf => hf)
/-- A decoder's blocks are there. -/
theorem Dec.bound {w : World} {O : Nat → Prop} {g : Nat} {s : St} (h : Dec w O g s) : Dec w (fun k => O k ∧ k < w.heap.size) g s := by
  obtain ⟨v, h⟩ := h; exact ⟨v, h.blk, h.own, h.non, ⟨h.og, block_lt h.blk⟩, fun k hk => ⟨h.ov k hk, (World.ownsRow.lt h.own k hk).2⟩⟩
/-! A decoder's cells. -/
section
variable {w : World} {g s l r e : Nat} {v : Value}
theorem dc0 (h : w.heap[g]? = some (.cells (dc s l r v e) 149 (0, 0))) : w.cell? ⟨g, 0, none⟩ = some (.int .i64 (s : Int)) := by rw [Lib.cell_of_heap h]; rfl
theorem dc1 (h : w.heap[g]? = some (.cells (dc s l r v e) 149 (0, 0))) : w.cell? ⟨g, 1, none⟩ = some (.int .i64 (l : Int)) := by rw [Lib.cell_of_heap h]; rfl
theorem dc2 (h : w.heap[g]? = some (.cells (dc s l r v e) 149 (0, 0))) : w.cell? ⟨g, 2, none⟩ = some (.int .i64 (r : Int)) := by rw [Lib.cell_of_heap h]; rfl
theorem dc3 (h : w.heap[g]? = some (.cells (dc s l r v e) 149 (0, 0))) : w.cell? ⟨g, 3, none⟩ = some v := by rw [Lib.cell_of_heap h]; rfl
theorem dc4 (h : w.heap[g]? = some (.cells (dc s l r v e) 149 (0, 0))) : w.cell? ⟨g, 4, none⟩ = some (.int .i64 (e : Int)) := by rw [Lib.cell_of_heap h]; rfl
theorem dc_put0 (h : w.heap[g]? = some (.cells (dc s l r v e) 149 (0, 0))) (s' : Nat) : (w.setCell ⟨g, 0, none⟩ (.int .i64 (s' : Int))).heap[g]? = some (.cells (dc s' l r v e) 149 (0, 0)) := heap_put h 0 _
theorem dc_put1 (h : w.heap[g]? = some (.cells (dc s l r v e) 149 (0, 0))) (l' : Nat) : (w.setCell ⟨g, 1, none⟩ (.int .i64 (l' : Int))).heap[g]? = some (.cells (dc s l' r v e) 149 (0, 0)) := heap_put h 1 _
theorem dc_put2 (h : w.heap[g]? = some (.cells (dc s l r v e) 149 (0, 0))) (r' : Nat) : (w.setCell ⟨g, 2, none⟩ (.int .i64 (r' : Int))).heap[g]? = some (.cells (dc s l r' v e) 149 (0, 0)) := heap_put h 2 _
theorem dc_put3 (h : w.heap[g]? = some (.cells (dc s l r v e) 149 (0, 0))) (v' : Value) : (w.setCell ⟨g, 3, none⟩ v').heap[g]? = some (.cells (dc s l r v' e) 149 (0, 0)) := heap_put h 3 v'
theorem dc_put4 (h : w.heap[g]? = some (.cells (dc s l r v e) 149 (0, 0))) (e' : Nat) : (w.setCell ⟨g, 4, none⟩ (.int .i64 (e' : Int))).heap[g]? = some (.cells (dc s l r v e') 149 (0, 0)) := heap_put h 4 _
end
/-- What New returns. -/
def NewPost (k n : Int) (w : World) (e : Ending) (w' : World) : Prop :=
  match made k n with
  | none => e = .returned (.tuple #[.pointer none, .int .i64 (madeErr k n : Nat)]) ∧ w' = w
  | some s => ∃ g, e = .returned (.tuple #[.pointer (some ⟨g, 0, none⟩), .int .i64 0]) ∧ Dec w' (fun k => w.heap.size ≤ k) g s ∧ Below w.heap.size w w'
theorem new_dec (w : World) (s : St) (hs : text s = []) : Dec (w.alloc (.cells (dc (num1 s) (num2 s) (num3 s) (.slice none 0 0) (errOf s)) 149)) (fun k => w.heap.size ≤ k) w.heap.size s :=
  ⟨.slice none 0 0, new_block _ _, by rw [hs]; exact OwnB.nil _, fun _ => rfl, Nat.le_refl _, fun k hk => by cases hk⟩
end Go.Proofs.YtcolnidgembniaaGreatDoor.Fr
/-
  A decoder's fail, made, whole and End, and New: what each returns and leaves. No condition.
-/
namespace Go.Proofs.YtcolnidgembniaaGreatDoor.Fr
open Go.RowKit Go.Proofs.YtcolnidgembniaaGreatDoor.Tk Go.Proofs.YtcolnidgembniaaGreatDoor.Fd Go.Proofs.YtcolnidgembniaaGreatDoor.Hd
set_option linter.unusedVariables false

theorem put5 {w : World} {g : Nat} {t : TypeId} {fr : Nat × Nat} {x0 x1 x2 x3 x4 : Value} (h0 : w.heap[g]? = some (.cells #[x0, x1, x2, x3, x4] t fr)) (a0 a1 a2 a3 a4 : Value) :
    (((((w.setCell ⟨g, 0, none⟩ a0).setCell ⟨g, 1, none⟩ a1).setCell ⟨g, 2, none⟩ a2).setCell ⟨g, 3, none⟩ a3).setCell ⟨g, 4, none⟩ a4).heap[g]? = some (.cells #[a0, a1, a2, a3, a4] t fr) :=
  heap_put (heap_put (heap_put (heap_put (heap_put h0 0 a0) 1 a1) 2 a2) 3 a3) 4 a4
theorem chg5 (w : World) (g : Nat) (a0 a1 a2 a3 a4 : Value) : Chg (fun k => k = g) w (((((w.setCell ⟨g, 0, none⟩ a0).setCell ⟨g, 1, none⟩ a1).setCell ⟨g, 2, none⟩ a2).setCell ⟨g, 3, none⟩ a3).setCell ⟨g, 4, none⟩ a4) :=
  (((((Chg.refl (fun k => k = g) w).put ⟨g, 0, none⟩ a0 (.inl rfl)).put ⟨g, 1, none⟩ a1 (.inl rfl)).put ⟨g, 2, none⟩ a2 (.inl rfl)).put ⟨g, 3, none⟩ a3 (.inl rfl)).put ⟨g, 4, none⟩ a4 (.inl rfl)
theorem dec_over {w : World} {O : Nat → Prop} {g : Nat} {s : St} (ho : over s = true) (hg : O g) (h : w.heap[g]? = some (.cells (dc 7 0 0 (.slice none 0 0) (errOf s)) 149 (0, 0))) : Dec w O g s := by
  have e1 : num1 s = 7 ∧ num2 s = 0 ∧ num3 s = 0 ∧ text s = [] := by cases s <;> first | exact ⟨rfl, rfl, rfl, rfl⟩ | cases ho
  obtain ⟨h1, h2, h3, h4⟩ := e1
  exact ⟨.slice none 0 0, by rw [h1, h2, h3]; exact h, by rw [h4]; exact OwnB.nil _, fun _ => rfl, hg, fun k hk => by cases hk⟩
set_option maxRecDepth 100000 in
set_option maxHeartbeats 4000000 in
theorem fail_any (g s l r : Nat) (v : Value) (e1 e0 : Nat) (w : World) (h : w.heap[g]? = some (.cells (dc s l r v e1) 149 (0, 0))) :
    Calls Tryz.prog 88 #[.pointer (some ⟨g, 0, none⟩), .int .i64 (e0 : Int)] w fun e w' => e = .returned (.tuple #[]) ∧ w'.heap[g]? = some (.cells (dc 7 0 0 (.slice none 0 0) e0) 149 (0, 0)) ∧ Chg (fun k => k = g) w w' := by
  have c0 := dc0 h
  have c1 := dc1 h
  have c2 := dc2 h
  have c3 := dc3 h
  have c4 := dc4 h
  have f0 := free h 0
  have f1 := free h 1
  have f2 := free h 2
  have f3 := free h 3
  have f4 := free h 4
  have HB := Lib.hid h
  clear h
  go_enter Tryz.func88, Tryz.ntmps88
  go_wp2_with fail
  go_end0
  exact ⟨rfl, put5 HB.out _ _ _ _ _, chg5 _ _ _ _ _ _ _⟩
set_option maxRecDepth 100000 in
set_option maxHeartbeats 4000000 in
theorem made_yes (g s : Nat) (w : World) (hs : 0 < s) (h : w.cell? ⟨g, 0, none⟩ = some (.int .i64 (s : Int))) : Calls Tryz.prog 81 #[.pointer (some ⟨g, 0, none⟩)] w fun e w' => e = .returned (.bool true) ∧ w = w' := by
  have hne : ((s : Int) != 0) = true := by simp; omega
  go_enter Tryz.func81, Tryz.ntmps81
  go_wp2_with fail
  go_ret
  exact ⟨rfl, rfl⟩
set_option maxRecDepth 100000 in
set_option maxHeartbeats 4000000 in
theorem whole_any (g s e : Nat) (w : World) (h : w.cell? ⟨g, 0, none⟩ = some (.int .i64 (s : Int))) (h4 : w.cell? ⟨g, 4, none⟩ = some (.int .i64 (e : Int))) : Calls Tryz.prog 87 #[.pointer (some ⟨g, 0, none⟩)] w fun r w' => r = .returned (.bool (decide (s = 7 ∧ e = 0))) ∧ w = w' := by
  by_cases h7 : s = 7
  · subst h7
    have h' : w.cell? ⟨g, 0, none⟩ = some (.int .i64 7) := h
    clear h
    by_cases h0 : e = 0
    · subst h0
      go_enter Tryz.func87, Tryz.ntmps87
      go_wp2_with fail
      go_ret
      exact ⟨rfl, rfl⟩
    · have hX := Lib.hid (show decide (7 = 7 ∧ e = 0) = false from by simp [h0])
      rw [hX.out]
      have hne : ((e : Int) == 0) = false := by simp; omega
      clear hX
      go_enter Tryz.func87, Tryz.ntmps87
      go_wp2_with fail
      go_ret
      exact ⟨rfl, rfl⟩
  · have hX := Lib.hid (show decide (s = 7 ∧ e = 0) = false from by simp [h7])
    rw [hX.out]
    have hne : ((s : Int) == 7) = false := by simp; omega
    clear hX
    go_enter Tryz.func87, Tryz.ntmps87
    go_wp2_with fail
    go_ret
    exact ⟨rfl, rfl⟩
set_option maxRecDepth 100000 in
set_option maxHeartbeats 4000000 in
theorem new_none (k n : Int) (w : World) (h : made k n = none) : Calls Tryz.prog 48 #[.int .i64 k, .int .i64 n] w (NewPost k n w) := by
  have HP := Lib.hid (fun (e : Ending) => show e = .returned (.tuple #[.pointer none, .int .i64 (madeErr k n : Nat)]) → NewPost k n w e w from fun he => by unfold NewPost; rw [h]; exact ⟨he, rfl⟩)
  by_cases h1 : k < 0 ∨ 3 < k ∨ n < 0 ∨ (0 < n ∧ k ≠ 1)
  · have HE := Lib.hid (show madeErr k n = 2 from by unfold madeErr; rw [if_pos h1])
    clear h
    go_enter Tryz.func48, Tryz.ntmps48
    by_cases ha : k < 0
    · clear h1
      go_wp2_with fail
      go_ret2
      exact HP.out _ (by rw [HE.out]; rfl)
    · by_cases hb : 3 < k
      · clear h1
        go_wp2_with fail
        go_ret2
        exact HP.out _ (by rw [HE.out]; rfl)
      · by_cases hc : n < 0
        · clear h1
          go_wp2_with fail
          go_ret2
          exact HP.out _ (by rw [HE.out]; rfl)
        · have hd : 0 < n := by omega
          have he : (k != 1) = true := by simp; omega
          clear h1
          go_wp2_with fail
          go_ret2
          exact HP.out _ (by rw [HE.out]; rfl)
  · have h2 : 1048576 < n := by unfold made at h; rcases Int.lt_or_le 1048576 n with h3 | h3; exact h3; rw [if_neg (by omega)] at h; split at h <;> (try split at h) <;> (try split at h) <;> cases h
    have HE := Lib.hid (show madeErr k n = 3 from by unfold madeErr; rw [if_neg h1, if_pos h2])
    clear h
    have h3 : k = 1 := by omega
    subst h3
    go_enter Tryz.func48, Tryz.ntmps48
    go_wp2_with fail
    go_ret2
    exact HP.out _ (by rw [HE.out]; rfl)
set_option maxRecDepth 100000 in
set_option maxHeartbeats 4000000 in
theorem new_some (k n : Int) (s : St) (w : World) (h : made k n = some s) : Calls Tryz.prog 48 #[.int .i64 k, .int .i64 n] w (NewPost k n w) := by
  have HP := Lib.hid (fun (e : Ending) (w' : World) (g : Nat) (he : e = .returned (.tuple #[.pointer (some ⟨g, 0, none⟩), .int .i64 0])) (hd : Dec w' (fun k => w.heap.size ≤ k) g s) (hb : Below w.heap.size w w') => show NewPost k n w e w' from by unfold NewPost; rw [h]; exact ⟨g, he, hd, hb⟩)
  have HA := Lib.hid (fun X => (Below.refl w.heap.size w).alloc (Nat.le_refl _) X)
  have hD := new_dec w s
  unfold made at h
  split at h
  · cases h
  rename_i h1
  split at h
  · cases h
    have HD := Lib.hid (hD rfl)
    rename_i h2
    subst h2
    have hn : n = 0 := by omega
    subst hn
    clear hD h1
    go_enter Tryz.func48, Tryz.ntmps48
    go_wp2_with fail
    go_ret2
    exact HP.out _ _ _ rfl HD.out (HA.out _)
  · split at h
    · cases h
      have HD := Lib.hid (hD rfl)
      rename_i _ h2
      subst h2
      have hn : n = 0 := by omega
      subst hn
      clear hD h1
      go_enter Tryz.func48, Tryz.ntmps48
      go_wp2_with fail
      go_ret2
      exact HP.out _ _ _ rfl HD.out (HA.out _)
    · split at h
      · cases h
        have hk : k = 1 := by omega
        subst hk
        obtain ⟨m, rfl⟩ : ∃ m : Nat, n = (m : Int) := ⟨n.toNat, by omega⟩
        have HD := Lib.hid (hD rfl)
        have hn0 : 0 < m := by omega
        have hn1 : m ≤ 1048576 := by omega
        rw [Int.toNat_natCast] at HP HD
        clear hD h1
        go_enter Tryz.func48, Tryz.ntmps48
        go_wp2_with fail
        go_ret2
        exact HP.out _ _ _ rfl HD.out (HA.out _)
      · cases h
        have HD := Lib.hid (hD rfl)
        have hn : n = 0 := by omega
        subst hn
        have hk : k = 0 ∨ k = 1 := by omega
        clear hD h1
        go_enter Tryz.func48, Tryz.ntmps48
        rcases hk with rfl | rfl
        all_goals
          go_wp2_with fail
          go_ret2
          exact HP.out _ _ _ rfl HD.out (HA.out _)
theorem new_any (k n : Int) (w : World) : Calls Tryz.prog 48 #[.int .i64 k, .int .i64 n] w (NewPost k n w) := by
  cases h : made k n with
  | none => exact new_none k n w h
  | some s => exact new_some k n s w h
end Go.Proofs.YtcolnidgembniaaGreatDoor.Fr
/-
  The librarys contracts of bytes.IndexByte, bytes.TrimSuffix and slices.Grow, at this translation: each one application. No condition but what each states.
-/
namespace Go.Proofs.YtcolnidgembniaaGreatDoor.Ln
open Go.Shelf Go.RowKit
def laysnb140_ren : Go.Shelf.Ren := ⟨fun | 140 => 114 | 117 => 126 | 115 => 133 | n => n, fun | 37 => 22 | 4 => 4 | 3 => 3 | 9 => 9 | 5 => 5 | n => n, fun | n => n⟩
theorem laysnb140 : Go.Proofs.Lays.nb140 Tryz.prog laysnb140_ren := {
  mixed := by kernel_rfl
  f115 := Tryz.func133.trans (congrArg some (by kernel_rfl))
  f117 := Tryz.func126.trans (congrArg some (by kernel_rfl))
  f140 := Tryz.func114.trans (congrArg some (by kernel_rfl))
  t3 := Tryz.underlying3
  a3 := Tryz.isAgg3
  z3 := Tryz.sizeOf3
  v3 := Tryz.zeroValue3
  t4 := Tryz.underlying4
  a4 := Tryz.isAgg4
  z4 := Tryz.sizeOf4
  v4 := Tryz.zeroValue4
  t9 := Tryz.underlying9
  a9 := Tryz.isAgg9
  z9 := Tryz.sizeOf9
  v9 := Tryz.zeroValue9
  t37 := Tryz.underlying22
  a37 := Tryz.isAgg22
  z37 := Tryz.sizeOf22
  v37 := Tryz.zeroValue22
  t5 := Tryz.underlying5
  a5 := Tryz.isAgg5
  z5 := Tryz.sizeOf5
  v5 := Tryz.zeroValue5 }
theorem bytes_TrimSuffix_all (p1 p2 : Option Addr) (n c m d : Nat) (xs ys : List Int) (w : World) (hx : xs.length = n) (hy : ys.length = m) (hnc : n ≤ c) (hbig : n ≤ 9223372036854775807) (h1 : Lib.BytesIn w p1 n xs) (h2 : Lib.BytesIn w p2 m ys) :
    Calls Tryz.prog 114 #[.slice p1 n c, .slice p2 m d] w fun e w' => e = .returned (Lib.trimSuffixV p1 n c xs ys) ∧ w' = w := Any.bytes_TrimSuffix_all laysnb140 p1 p2 n c m d xs ys w hx hy hnc hbig h1 h2
def lays187_ren : Go.Shelf.Ren := ⟨fun | 187 => 77 | 255 => 112 | n => n, fun | 37 => 22 | 5 => 5 | 3 => 3 | n => n, fun | n => n⟩
theorem lays187 : Go.Proofs.Lays.n187 Tryz.prog lays187_ren := {
  mixed := by kernel_rfl
  f187 := Tryz.func77.trans (congrArg some (by kernel_rfl))
  f255 := Tryz.func112.trans (congrArg some (by kernel_rfl))
  t3 := Tryz.underlying3
  a3 := Tryz.isAgg3
  z3 := Tryz.sizeOf3
  v3 := Tryz.zeroValue3
  t5 := Tryz.underlying5
  a5 := Tryz.isAgg5
  z5 := Tryz.sizeOf5
  v5 := Tryz.zeroValue5
  t37 := Tryz.underlying22
  a37 := Tryz.isAgg22
  z37 := Tryz.sizeOf22
  v37 := Tryz.zeroValue22 }
theorem bytes_IndexByte (b o n c : Nat) (xs : List Int) (cv : Int) (w : World) (hx : xs.length = n) (hc : ∀ i, i < n → w.cell? ⟨b, o + i, none⟩ = some (.int .u8 (xs.getD i 0))) :
    Calls Tryz.prog 77 #[.slice (some ⟨b, o, none⟩) n c, .int .u8 cv] w fun e w' => e = .returned (.int .i64 (Lib.indexByte (Lib.bytesOf xs) cv.toNat.toUInt8)) ∧ w' = w := Any.bytes_IndexByte lays187 b o n c xs cv w hx hc
theorem bytes_IndexByte_nil (cv : Int) (w : World) :
    Calls Tryz.prog 77 #[.slice none 0 0, .int .u8 cv] w fun e w' => e = .returned (.int .i64 (-1)) ∧ w' = w := Any.bytes_IndexByte_nil lays187 cv w
def laysGrow_ren : Go.Shelf.Ren := ⟨fun | 4 => 113 | n => n, fun | 22 => 22 | 25 => 5 | 3 => 3 | 4 => 4 | 9 => 9 | 20 => 20 | 0 => 0 | n => n, fun | n => n⟩
theorem laysGrow : Go.Proofs.Lays8.n4 Tryz.prog laysGrow_ren := {
  mixed := by kernel_rfl
  f4 := ⟨Tryz.f113.name, by decide, Tryz.func113.trans (congrArg some (by kernel_rfl))⟩
  t0 := Tryz.underlying0
  a0 := Tryz.isAgg0
  z0 := Tryz.sizeOf0
  v0 := Tryz.zeroValue0
  t3 := Tryz.underlying3
  a3 := Tryz.isAgg3
  z3 := Tryz.sizeOf3
  v3 := Tryz.zeroValue3
  t4 := Tryz.underlying4
  a4 := Tryz.isAgg4
  z4 := Tryz.sizeOf4
  v4 := Tryz.zeroValue4
  t9 := Tryz.underlying9
  a9 := Tryz.isAgg9
  z9 := Tryz.sizeOf9
  v9 := Tryz.zeroValue9
  t20 := Tryz.underlying20
  a20 := Tryz.isAgg20
  z20 := Tryz.sizeOf20
  v20 := Tryz.zeroValue20
  t22 := Tryz.underlying22
  a22 := Tryz.isAgg22
  z22 := Tryz.sizeOf22
  v22 := Tryz.zeroValue22 }
theorem slices_Grow_room (base : Option Addr) (l c n : Nat) (w : World) (hlc : l ≤ c) (hc63 : c ≤ 9223372036854775807) (hn63 : n ≤ 9223372036854775807) (hroom : l + n ≤ c) :
    Calls Tryz.prog 113 #[.slice base l c, .int .i64 n] w fun e w' => e = .returned (.slice base l c) ∧ w' = w := Any8.slices_Grow_room laysGrow base l c n w hlc hc63 hn63 hroom
end Go.Proofs.YtcolnidgembniaaGreatDoor.Ln
/-
  slices.Grow at bytes: what it leaves. Condition: at most 2^40 bytes.
-/
namespace Go.Proofs.YtcolnidgembniaaGreatDoor.Hd
open Go.RowKit Go.Proofs.YtcolnidgembniaaGreatDoor.Tk Go.Proofs.YtcolnidgembniaaGreatDoor.Fd
set_option linter.unusedVariables false

theorem infoByte : (Tryz.prog.info? 5).map (·.size) = some 1 := by kernel_rfl
theorem infoByte3 : (Tryz.prog.info? 5).map (fun i => (i.zero, i.size, i.bytes)) = some (some (.int .u8 0), 1, 1) := by kernel_rfl
/-- A row with room: its block, its cells. -/
structure RowB (w : World) (q C : Nat) (cur : Array Value) (l : Bs) (m : Nat) : Prop where
  blk : w.heap[q]? = some (.cells cur 5 (0, 0))
  size : cur.size = C
  cap : C ≤ maxLen
  room : l.length + m ≤ C
  here : cur.toList.take l.length = bys l
def GrowPost (w : World) (lv : Value) (l : Bs) (m : Nat) (e : Ending) (w' : World) : Prop :=
  ∃ q C cur, e = .returned (.slice (some ⟨q, 0, none⟩) l.length C) ∧ RowB w' q C cur l m ∧ Below w.heap.size w w' ∧ (lv.ownBlock = some q ∨ q = w.heap.size)
theorem grown_size (w : World) (cs : List Value) (l n c : Nat) (t : TypeId) (z : Array Value) (hz : z.size = 1) (hc : cs.length = c) (h : c < l + n) :
    (cs.toArray ++ Builtin.zeroCells z (l + n - c) ++ Builtin.zeroCells z (grownCap w (l + n) c t - (l + n))).size = grownCap w (l + n) c t := by
  have hg := grownCap_ge w (l + n) c t
  simp only [Array.size_append, List.size_toArray, size_zeroCells, hz, hc]
  omega
set_option maxRecDepth 100000 in
theorem grow_any (lv : Value) (l : Bs) (m : Nat) (w : World) (h : OwnB w lv l) (hm : 0 < m) (hb : l.length + m ≤ 1099511627776) :
    Calls Tryz.prog 113 #[lv, .int .i64 (m : Int)] w (GrowPost w lv l m) := by
  obtain ⟨i0, hi, hz0, hz1, hz2⟩ := info_parts infoByte3
  rcases h.2 with ⟨rfl, h0⟩ | ⟨q, C, cur, hv, _, hh, hlc, hcm, hcs, htk⟩
  · have hl : l = [] := List.length_eq_zero_iff.1 h0
    subst hl
    refine (Any8.slices_Grow_grow Ln.laysGrow i0 _ hi hz0 (by rw [hz1]; omega) none 0 0 m [] w (Nat.le_refl _) (by omega) (by rw [hz2]; simp at hb ⊢; omega) (by simp at hb ⊢; omega) (by simp) (fun _ => rfl) (fun a ha => by cases ha)).mono ?_
    rintro e w' ⟨rfl, rfl⟩
    refine ⟨_, _, _, rfl, ⟨new_block' _ _ rfl, grown_size w [] 0 m 0 _ _ rfl rfl (by omega), ?_, ?_, by simp [bys]⟩, (Below.refl _ _).drew.alloc (Nat.le_refl _) _, .inr rfl⟩
    · exact grownCap_le_maxLen w (0 + m) 0 _ (by unfold maxLen; simp at hb; omega)
    · exact grownCap_ge w (0 + m) 0 _
  · subst hv
    by_cases hr : l.length + m ≤ C
    · refine (Ln.slices_Grow_room _ l.length C m w hlc (by unfold maxLen at hcm; omega) (by omega) hr).mono ?_
      rintro e w' ⟨rfl, rfl⟩
      exact ⟨q, C, cur, rfl, ⟨hh, by omega, hcm, hr, by simpa using htk⟩, Below.refl _ _, .inl rfl⟩
    · refine (Any8.slices_Grow_grow Ln.laysGrow i0 _ hi hz0 (by rw [hz1]; omega) (some ⟨q, 0, none⟩) l.length C m cur.toList w hlc (by omega) (by rw [hz2]; omega) (by omega) (by rw [hz1]; simpa using hcs) (fun h => by cases h)
        (fun a ha j v hj => by injection ha with ha; subst ha; exact World.news_of_block hh j v hj)).mono ?_
      rintro e w' ⟨rfl, rfl⟩
      have hcl : cur.toList.length = C := by simpa using hcs
      refine ⟨_, _, _, rfl, ⟨new_block' _ _ rfl, grown_size w cur.toList l.length m C _ _ rfl hcl (by omega), ?_, ?_, ?_⟩, (Below.refl _ _).drew.alloc (Nat.le_refl _) _, .inr rfl⟩
      · exact grownCap_le_maxLen w (l.length + m) C _ (by unfold maxLen; omega)
      · exact grownCap_ge w (l.length + m) C _
      · rw [Array.toList_append, Array.toList_append, List.append_assoc, List.take_append_of_le_length (by simp; omega)]
        simpa using htk

theorem RowB.owns {w : World} {q C : Nat} {cur : Array Value} {l b : Bs} (h : RowB w q C cur l b.length) :
    OwnB (w.setRow q (cur.toList.take l.length ++ (bys b ++ cur.toList.drop (l.length + (bys b).length))).toArray) (.slice (some ⟨q, 0, none⟩) (l ++ b).length C) (l ++ b) := by
  have hr := h.room
  have hs : cur.toList.length = C := by simpa using h.size
  have hlt : l.length ≤ cur.toList.length := by omega
  refine ⟨by rw [bys_length, Nat.mul_one], .inr ⟨q, C, _, rfl, Nat.zero_le _, setRow_heap w q cur _ _ _ h.blk, by simpa using hr, h.cap, ?_, ?_⟩⟩
  · simp only [List.size_toArray, List.length_append, List.length_take, List.length_drop, bys_length]; omega
  · rw [bys_append, ← h.here, List.length_append]
    have e1 : (cur.toList.take l.length).length = l.length := by rw [List.length_take]; omega
    show (cur.toList.take l.length ++ (bys b ++ _)).take _ = _
    rw [← List.append_assoc, Nat.mul_one, List.take_append_of_le_length (by rw [List.length_append, e1, bys_length]; omega), List.take_of_length_le (by rw [List.length_append, e1, bys_length]; omega)]

end Go.Proofs.YtcolnidgembniaaGreatDoor.Hd
/-
  framing.put: bytes behind others, in memory of its own. Condition: at most 2^40 bytes.
-/
namespace Go.Proofs.YtcolnidgembniaaGreatDoor.Fr
open Go.RowKit Go.Proofs.YtcolnidgembniaaGreatDoor.Tk Go.Proofs.YtcolnidgembniaaGreatDoor.Fd Go.Proofs.YtcolnidgembniaaGreatDoor.Hd
set_option linter.unusedVariables false

def PutPost (lv : Value) (l b : Bs) (w : World) (e : Ending) (w' : World) : Prop :=
  ∃ lv', e = .returned lv' ∧ OwnB w' lv' (l ++ b) ∧ Chg (fun k => lv.ownBlock = some k) w w' ∧ ∀ k, lv'.ownBlock = some k → lv.ownBlock = some k ∨ w.heap.size ≤ k
set_option maxRecDepth 100000 in
set_option maxHeartbeats 4000000 in
theorem put_some (lv : Value) (l b : Bs) (B off cap : Nat) (w : World) (h : OwnB w lv l) (hcap : b.length ≤ cap) (hcm : cap ≤ maxLen) (hB : B < w.heap.size) (hh : Holds w B off b) (ho : lv.ownBlock ≠ some B) (hb : 0 < b.length) (hl : l.length + b.length ≤ 1099511627776) :
    Calls Tryz.prog 86 #[lv, .slice (some ⟨B, off, none⟩) b.length cap] w (PutPost lv l b w) := by
  have HG := Lib.hid (grow_any lv l b.length w h hb hl)
  have HO := Lib.hid ho
  have HH := Lib.hid hh
  obtain ⟨a, c, hls⟩ := h.shape
  subst hls
  unfold maxLen at hcm
  clear h hh ho
  go_enter Tryz.func86, Tryz.ntmps86
  go_wp2_with fail
  refine HG.out.mono ?_
  rintro e w1 ⟨q, C, cur, rfl, hrow, hb1, hq⟩
  have HR := Lib.hid hrow
  have hBq : B ≠ q := fun e => by
    rcases hq with hq | hq
    · exact HO.out (e ▸ hq)
    · omega
  have hCr := hrow.room
  have hCm := hrow.cap
  unfold maxLen at hCm
  have hC0 : ¬ C = l.length := by omega
  have HN := Lib.hid (holds_below HH.out hb1 hB)
  have HQ := Lib.hid hrow.blk
  have HSrc := Lib.hid (show ∀ j u, (bys b)[j]? = some u → w1.cell? ((⟨B, off, none⟩ : Addr).add j) = some u from fun j u hu => by
    have hj : j < b.length := by have := (List.getElem?_eq_some_iff.1 hu).1; rwa [bys_length] at this
    rw [bys_at b j hj] at hu
    rw [Addr.add_lit, HN.out j hj]
    exact hu)
  have HB1 := Lib.hid hb1
  have HNq := Lib.hid hq
  have HW := Lib.hid (RowB.owns hrow)
  clear hrow hb1 hq HG HO
  go_wp2_with ((with_reducible show wpList _ _ _ (⟨some 21, _, _, _, _, _⟩ :: _) _ _); refine wpList_copy_own rfl (.tmp 19) (.tmp 20) 22 22 rfl 5 Tryz.underlying22 infoByte q l.length b.length (C - l.length) ⟨B, off, none⟩ b.length cap (by rfl) (by rfl) cur 5 HQ.out (bys b) (by rw [bys_length]; simp) HSrc.out (by rw [bys_length]; have := HR.out.size; omega) (bys_one b) ?_; obtain ⟨W2, hW2⟩ : ∃ W2, W2 = w1.setRow q (cur.toList.take l.length ++ (bys b ++ cur.toList.drop (l.length + (bys b).length))).toArray := ⟨_, rfl⟩; rw [← hW2]; rw [← hW2] at HW; have HW2 := Lib.hid hW2; clear hW2)
  go_ret
  refine ⟨_, rfl, by have h := HW.out; rw [List.length_append] at h; exact h, ?_, fun k hk => ?_⟩
  · rw [HW2.out]
    exact (Chg.of_below HB1.out).row q _ (by rcases HNq.out with h | h; exact .inl h; exact .inr (by omega))
  · injection hk with hk
    subst hk
    rcases HNq.out with h | h
    · exact .inl h
    · exact .inr (by show w.heap.size ≤ q; omega)
set_option maxRecDepth 100000 in
set_option maxHeartbeats 4000000 in
theorem put_none (lv : Value) (l : Bs) (p : Option Addr) (cap : Nat) (w : World) (h : OwnB w lv l) (hl : l.length ≤ 1099511627776) :
    Calls Tryz.prog 86 #[lv, .slice p 0 cap] w (PutPost lv l [] w) := by
  have HP := Lib.hid (show PutPost lv l [] w (.returned lv) w from ⟨lv, rfl, by rw [List.append_nil]; exact h, Chg.refl _ _, fun k hk => .inl hk⟩)
  rcases h.2 with ⟨rfl, h0⟩ | ⟨q, C, cur, hv, _, hh, hlc, hcm, hcs, htk⟩
  · have HG := Lib.hid (Ln.slices_Grow_room none 0 0 0 w (Nat.le_refl _) (by omega) (by omega) (by omega))
    clear h h0
    go_enter Tryz.func86, Tryz.ntmps86
    go_wp2_with fail
    refine HG.out.mono ?_
    rintro e w1 ⟨rfl, rfl⟩
    go_wp2_with ((with_reducible show wpList _ _ _ (⟨some 21, _, _, _, _, _⟩ :: _) _ _); refine wpList_copy_nothing rfl (.tmp 19) (.tmp 20) 22 22 rfl 5 Tryz.underlying22 infoByte none p 0 0 0 cap (by rfl) (by rfl) rfl ?_)
    go_ret
    exact HP.out
  · subst hv
    have HG := Lib.hid (Ln.slices_Grow_room (some ⟨q, 0, none⟩) l.length C 0 w hlc (by unfold maxLen at hcm; omega) (by omega) (by omega))
    unfold maxLen at hcm
    obtain ⟨n, hn⟩ : ∃ n, n = l.length := ⟨_, rfl⟩
    rw [← hn] at HG HP hlc hl ⊢
    clear h hh htk hcs hn
    by_cases hC : C = n
    · subst hC
      go_enter Tryz.func86, Tryz.ntmps86
      go_wp2_with fail
      refine HG.out.mono ?_
      rintro e w1 ⟨rfl, rfl⟩
      go_wp2_with ((with_reducible show wpList _ _ _ (⟨some 21, _, _, _, _, _⟩ :: _) _ _); refine wpList_copy_nothing rfl (.tmp 19) (.tmp 20) 22 22 rfl 5 Tryz.underlying22 infoByte _ p _ _ 0 cap (by rfl) (by rfl) (by simp) ?_)
      go_ret
      exact HP.out
    · go_enter Tryz.func86, Tryz.ntmps86
      go_wp2_with fail
      refine HG.out.mono ?_
      rintro e w1 ⟨rfl, rfl⟩
      go_wp2_with ((with_reducible show wpList _ _ _ (⟨some 21, _, _, _, _, _⟩ :: _) _ _); refine wpList_copy_nothing rfl (.tmp 19) (.tmp 20) 22 22 rfl 5 Tryz.underlying22 infoByte _ p _ _ 0 cap (by rfl) (by rfl) (by simp) ?_)
      go_ret
      exact HP.out
/-- put, whatever came in. -/
theorem put_any (lv v : Value) (l b : Bs) (w : World) (h : OwnB w lv l) (hv : Byts w v b) (ho : ∀ k, lv.ownBlock = some k → v.ownBlock ≠ some k) (hl : l.length + b.length ≤ 1099511627776) :
    Calls Tryz.prog 86 #[lv, v] w (PutPost lv l b w) := by
  rcases hv with ⟨rfl, a, c, rfl⟩ | ⟨B, off, cap, rfl, hcap, hcm, hB, hh⟩
  · exact put_none lv l a c w h (by simp at hl; omega)
  · by_cases hb : 0 < b.length
    · exact put_some lv l b B off cap w h hcap hcm hB hh (fun hk => ho B hk rfl) hb hl
    · obtain rfl : b = [] := List.length_eq_zero_iff.1 (by omega)
      exact put_none lv l _ cap w h (by simp at hl; omega)
end Go.Proofs.YtcolnidgembniaaGreatDoor.Fr
/-
  A decoder's End: what it returns and leaves. No condition.
-/
namespace Go.Proofs.YtcolnidgembniaaGreatDoor.Fr
open Go.RowKit Go.Proofs.YtcolnidgembniaaGreatDoor.Tk Go.Proofs.YtcolnidgembniaaGreatDoor.Fd Go.Proofs.YtcolnidgembniaaGreatDoor.Hd
set_option linter.unusedVariables false

def EndPost (O : Nat → Prop) (g : Nat) (s : St) (w : World) (e : Ending) (w' : World) : Prop :=
  e = .returned (.tuple #[.bool (doneOf s), .int .i64 (errOf s : Nat)]) ∧ Dec w' O g s ∧ Chg O w w'
theorem chg_one {O : Nat → Prop} {g : Nat} {w w' : World} (h : Chg (fun k => k = g) w w') (hg : O g) : Chg O w w' :=
  ⟨h.os, h.tape, h.output, h.size, fun k hk hn => h.block k hk (fun e => hn (by subst e; exact hg))⟩
set_option maxRecDepth 100000 in
set_option maxHeartbeats 4000000 in
theorem end_opn (O : Nat → Prop) (g n : Nat) (w : World) (h : Dec w O g (.opn n)) : Calls Tryz.prog 50 #[.pointer (some ⟨g, 0, none⟩)] w (EndPost O g .done w) := by
  obtain ⟨v, hb, ho, hn, hg, hv⟩ := h
  have c0 := dc0 hb
  have c1 := dc1 hb
  have c2 := dc2 hb
  have c3 := dc3 hb
  have c4 := dc4 hb
  have f0 := free hb 0
  have f1 := free hb 1
  have f2 := free hb 2
  have f3 := free hb 3
  have f4 := free hb 4
  have HB := Lib.hid (put5 hb)
  have HM := Lib.hid (made_yes g 2 w (by omega) c0)
  have c0' : w.cell? ⟨g, 0, none⟩ = some (.int .i64 2) := c0
  clear hb hn ho hv c0
  go_enter Tryz.func50, Tryz.ntmps50
  go_wp2_with fail
  refine HM.out.mono ?_
  rintro e w1 ⟨rfl, rfl⟩
  go_upto_region 8 with fail
  obtain ⟨W, hW⟩ : ∃ W, W = (((((w.setCell ⟨g, 0, none⟩ (.int .i64 7)).setCell ⟨g, 1, none⟩ (.int .i64 0)).setCell ⟨g, 2, none⟩ (.int .i64 0)).setCell ⟨g, 3, none⟩ (.slice none 0 0)).setCell ⟨g, 4, none⟩ (.int .i64 0)) := ⟨_, rfl⟩
  rw [← hW]
  have hB : W.heap[g]? = some (.cells (dc 7 0 0 (.slice none 0 0) 0) 149 (0, 0)) := by rw [hW]; exact HB.out _ _ _ _ _
  have HC := Lib.hid (show Chg O w W.drew from (chg_one (by rw [hW]; exact chg5 _ _ _ _ _ _ _) hg).drew)
  have hBd : W.drew.heap[g]? = some (.cells (dc 7 0 0 (.slice none 0 0) 0) 149 (0, 0)) := hB
  have HD := Lib.hid (show Dec W.drew O g .done from dec_over rfl hg hBd)
  have HWh := Lib.hid (whole_any g 7 0 W.drew (dc0 hBd) (dc4 hBd))
  have d4 : W.cell? ⟨g, 4, none⟩ = some (.int .i64 0) := dc4 hB
  clear hW hB hBd c1 c2 c3 c4 f0 f1 f2 f3 f4 HB c0'
  go_region_with (go_at_call 87; refine HWh.out.mono ?_; rintro e w2 ⟨rfl, rfl⟩)
  all_goals go_wp2_with fail
  all_goals
    go_ret2
    exact ⟨rfl, HD.out, HC.out⟩
set_option maxRecDepth 100000 in
set_option maxHeartbeats 4000000 in
theorem end_over (O : Nat → Prop) (g : Nat) (s : St) (w : World) (h : Dec w O g s) (hs : over s = true) (hz : doneOf s = decide (errOf s = 0)) : Calls Tryz.prog 50 #[.pointer (some ⟨g, 0, none⟩)] w (EndPost O g s w) := by
  have HD := Lib.hid (show Dec w.drew O g s from h.below (Below.refl _ _).drew)
  have HC := Lib.hid (show Chg O w w.drew from (Chg.refl O w).drew)
  obtain ⟨v, hb, ho, hn, hg, hv⟩ := h
  have e7 : num1 s = 7 := by cases s <;> first | rfl | cases hs
  rw [e7] at hb
  have HM := Lib.hid (made_yes g 7 w (by omega) (dc0 hb))
  obtain ⟨E, hE⟩ : ∃ E, E = errOf s := ⟨_, rfl⟩
  have HR := Lib.hid (show ∀ e, e = Ending.returned (.tuple #[.bool (decide (7 = 7 ∧ E = 0)), .int .i64 (E : Int)]) → EndPost O g s w e w.drew from fun e he => ⟨by rw [he, hz, ← hE]; simp, HD.out, HC.out⟩)
  rw [← hE] at hb
  have hbd : w.drew.heap[g]? = some (.cells (dc 7 (num2 s) (num3 s) v E) 149 (0, 0)) := hb
  have HWh := Lib.hid (whole_any g 7 E w.drew (dc0 hbd) (dc4 hbd))
  have c0 : w.cell? ⟨g, 0, none⟩ = some (.int .i64 7) := dc0 hb
  have c4 := dc4 hb
  obtain ⟨D, hD⟩ : ∃ D, D = decide (7 = 7 ∧ E = 0) := ⟨_, rfl⟩
  rw [← hD] at HWh HR
  clear hb hbd ho hn hv hg hz e7 HD HC hE hs hD
  go_enter Tryz.func50, Tryz.ntmps50
  go_wp2_with fail
  refine HM.out.mono ?_
  rintro e w1 ⟨rfl, rfl⟩
  go_upto_region 8 with fail
  go_region_with (go_at_call 87; refine HWh.out.mono ?_; rintro e w2 ⟨rfl, rfl⟩)
  all_goals go_wp2_with fail
  all_goals
    go_ret2
    exact HR.out _ rfl
set_option maxRecDepth 100000 in
set_option maxHeartbeats 4000000 in
theorem end_lost (O : Nat → Prop) (g : Nat) (s : St) (w : World) (h : Dec w O g s) (h1 : 0 < num1 s) (h2 : num1 s ≠ 2) (h7 : num1 s ≠ 7) : Calls Tryz.prog 50 #[.pointer (some ⟨g, 0, none⟩)] w (EndPost O g (.bad 20) w) := by
  obtain ⟨v, hb, ho, hn, hg, hv⟩ := h
  obtain ⟨S, hS⟩ : ∃ S, S = num1 s := ⟨_, rfl⟩
  rw [← hS] at hb h1 h2 h7
  have HM := Lib.hid (made_yes g S w h1 (dc0 hb))
  have HF := Lib.hid (fail_any g S (num2 s) (num3 s) v (errOf s) 20 w hb)
  have c0 := dc0 hb
  have e2 : ((S : Int) == 2) = false := by simp; omega
  have e7 : ((S : Int) == 7) = false := by simp; omega
  clear hb ho hn hv h1 h2 h7 hS
  go_enter Tryz.func50, Tryz.ntmps50
  go_wp2_with fail
  refine HM.out.mono ?_
  rintro e w1 ⟨rfl, rfl⟩
  go_wp2_with fail
  refine HF.out.mono ?_
  rintro e W ⟨rfl, hB, hC⟩
  have HC := Lib.hid (show Chg O w W.drew from (chg_one hC hg).drew)
  have hBd : W.drew.heap[g]? = some (.cells (dc 7 0 0 (.slice none 0 0) 20) 149 (0, 0)) := hB
  have HD := Lib.hid (show Dec W.drew O g (.bad 20) from dec_over rfl hg hBd)
  have HWh := Lib.hid (whole_any g 7 20 W.drew (dc0 hBd) (dc4 hBd))
  have d4 : W.cell? ⟨g, 4, none⟩ = some (.int .i64 20) := dc4 hB
  clear hB hBd hC HF HM c0
  go_upto_region 8 with fail
  go_region_with (go_at_call 87; refine HWh.out.mono ?_; rintro e w2 ⟨rfl, rfl⟩)
  all_goals go_wp2_with fail
  all_goals
    go_ret2
    exact ⟨rfl, HD.out, HC.out⟩
/-- End, whatever came in. -/
theorem end_any (O : Nat → Prop) (g : Nat) (s : St) (w : World) (h : Dec w O g s) (hG : Good s) : Calls Tryz.prog 50 #[.pointer (some ⟨g, 0, none⟩)] w (EndPost O g (closed s) w) := by
  cases s with
  | opn n => exact end_opn O g n w h
  | done => exact end_over O g .done w h rfl rfl
  | bad e =>
    refine end_over O g (.bad e) w h rfl ?_
    have he : e ≠ 0 := by rcases hG with h | h | h | h <;> omega
    show false = decide (e = 0)
    simp [he]
  | len n => exact end_lost O g _ w h (by show 0 < 1; omega) (by show 1 ≠ 2; omega) (by show 1 ≠ 7; omega)
  | size m l => exact end_lost O g _ w h (by show 0 < 3; omega) (by show 3 ≠ 2; omega) (by show 3 ≠ 7; omega)
  | chunk m n => exact end_lost O g _ w h (by show 0 < 4; omega) (by show 4 ≠ 2; omega) (by show 4 ≠ 7; omega)
  | gap m l => exact end_lost O g _ w h (by show 0 < 5; omega) (by show 5 ≠ 2; omega) (by show 5 ≠ 7; omega)
  | trail m l => exact end_lost O g _ w h (by show 0 < 6; omega) (by show 6 ≠ 2; omega) (by show 6 ≠ 7; omega)
end Go.Proofs.YtcolnidgembniaaGreatDoor.Fr
/-
  A decoder's pass, known, chunk and open: what each returns and leaves. Condition: a decoder that keeps to its numbers.
-/
namespace Go.Proofs.YtcolnidgembniaaGreatDoor.Fr
open Go.RowKit Go.Proofs.YtcolnidgembniaaGreatDoor.Tk Go.Proofs.YtcolnidgembniaaGreatDoor.Fd Go.Proofs.YtcolnidgembniaaGreatDoor.Hd
set_option linter.unusedVariables false

def PassPost (g s L R e behind n : Nat) (v : Value) (w : World) (r : Ending) (w' : World) : Prop :=
  r = .returned (.tuple #[.int .i64 (min n L : Nat), .int .i64 (min n L : Nat)]) ∧ w'.heap[g]? = some (.cells (dc (if n < L then s else behind) (L - n) R v e) 149 (0, 0)) ∧ Chg (fun k => k = g) w w'
theorem chg2 (w : World) (g : Nat) (x y : Value) : Chg (fun k => k = g) w ((w.setCell ⟨g, 1, none⟩ x).setCell ⟨g, 0, none⟩ y) :=
  ((Chg.refl (fun k => k = g) w).put ⟨g, 1, none⟩ x (.inl rfl)).put ⟨g, 0, none⟩ y (.inl rfl)
set_option maxRecDepth 100000 in
set_option maxHeartbeats 4000000 in
theorem pass_any (g s L R e behind n c : Nat) (v : Value) (a : Option Addr) (w : World) (h : w.heap[g]? = some (.cells (dc s L R v e) 149 (0, 0))) (hL : L ≤ 1048576) :
    Calls Tryz.prog 115 #[.pointer (some ⟨g, 0, none⟩), .slice a n c, .int .i64 (behind : Int)] w (PassPost g s L R e behind n v w) := by
  have c0 := dc0 h
  have c1 := dc1 h
  have f0 := free h 0
  have f1 := free h 1
  have H1 := Lib.hid (dc_put1 h)
  by_cases hn : n < L
  · have HP := Lib.hid (show ∀ r w', r = Ending.returned (.tuple #[.int .i64 (n : Int), .int .i64 (n : Int)]) → w'.heap[g]? = some (.cells (dc s (L - n) R v e) 149 (0, 0)) → Chg (fun k => k = g) w w' → PassPost g s L R e behind n v w r w' from fun r w' h1 h2 h3 => ⟨by rw [h1, Nat.min_eq_left (by omega)], by rw [if_pos hn]; exact h2, h3⟩)
    obtain ⟨D, hD⟩ : ∃ D, D = L - n := ⟨_, rfl⟩
    rw [← hD] at HP
    have hm : min (n : Int) (L : Int) = (n : Int) := by omega
    have hs : (L : Int) - (n : Int) = (D : Int) := by omega
    have hz : ¬ ((D : Int) = 0) := by omega
    have hz2 : ((D : Int) == 0) = false := by simp; omega
    clear h hD
    go_enter Tryz.func115, Tryz.ntmps115
    go_wp2_with fail
    go_ret2
    exact HP.out _ _ rfl (H1.out D) ((Chg.refl _ w).put ⟨g, 1, none⟩ _ (.inl rfl))
  · have HP := Lib.hid (show ∀ r w', r = Ending.returned (.tuple #[.int .i64 (L : Int), .int .i64 (L : Int)]) → w'.heap[g]? = some (.cells (dc behind 0 R v e) 149 (0, 0)) → Chg (fun k => k = g) w w' → PassPost g s L R e behind n v w r w' from fun r w' h1 h2 h3 => ⟨by rw [h1, Nat.min_eq_right (by omega)], by rw [if_neg hn, show L - n = 0 from by omega]; exact h2, h3⟩)
    have hm : min (n : Int) (L : Int) = (L : Int) := by omega
    have H2 := Lib.hid (fun x => dc_put0 (H1.out 0) x)
    clear h
    go_enter Tryz.func115, Tryz.ntmps115
    go_wp2_with fail
    go_ret2
    exact HP.out _ _ rfl (H2.out behind) (chg2 w g _ _)
/-- What a step of a decoder comes to: the body's bytes, how many it took, where it stands. -/
def Took (s : St) (b : Bs) (body taken : Nat) (s' : St) : Prop :=
  body ≤ taken ∧ 0 < taken ∧ taken ≤ b.length ∧ run s b = (b.take body ++ (run s' (b.drop taken)).1, taken + (run s' (b.drop taken)).2.1, (run s' (b.drop taken)).2.2) ∧ (Good s → Good s')
def StepPost (O : Nat → Prop) (g : Nat) (s : St) (b : Bs) (w : World) (e : Ending) (w' : World) : Prop :=
  ∃ body taken s', e = .returned (.tuple #[.int .i64 (body : Nat), .int .i64 (taken : Nat)]) ∧ Took s b body taken s' ∧ Dec w' (New O w) g s' ∧ Chg O w w'
theorem took_len {n : Nat} {b : Bs} (hn : 0 < n) (hb : 0 < b.length) : Took (.len n) b (min b.length n) (min b.length n) (if b.length < n then .len (n - b.length) else .done) := by
  refine ⟨Nat.le_refl _, by omega, by omega, ?_, fun hG => ?_⟩
  rotate_left
  · have h1 := hG.1
    have h2 := hG.2
    split
    · exact ⟨by omega, by omega⟩
    · trivial
  have h := run_len (b.take (min b.length n)) (b.drop (min b.length n)) n hn (by rw [List.length_take]; omega)
  rw [List.take_append_drop, show (b.take (min b.length n)).length = min b.length n from by rw [List.length_take]; omega] at h
  rw [h]
  by_cases h1 : b.length < n
  · rw [if_pos h1, if_neg (by omega), show min b.length n = b.length from by omega]
  · rw [if_neg h1, if_pos (by omega)]
theorem took_chunk {m n : Nat} {b : Bs} (hn : 0 < n) (hb : 0 < b.length) : Took (.chunk m n) b (min b.length n) (min b.length n) (if b.length < n then .chunk m (n - b.length) else .gap m []) := by
  refine ⟨Nat.le_refl _, by omega, by omega, ?_, fun hG => ?_⟩
  rotate_left
  · have h1 := hG.1
    have h2 := hG.2.1
    split
    · exact ⟨by omega, by omega, hG.2.2⟩
    · exact ⟨hG.2.2, by simp⟩
  have h := run_chunk (b.take (min b.length n)) (b.drop (min b.length n)) m n hn (by rw [List.length_take]; omega)
  rw [List.take_append_drop, show (b.take (min b.length n)).length = min b.length n from by rw [List.length_take]; omega] at h
  rw [h]
  by_cases h1 : b.length < n
  · rw [if_pos h1, if_neg (by omega), show min b.length n = b.length from by omega]
  · rw [if_neg h1, if_pos (by omega)]
theorem dec_pass {O : Nat → Prop} {g : Nat} {s s' : St} {v : Value} {w w' : World} (h : At w O g v s) (hc : Chg (fun k => k = g) w w') (hb : w'.heap[g]? = some (.cells (dc (num1 s') (num2 s') (num3 s') v (errOf s')) 149 (0, 0))) (ht : text s' = text s) (hl : lined s' = lined s) : Dec w' (New O w) g s' := by
  refine ⟨v, hb, ?_, fun hf => h.non (by rw [← hl]; exact hf), .inl h.og, fun k hk => .inl (h.ov k hk)⟩
  rw [ht]
  refine row_same h.own fun k hk => hc.block k (World.ownsRow.lt h.own k hk).2 (fun e => ?_)
  obtain ⟨cur, hcur⟩ := row_type h.own hk
  exact apart_of hcur h.blk (by decide) e
set_option maxRecDepth 100000 in
set_option maxHeartbeats 4000000 in
theorem known_any (O : Nat → Prop) (g n : Nat) (v : Value) (b : Bs) (w : World) (h : Dec w O g (.len n)) (hG : Good (.len n)) (hv : ∃ a c, v = .slice a b.length c) (hb : 0 < b.length) :
    Calls Tryz.prog 82 #[.pointer (some ⟨g, 0, none⟩), v] w (StepPost O g (.len n) b w) := by
  obtain ⟨u, h⟩ := h
  obtain ⟨a, c, rfl⟩ := hv
  have HC := Lib.hid (pass_any g 1 n 0 0 7 b.length c u a w h.blk hG.2)
  have HP := Lib.hid (show ∀ r w', PassPost g 1 n 0 0 7 b.length u w r w' → StepPost O g (.len n) b w r w' from fun r w' hp => by
    obtain ⟨h1, h2, h3⟩ := hp
    refine ⟨_, _, _, h1, took_len hG.1 hb, dec_pass h h3 ?_ ?_ ?_, chg_one h3 h.og⟩
    · by_cases hx : b.length < n
      · rw [if_pos hx] at h2 ⊢; exact h2
      · rw [if_neg hx] at h2 ⊢; rw [show n - b.length = 0 from by omega] at h2; exact h2
    · split <;> rfl
    · split <;> rfl)
  clear h hG hb
  go_enter Tryz.func82, Tryz.ntmps82
  go_wp2_with fail
  refine HC.out.mono ?_
  intro e w1 hp
  obtain ⟨rfl, h2, h3⟩ := hp
  have HQ := Lib.hid (HP.out _ _ ⟨rfl, h2, h3⟩)
  clear h2 h3
  go_wp2_with fail
  go_ret2
  exact HQ.out
set_option maxRecDepth 100000 in
set_option maxHeartbeats 4000000 in
theorem dchunk_any (O : Nat → Prop) (g m n : Nat) (v : Value) (b : Bs) (w : World) (h : Dec w O g (.chunk m n)) (hG : Good (.chunk m n)) (hv : ∃ a c, v = .slice a b.length c) (hb : 0 < b.length) :
    Calls Tryz.prog 85 #[.pointer (some ⟨g, 0, none⟩), v] w (StepPost O g (.chunk m n) b w) := by
  obtain ⟨u, h⟩ := h
  obtain ⟨a, c, rfl⟩ := hv
  have HC := Lib.hid (pass_any g 4 n m 0 5 b.length c u a w h.blk hG.2.1)
  have HP := Lib.hid (show ∀ r w', PassPost g 4 n m 0 5 b.length u w r w' → StepPost O g (.chunk m n) b w r w' from fun r w' hp => by
    obtain ⟨h1, h2, h3⟩ := hp
    refine ⟨_, _, _, h1, took_chunk hG.1 hb, dec_pass h h3 ?_ ?_ ?_, chg_one h3 h.og⟩
    · by_cases hx : b.length < n
      · rw [if_pos hx] at h2 ⊢; exact h2
      · rw [if_neg hx] at h2 ⊢; rw [show n - b.length = 0 from by omega] at h2; exact h2
    · split <;> rfl
    · split <;> rfl)
  clear h hG hb
  go_enter Tryz.func85, Tryz.ntmps85
  go_wp2_with fail
  refine HC.out.mono ?_
  intro e w1 hp
  obtain ⟨rfl, h2, h3⟩ := hp
  have HQ := Lib.hid (HP.out _ _ ⟨rfl, h2, h3⟩)
  clear h2 h3
  go_wp2_with fail
  go_ret2
  exact HQ.out
theorem took_opn {n : Nat} {b : Bs} (hb : 0 < b.length) (hn : b.length ≤ n) : Took (.opn n) b b.length b.length (.opn (n - b.length)) := by
  refine ⟨Nat.le_refl _, hb, Nat.le_refl _, ?_, fun hG => (show n - b.length ≤ 1048576 from by have h1 : n ≤ 1048576 := hG; omega)⟩
  have h := run_opn b [] n hn
  rw [List.append_nil] at h
  rw [h, List.take_length, List.drop_length]
theorem took_opn_big {n : Nat} {b : Bs} (hn : n < b.length) : Took (.opn n) b n (n + 1) (.bad 3) := by
  refine ⟨by omega, by omega, by omega, ?_, fun _ => .inl rfl⟩
  have h := run_opn (b.take n) (b.drop n) n (by rw [List.length_take]; omega)
  have e : b.drop n = b[n] :: b.drop (n + 1) := (List.getElem_cons_drop hn).symm
  rw [List.take_append_drop, show (b.take n).length = n from by rw [List.length_take]; omega, Nat.sub_self, e, run_cons rfl, show step (.opn 0) b[n] = ([], .bad 3) from rfl, run_over (s := .bad 3) rfl] at h
  rw [h, run_over (s := .bad 3) rfl]
  rfl
set_option maxRecDepth 100000 in
set_option maxHeartbeats 4000000 in
theorem open_any (O : Nat → Prop) (g n : Nat) (v : Value) (b : Bs) (w : World) (h : Dec w O g (.opn n)) (hG : Good (.opn n)) (hv : ∃ a c, v = .slice a b.length c) (hb : 0 < b.length) :
    Calls Tryz.prog 83 #[.pointer (some ⟨g, 0, none⟩), v] w (StepPost O g (.opn n) b w) := by
  obtain ⟨u, h⟩ := h
  obtain ⟨a, c, rfl⟩ := hv
  have hn0 : n ≤ 1048576 := hG
  have HC := Lib.hid (pass_any g 2 n 0 0 2 b.length c u a w h.blk hG)
  by_cases hx : b.length ≤ n
  · have HP := Lib.hid (show ∀ r w', PassPost g 2 n 0 0 2 b.length u w r w' → r = .returned (.tuple #[.int .i64 (b.length : Nat), .int .i64 (b.length : Nat)]) ∧ (∀ r', r' = .returned (.tuple #[.int .i64 (b.length : Nat), .int .i64 (b.length : Nat)]) → StepPost O g (.opn n) b w r' w') from fun r w' hp => by
      obtain ⟨h1, h2, h3⟩ := hp
      rw [Nat.min_eq_left hx] at h1
      refine ⟨h1, fun r' hr => ⟨_, _, _, hr, took_opn hb hx, dec_pass h h3 ?_ rfl rfl, chg_one h3 h.og⟩⟩
      split at h2 <;> exact h2)
    obtain ⟨N, hN⟩ : ∃ N, N = b.length := ⟨_, rfl⟩
    rw [← hN] at HP HC ⊢
    have hee : ((N : Int) == (N : Int)) = true := by simp
    clear h hG hb hx hN
    go_enter Tryz.func83, Tryz.ntmps83
    go_wp2_with fail
    refine HC.out.mono ?_
    intro e w1 hp
    obtain ⟨rfl, h2⟩ := HP.out _ _ hp
    have HQ := Lib.hid h2
    clear h2 hp
    go_wp2_with fail
    go_ret2
    exact HQ.out _ rfl
  · have HP := Lib.hid (show ∀ r w', PassPost g 2 n 0 0 2 b.length u w r w' → r = .returned (.tuple #[.int .i64 (n : Nat), .int .i64 (n : Nat)]) ∧ w'.heap[g]? = some (.cells (dc 2 0 0 u 0) 149 (0, 0)) ∧ Chg (fun k => k = g) w w' from fun r w' hp => by
      obtain ⟨h1, h2, h3⟩ := hp
      rw [Nat.min_eq_right (by omega)] at h1
      rw [if_neg (by omega), show n - b.length = 0 from by omega] at h2
      exact ⟨h1, h2, h3⟩)
    have HQ := Lib.hid (show ∀ r w', r = .returned (.tuple #[.int .i64 (n : Nat), .int .i64 ((n + 1 : Nat) : Int)]) → Dec w' O g (.bad 3) → Chg O w w' → StepPost O g (.opn n) b w r w' from fun r w' h1 h2 h3 => ⟨_, _, _, h1, took_opn_big (by omega), h2.mono (fun _ hk => .inl hk), h3⟩)
    have hne : ((n : Int) == (b.length : Int)) = false := by simp; omega
    have hne2 : ¬ ((n : Int) = (b.length : Int)) := by omega
    have hg := h.og
    obtain ⟨N, hN⟩ : ∃ N, N = b.length := ⟨_, rfl⟩
    rw [← hN] at HP HC hne hne2 ⊢
    clear h hG hb hx hN
    go_enter Tryz.func83, Tryz.ntmps83
    go_wp2_with fail
    refine HC.out.mono ?_
    intro e w1 hp
    obtain ⟨rfl, h2, h3⟩ := HP.out _ _ hp
    have HF := Lib.hid (fail_any g 2 0 0 u 0 3 w1 h2)
    have HC1 := Lib.hid h3
    clear h2 h3 hp HC HP
    go_wp2_with fail
    refine HF.out.mono ?_
    rintro e w2 ⟨rfl, hB, hC⟩
    have HD := Lib.hid (show Dec w2 O g (.bad 3) from dec_over rfl hg hB)
    have HC2 := Lib.hid (show Chg O w w2 from chg_one (HC1.out.trans hC (fun i hi => .inl hi)) hg)
    clear hB hC
    go_wp2_with fail
    go_ret2
    exact HQ.out _ _ rfl HD.out HC2.out
end Go.Proofs.YtcolnidgembniaaGreatDoor.Fr
/-
  A decoder's gap and trailer, and isExtension: what each returns and leaves. Conditions: the table of token bytes; texts of at most 2^40 bytes.
-/
namespace Go.Proofs.YtcolnidgembniaaGreatDoor.Fr
open Go.RowKit Go.Proofs.YtcolnidgembniaaGreatDoor.Tk Go.Proofs.YtcolnidgembniaaGreatDoor.Fd Go.Proofs.YtcolnidgembniaaGreatDoor.Hd
set_option linter.unusedVariables false

/-- What a line's end leaves: the error's number; without one the decoder of what follows; with one the decoder as it was. -/
def LinePost (O : Nat → Prop) (g : Nat) (s : St) (v : Value) (t : Bs) (w : World) (r : Ending) (w' : World) : Prop :=
  ∃ E : Nat, r = .returned (.int .i64 (E : Int)) ∧ Chg (New O w) w w' ∧ (E = 0 → Dec w' O g (ended s t)) ∧ (E ≠ 0 → ended s t = .bad E ∧ w'.heap[g]? = w.heap[g]?)
theorem dec_next {O : Nat → Prop} {g : Nat} {s s' : St} {v : Value} {w w' : World} (h : At w O g v s) (hc : Chg (fun k => k = g) w w') (hb : w'.heap[g]? = some (.cells (dc (num1 s') (num2 s') (num3 s') v (errOf s')) 149 (0, 0))) (ht : text s' = text s) (hl : lined s' = lined s) : Dec w' O g s' := by
  refine ⟨v, hb, ?_, fun hf => h.non (by rw [← hl]; exact hf), h.og, h.ov⟩
  rw [ht]
  refine row_same h.own fun k hk => hc.block k (World.ownsRow.lt h.own k hk).2 (fun e => ?_)
  obtain ⟨cur, hcur⟩ := row_type h.own hk
  exact apart_of hcur h.blk (by decide) e
theorem txt_nil : txt [] = ⟨#[]⟩ := rfl
theorem txt_size' (t : Bs) : (txt t).size = t.length := by simp [txt, ByteArray.size]
set_option maxRecDepth 100000 in
set_option maxHeartbeats 4000000 in
theorem gap_any (O : Nat → Prop) (g m : Nat) (v : Value) (t : Bs) (w : World) (h : At w O g v (.gap m [])) :
    Calls Tryz.prog 128 #[.pointer (some ⟨g, 0, none⟩), .string (txt t)] w (LinePost O g (.gap m []) v t w) := by
  by_cases ht : t = []
  · subst ht
    rw [txt_nil]
    have c0 := dc0 h.blk
    have f0 := free h.blk 0
    have hb := dc_put0 h.blk 3
    have hc : ∀ x, Chg (fun k => k = g) w (w.setCell ⟨g, 0, none⟩ x) := fun x => (Chg.refl (fun k => k = g) w).put ⟨g, 0, none⟩ x (.inl rfl)
    have HD := Lib.hid (dec_next (s' := .size m []) h (hc _) hb rfl rfl)
    have HC := Lib.hid (fun x => chg_one (O := New O w) (hc x) (.inl h.og))
    clear h hb hc
    go_enter Tryz.func128, Tryz.ntmps128
    go_wp2_with fail
    go_ret
    exact ⟨0, rfl, HC.out _, fun _ => HD.out, fun h => (h rfl).elim⟩
  · have hs : 0 < (txt t).size := by rw [txt_size']; cases t with | nil => exact (ht rfl).elim | cons c r => simp
    have HE := Lib.hid (show ended (.gap m []) t = .bad 32 from by show gapSt m t = _; unfold gapSt; rw [if_neg ht])
    obtain ⟨T, hT⟩ : ∃ T, T = txt t := ⟨_, rfl⟩
    rw [← hT] at hs ⊢
    have ht0 : T.toList.isEmpty = false := text_full hs
    clear h hT ht
    go_enter Tryz.func128, Tryz.ntmps128
    go_wp2_with fail
    go_ret
    exact ⟨32, rfl, Chg.refl _ _, fun h => by omega, fun _ => ⟨HE.out, rfl⟩⟩
set_option maxRecDepth 100000 in
set_option maxHeartbeats 4000000 in
theorem trailer_any (O : Nat → Prop) (g m : Nat) (v : Value) (t : Bs) (w : World) (h : At w O g v (.trail m [])) (hl : t.length ≤ 70368744177664) (hT : Tab w) :
    Calls Tryz.prog 129 #[.pointer (some ⟨g, 0, none⟩), .string (txt t)] w (LinePost O g (.trail m []) v t w) := by
  by_cases ht : t = []
  · subst ht
    rw [txt_nil]
    have c0 := dc0 h.blk
    have c1 := dc1 h.blk
    have c2 := dc2 h.blk
    have c3 := dc3 h.blk
    have c4 := dc4 h.blk
    have f0 := free h.blk 0
    have f1 := free h.blk 1
    have f2 := free h.blk 2
    have f3 := free h.blk 3
    have f4 := free h.blk 4
    have HB := Lib.hid (put5 h.blk)
    have hg := h.og
    clear h
    go_enter Tryz.func129, Tryz.ntmps129
    go_wp2_with fail
    go_ret
    exact ⟨0, rfl, chg_one (chg5 _ _ _ _ _ _ _) (.inl hg), fun _ => dec_over rfl hg (HB.out _ _ _ _ _), fun h => (h rfl).elim⟩
  · have hs : 0 < (txt t).size := by rw [txt_size']; cases t with | nil => exact (ht rfl).elim | cons c r => simp
    have HE := Lib.hid (show ended (.trail m []) t = if (fldOf (txt t)).2 = 0 then .trail m [] else .bad (fldOf (txt t)).2 from by show trailSt m t = _; unfold trailSt; rw [if_neg ht])
    have hsz : (txt t).size ≤ 70368744177664 := by rw [txt_size']; exact hl
    obtain ⟨T, hTT⟩ : ∃ T, T = txt t := ⟨_, rfl⟩
    rw [← hTT] at hs HE hsz ⊢
    have ht0 : T.toList.isEmpty = false := text_full hs
    have HV := Lib.hid (parseVal_of T)
    have HP := Lib.hid (parse_any T w hsz hT)
    obtain ⟨⟨⟨a, b⟩, e0⟩, hR⟩ : ∃ R, R = fldOf T := ⟨_, rfl⟩
    rw [← hR] at HV HE
    have HH := Lib.hid h
    clear h hTT ht hT hR hl hsz
    go_enter Tryz.func129, Tryz.ntmps129
    go_wp2_with fail
    refine HP.out.mono ?_
    rintro e w1 ⟨rfl, hb⟩
    rw [HV.out]
    unfold FV
    have HB := Lib.hid hb
    clear hb
    go_wp2_with fail
    go_ret
    have hall : ∀ X, Below w.heap.size w (w1.alloc X) := fun X => HB.out.alloc HB.out.size X
    refine ⟨e0, rfl, Chg.of_below (hall _), fun h0 => ?_, fun h0 => ⟨?_, ?_⟩⟩
    · rw [HE.out, if_pos h0]
      exact (show Dec w O g (.trail m []) from ⟨v, HH.out⟩).below (hall _)
    · rw [HE.out, if_neg h0]
    · exact (hall _).block g (block_lt HH.out.blk)
end Go.Proofs.YtcolnidgembniaaGreatDoor.Fr
