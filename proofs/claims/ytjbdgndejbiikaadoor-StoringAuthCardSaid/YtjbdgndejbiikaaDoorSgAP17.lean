/-
  Texts that the laws' proofs stand on, 3 of them in one file; each one's head says what it proves and under which condition.
-/
import Derived.Test.YtjbdgndejbiikaaDoorSgAP16
import Derived.Laws.CopyOwn
import Derived.Deep.AppendLies
import Derived.Test.YtjbdgndejbiikaaDoorSgAP9
import Derived.Test.YtjbdgndejbiikaaDoorSgAP5
import Derived.Test.YtjbdgndejbiikaaDoorSgAP15
import Derived.Test.YtjbdgndejbiikaaDoorSgAP8
import Derived.Deep.RegionWith
import Derived.Laws.EntriesVeiled
/-
  Worlds that turned within some blocks alone. No condition.
-/
namespace Go.Proofs.YtjbdgndejbiikaaDoor.Hd
open Go.RowKit Go.Proofs.YtjbdgndejbiikaaDoor.Tk Go.Proofs.YtjbdgndejbiikaaDoor.Fd
set_option linter.unusedVariables false

/-- But for the blocks of O, and new ones, w' is as w was. -/
structure Chg (O : Nat → Prop) (w w' : World) : Prop where
  os : w'.os = w.os
  tape : w'.tape = w.tape
  output : w'.output = w.output
  size : w.heap.size ≤ w'.heap.size
  block : ∀ k, k < w.heap.size → ¬ O k → w'.heap[k]? = w.heap[k]?
theorem Chg.refl (O : Nat → Prop) (w : World) : Chg O w w := ⟨rfl, rfl, rfl, Nat.le_refl _, fun _ _ _ => rfl⟩
theorem Chg.of_below {O : Nat → Prop} {w w' : World} (h : Below w.heap.size w w') : Chg O w w' := ⟨h.os, h.tape, h.output, h.size, fun k hk _ => h.block k hk⟩
theorem Chg.below {O : Nat → Prop} {w w' : World} {B : Nat} (h : Chg O w w') (hO : ∀ k, O k → B ≤ k) (hB : B ≤ w.heap.size) : Below B w w' :=
  ⟨h.os, h.tape, h.output, h.size, fun k hk => h.block k (by omega) (fun ho => by have := hO k ho; omega)⟩
/-- The blocks of O, and those that are new since w. -/
def New (O : Nat → Prop) (w : World) (k : Nat) : Prop := O k ∨ w.heap.size ≤ k
theorem Chg.trans {O O' : Nat → Prop} {a b c : World} (h : Chg O a b) (k : Chg O' b c) (hO : ∀ i, O' i → New O a i) : Chg O a c :=
  ⟨k.os.trans h.os, k.tape.trans h.tape, k.output.trans h.output, Nat.le_trans h.size k.size, fun i hi hn =>
    (k.block i (Nat.lt_of_lt_of_le hi h.size) (fun ho => by rcases hO i ho with h1 | h1; exact hn h1; omega)).trans (h.block i hi hn)⟩
theorem Chg.put {O : Nat → Prop} {a w : World} (h : Chg O a w) (p : Addr) (v : Value) (hp : New O a p.block) : Chg O a (w.setCell p v) :=
  h.trans (O' := fun k => k = p.block) ⟨rfl, rfl, rfl, by simp [World.setCell], fun k hk hn => Below.heap_setCell _ _ _ _ hn⟩ (fun i hi => by subst hi; exact hp)
theorem Chg.row {O : Nat → Prop} {a w : World} (h : Chg O a w) (g : Nat) (cs : Array Value) (hp : New O a g) : Chg O a (w.setRow g cs) :=
  h.trans (O' := fun k => k = g) ⟨rfl, rfl, rfl, by simp [World.setRow], fun k hk hn => setRow_other w g k cs hn⟩ (fun i hi => by subst hi; exact hp)
theorem Chg.grown {O : Nat → Prop} {a w w' : World} {row : Option Nat} (h : Chg O a w) (hg : w.grownBy w' row) (hr : ∀ k, row = some k → New O a k) : Chg O a w' :=
  h.trans (O' := fun k => some k = row) ⟨hg.os, hg.tape, hg.output, hg.size, fun k hk hn => hg.block k hk hn⟩ (fun i hi => hr i hi.symm)
theorem Chg.next {O : Nat → Prop} {a w w' : World} (h : Chg O a w) (hb : Below w.heap.size w w') : Chg O a w' :=
  h.trans (O' := fun _ => False) (Chg.of_below hb) (fun i hi => hi.elim)
theorem Chg.alloc {O : Nat → Prop} {a w : World} (h : Chg O a w) (o : Obj) : Chg O a (w.alloc o) := h.next ((Below.refl _ _).alloc (Nat.le_refl _) o)
theorem Chg.drew {O : Nat → Prop} {a w : World} (h : Chg O a w) : Chg O a w.drew := ⟨h.os, h.tape, h.output, h.size, h.block⟩
theorem Chg.drewN {O : Nat → Prop} {a w : World} (h : Chg O a w) (n : Nat) : Chg O a (w.drewN n) := ⟨h.os, h.tape, h.output, h.size, h.block⟩
theorem Chg.again {O : Nat → Prop} {a b c : World} (h : Chg O a b) (k : Chg (New O a) b c) : Chg O a c := h.trans k (fun _ hi => hi)
theorem new_new {O : Nat → Prop} {a b : World} (hs : a.heap.size ≤ b.heap.size) (i : Nat) (h : New (New O a) b i) : New O a i := by
  rcases h with h | h
  · exact h
  · exact .inr (by omega)
theorem Chg.old {O : Nat → Prop} {w w' : World} (h : Chg O w w') {k : Nat} (ho : ¬ O k) {o : Obj} (e : w.heap[k]? = some o) : w'.heap[k]? = some o := (h.block k (block_lt e) ho).trans e

/-- Bytes as cells. -/
def bys (l : Bs) : List Value := l.map fun c => .int .u8 (c.toNat : Int)
theorem bys_length (l : Bs) : (bys l).length = l.length := by simp [bys]
theorem bys_append (a b : Bs) : bys (a ++ b) = bys a ++ bys b := by simp [bys]
theorem bys_one (l : Bs) : ∀ v ∈ bys l, v.oneCell' = true := by
  intro v hv; obtain ⟨c, _, rfl⟩ := List.mem_map.1 hv; rfl
theorem bys_at (l : Bs) (j : Nat) (h : j < l.length) : (bys l)[j]? = some (.int .u8 (l[j].toNat : Int)) := by simp [bys, h]
/-- Bytes in a row of a call's own. -/
def OwnB (w : World) (v : Value) (l : Bs) : Prop := w.ownsRow 0 5 1 v l.length (bys l)
theorem OwnB.nil (w : World) : OwnB w (.slice none 0 0) [] := World.ownsRow_nil _ _ _ _
/-- A row's fact hangs on its block alone. -/
theorem row_same {w w' : World} {base : Nat} {e : TypeId} {sz : Nat} {v : Value} {n : Nat} {xs : List Value} (h : w.ownsRow base e sz v n xs) (hb : ∀ k, v.ownBlock = some k → w'.heap[k]? = w.heap[k]?) : w'.ownsRow base e sz v n xs := by
  refine ⟨h.1, ?_⟩
  rcases h.2 with h2 | ⟨g, cap, cur, hv, hg, hh, r⟩
  · exact .inl h2
  · exact .inr ⟨g, cap, cur, hv, hg, (hb g (by rw [hv]; rfl)).trans hh, r⟩
theorem row_chg {O O' : Nat → Prop} {w w' : World} {base : Nat} {e : TypeId} {sz : Nat} {v : Value} {n : Nat} {xs : List Value} (h : w.ownsRow base e sz v n xs) (hc : Chg O' w w') (ho : ∀ k, v.ownBlock = some k → O k) (hd : ∀ k, O k → ¬ O' k) : w'.ownsRow base e sz v n xs :=
  row_same h fun k hk => hc.block k (World.ownsRow.lt h k hk).2 (hd k (ho k hk))
theorem OwnB.holds {w : World} {v : Value} {l : Bs} (h : OwnB w v l) {g cap : Nat} (hv : v = .slice (some ⟨g, 0, none⟩) l.length cap) : Holds w g 0 l := by
  subst hv
  intro j hj
  rw [Nat.zero_add, World.ownsRow.cellAt h j (by omega), bys_at l j hj]
theorem OwnB.shape {w : World} {v : Value} {l : Bs} (h : OwnB w v l) : ∃ a cap, v = .slice a l.length cap := by
  rcases h.2 with ⟨hv, h0⟩ | ⟨g, cap, cur, hv, _⟩
  · rw [h0]; exact ⟨none, 0, hv⟩
  · exact ⟨_, cap, hv⟩
/-- The type of a row's block. -/
theorem row_type {w : World} {base : Nat} {e : TypeId} {sz : Nat} {v : Value} {n : Nat} {xs : List Value} (h : w.ownsRow base e sz v n xs) {k : Nat} (hk : v.ownBlock = some k) : ∃ cur, w.heap[k]? = some (.cells cur e (0, 0)) := by
  rcases h.2 with ⟨hv, _⟩ | ⟨g, cap, cur, hv, _, hh, _⟩
  · rw [hv] at hk; cases hk
  · rw [hv] at hk; injection hk with hk; subst hk; exact ⟨cur, hh⟩
/-- Blocks of unlike types are unlike. -/
theorem apart_of {w : World} {a b : Nat} {x y : Array Value} {s t : TypeId} {fr fs : Nat × Nat} (ha : w.heap[a]? = some (.cells x s fr)) (hb : w.heap[b]? = some (.cells y t fs)) (h : s ≠ t) : a ≠ b := by
  intro e; subst e; rw [ha] at hb; injection hb with hb; injection hb with _ h2; exact h h2
theorem put_far {w : World} {a : Addr} {v : Value} {k : Nat} {o : Option Obj} (h : w.heap[k]? = o) (hk : k ≠ a.block) : (w.setCell a v).heap[k]? = o := (Below.heap_setCell w a v k hk).trans h
theorem row_far {w : World} {g : Nat} {cs : Array Value} {k : Nat} {o : Option Obj} (h : w.heap[k]? = o) (hk : k ≠ g) : (w.setRow g cs).heap[k]? = o := (setRow_other w g k cs hk).trans h
end Go.Proofs.YtjbdgndejbiikaaDoor.Hd
/-
  What is said, in a struct's cells; control.silent, gatepostref08.None, both functions that take the less of two numbers: what each returns. No condition but what each states.
-/
-- cut by strips.py
namespace Go.Proofs.YtjbdgndejbiikaaDoor.Ct
open Go.RowKit Go.Proofs.YtjbdgndejbiikaaDoor.Tk Go.Proofs.YtjbdgndejbiikaaDoor.Fd Go.Proofs.YtjbdgndejbiikaaDoor.Hd
set_option linter.unusedVariables false

set_option maxRecDepth 100000 in
theorem silent_any (w : World) : Calls Tryd.prog 26 #[] w fun e w' => e = .returned (.agg #[.bool false, .bool false, .bool false, .bool false, .bool false, .bool false, .bool false, .int .i64 (-1), .int .i64 (-1), .int .i64 (-1), .int .i64 (-1), .int .i64 (-1), .int .i64 (-1)]) ∧ Below w.heap.size w w' := by
  go_enter Tryd.func26, Tryd.ntmps26
  go_wp2_with fail
  refine bodyPost_ret (results_one rfl _ _ w.heap.size 33 _ (0, 0) _ rfl (new_block _ _) Tryd.underlying33 rfl infoCon) rfl ?_
  exact ⟨rfl, (Below.refl _ _).alloc (Nat.le_refl _) _⟩
/-- The less of two numbers, of which one may be unsaid. -/
def leastP (a b : Int) : Int := if a = -1 then b else if b = -1 then a else min a b
theorem leastP_least {a b : Int} (ha : -1 ≤ a) (hb : 0 ≤ b) : leastP a b = least a b := by
  unfold leastP least
  by_cases h1 : a = -1
  · rw [if_pos h1, if_pos (by omega)]
  · rw [if_neg h1, if_neg (by omega)]
    split <;> omega
theorem leastP_unsaid {a : Int} (ha : -1 ≤ a) : leastP a (-1) = a := by
  unfold leastP
  by_cases h1 : a = -1
  · rw [if_pos h1, h1]
  · rw [if_neg h1, if_pos rfl]
theorem leastP_bd {a b : Int} (ha : -1 ≤ a) (hb : -1 ≤ b) : -1 ≤ leastP a b := by unfold leastP; split; exact hb; split <;> omega

theorem leastP_any (a b : Int) (w : World) : Calls Tryd.prog 69 #[.int .i64 a, .int .i64 b] w fun e w' => e = .returned (.int .i64 (leastP a b)) ∧ w = w' := by
  by_cases h1 : a = -1
  · subst h1
    have HV := Lib.hid (show leastP (-1) b = b from rfl)
    go_enter Tryd.func69, Tryd.ntmps69
    go_wp2_with fail
    go_ret
    exact ⟨by rw [HV.out]; rfl, rfl⟩
  · have t1 : (a == -1) = false := by simpa using h1
    by_cases h2 : b = -1
    · subst h2
      have HV := Lib.hid (show leastP a (-1) = a from by unfold leastP; rw [if_neg h1, if_pos rfl])
      go_enter Tryd.func69, Tryd.ntmps69
      go_wp2_with fail
      go_ret
      exact ⟨by rw [HV.out]; rfl, rfl⟩
    · have t2 : (b == -1) = false := by simpa using h2
      have HV := Lib.hid (show leastP a b = min a b from by unfold leastP; rw [if_neg h1, if_neg h2])
      go_enter Tryd.func69, Tryd.ntmps69
      go_wp2_with fail
      all_goals
        refine bodyPost_ret (results_tmp rfl _ _ _) rfl ?_
        first
          | exact ⟨by rw [HV.out]; rfl, rfl⟩
          | exact ⟨by rw [HV.out, Int.min_eq_right (by omega)]; rfl, rfl⟩
          | exact ⟨by rw [HV.out, Int.min_eq_left (by omega)]; rfl, rfl⟩
/-! Closures: what a directive does. -/
theorem flag1_any (g i b : Nat) (x : Value) (v : ByteArray) (has : Bool) (w : World) (hb : w.heap[b]? = some (.cells #[.pointer (some ⟨g, i, none⟩)] 110 (0, 0))) (hx : w.cell? ⟨g, i, none⟩ = some x) (hf : w.frozen? ⟨g, i, none⟩ = false) :
    Calls Tryd.prog 67 #[.string v, .bool has, .pointer (some ⟨b, 0, none⟩)] w fun e w' => e = .returned (.tuple #[]) ∧ PutAt w w' ⟨g, i, none⟩ (.bool true) := by
  have c1 : w.cell? ⟨b, 0, none⟩ = some (.pointer (some ⟨g, i, none⟩)) := by rw [Lib.cell_of_heap hb]; rfl
  clear hb
  go_enter Tryd.func67, Tryd.ntmps67
  go_wp2
  go_end0
  exact ⟨rfl, rfl, rfl, rfl, rfl⟩
end Go.Proofs.YtjbdgndejbiikaaDoor.Ct
/-
  The closures that read a directive's number, and what makes them: what each returns and leaves. No condition but what each states.
-/
namespace Go.Proofs.YtjbdgndejbiikaaDoor.Ct
open Go.RowKit Go.Proofs.YtjbdgndejbiikaaDoor.Tk Go.Proofs.YtjbdgndejbiikaaDoor.Fd Go.Proofs.YtjbdgndejbiikaaDoor.Hd
set_option linter.unusedVariables false

/-- The number that a directive tells: bare, where it has no value; wrong, where that is no number. -/
def told (bare wrong : Int) (v : ByteArray) (has : Bool) : Int := if has = false then bare else if (Num.numOf v most).2 = false then wrong else (Num.numOf v most).1
/-- A variable of one cell. -/
def Var (w : World) (b : Nat) (x : Value) (t : TypeId) : Prop := w.heap[b]? = some (.cells #[x] t (0, 0))
theorem Var.cell {w : World} {b : Nat} {x : Value} {t : TypeId} (h : Var w b x t) : w.cell? ⟨b, 0, none⟩ = some x := by rw [Lib.cell_of_heap h]; rfl
theorem Var.more {w w' : World} {b : Nat} {x : Value} {t : TypeId} (h : Var w b x t) {B : Nat} (hb : Below B w w') (hl : b < B) : Var w' b x t := Bl.old hb hl h

set_option maxHeartbeats 4000000 in
theorem number1_any (g i b0 b1 b2 : Nat) (x bare wrong : Int) (v : ByteArray) (has : Bool) (w : World) (hv : v.size ≤ maxLen) (h0 : Var w b0 (.int .i64 bare) 3) (h1 : Var w b1 (.int .i64 wrong) 3) (h2 : Var w b2 (.pointer (some ⟨g, i, none⟩)) 112)
    (hx : w.cell? ⟨g, i, none⟩ = some (.int .i64 x)) (hf : w.frozen? ⟨g, i, none⟩ = false) :
    Calls Tryd.prog 68 #[.string v, .bool has, .pointer (some ⟨b0, 0, none⟩), .pointer (some ⟨b1, 0, none⟩), .pointer (some ⟨b2, 0, none⟩)] w fun e w' => e = .returned (.tuple #[]) ∧ PutAt w w' ⟨g, i, none⟩ (.int .i64 (leastP x (told bare wrong v has))) := by
  have c0 := h0.cell
  have c1 := h1.cell
  have c2 := h2.cell
  clear h0 h1 h2
  obtain ⟨N, ok, hN⟩ : ∃ N ok, Num.numOf v most = (N, ok) := ⟨_, _, rfl⟩
  have HN1 := Lib.hid (show (Num.numOf v most).1 = N from by rw [hN])
  have HN2 := Lib.hid (show (Num.numOf v most).2 = ok from by rw [hN])
  have HC := Lib.hid (show Calls Tryd.prog 42 #[.string v, .int .i64 2147483648] w fun e w' => e = .returned (.tuple #[.int .i64 N, .bool ok]) ∧ w = w' from by
    have h := Num.number_any v most w hv (by decide)
    rw [hN] at h
    exact h)
  clear hN
  cases has with
  | false =>
    have HT := Lib.hid (show told bare wrong v false = bare from rfl)
    rw [HT.out]
    go_enter Tryd.func68, Tryd.ntmps68
    go_wp2_with (go_at_call 42; refine HC.out.mono ?_; rintro e w2 ⟨rfl, rfl⟩)
    go_region_with (go_at_call 69; refine (leastP_any _ _ _).mono ?_; rintro e w2 ⟨rfl, rfl⟩)
    all_goals
      go_wp2_with fail
      go_end0
      exact ⟨rfl, rfl, rfl, rfl, rfl⟩
  | true =>
    cases ok with
    | false =>
      have HT := Lib.hid (show told bare wrong v true = wrong from by unfold told; rw [if_neg (by decide), if_pos HN2.out])
      rw [HT.out]
      go_enter Tryd.func68, Tryd.ntmps68
      go_wp2_with (go_at_call 42; refine HC.out.mono ?_; rintro e w2 ⟨rfl, rfl⟩)
      go_region_with (go_at_call 69; refine (leastP_any _ _ _).mono ?_; rintro e w2 ⟨rfl, rfl⟩)
      all_goals
        go_wp2_with fail
        go_end0
        exact ⟨rfl, rfl, rfl, rfl, rfl⟩
    | true =>
      have HT := Lib.hid (show told bare wrong v true = N from by unfold told; rw [if_neg (by decide), if_neg (by rw [HN2.out]; decide), HN1.out])
      rw [HT.out]
      go_enter Tryd.func68, Tryd.ntmps68
      go_wp2_with (go_at_call 42; refine HC.out.mono ?_; rintro e w2 ⟨rfl, rfl⟩)
      go_region_with (go_at_call 69; refine (leastP_any _ _ _).mono ?_; rintro e w2 ⟨rfl, rfl⟩)
      all_goals
        go_wp2_with fail
        go_end0
        exact ⟨rfl, rfl, rfl, rfl, rfl⟩

/-- What a directive is: it sets the flag of a cell, or tells a cell's number. -/
inductive Kind where
  | flag (i : Nat)
  | num (i : Nat) (bare wrong : Int)
/-- A directive's value: a closure, and what it has captured. -/
def DirOf (w : World) (g : Nat) : Kind → Value → Prop
  | .flag i, v => ∃ b, v = .agg #[.func (.func 67) #[] #[.pointer (some ⟨b, 0, none⟩)]] ∧ g < b ∧ Var w b (.pointer (some ⟨g, i, none⟩)) 110
  | .num i bare wrong, v => ∃ b0 b1 b2, v = .agg #[.func (.func 68) #[] #[.pointer (some ⟨b0, 0, none⟩), .pointer (some ⟨b1, 0, none⟩), .pointer (some ⟨b2, 0, none⟩)]] ∧ g < b0 ∧ g < b1 ∧ g < b2 ∧
      Var w b0 (.int .i64 bare) 3 ∧ Var w b1 (.int .i64 wrong) 3 ∧ Var w b2 (.pointer (some ⟨g, i, none⟩)) 112
theorem DirOf.same {w w' : World} {g : Nat} {k : Kind} {v : Value} (h : DirOf w g k v) (hb : ∀ b, g < b → b < w.heap.size → w'.heap[b]? = w.heap[b]?) : DirOf w' g k v := by
  cases k with
  | flag i =>
    obtain ⟨b, e, hg, hv⟩ := h
    exact ⟨b, e, hg, (hb b hg (block_lt hv)).trans hv⟩
  | num i bare wrong =>
    obtain ⟨b0, b1, b2, e, g0, g1, g2, v0, v1, v2⟩ := h
    exact ⟨b0, b1, b2, e, g0, g1, g2, (hb b0 g0 (block_lt v0)).trans v0, (hb b1 g1 (block_lt v1)).trans v1, (hb b2 g2 (block_lt v2)).trans v2⟩
theorem infoDir : (Tryd.prog.info? 93).map (·.size) = some 1 := by kernel_rfl

set_option maxHeartbeats 4000000 in
theorem flag_any (g i : Nat) (w : World) (hg : g < w.heap.size) : Calls Tryd.prog 57 #[.pointer (some ⟨g, i, none⟩)] w fun e w' => ∃ v, e = .returned v ∧ DirOf w' g (.flag i) v ∧ Below w.heap.size w w' := by
  go_enter Tryd.func57, Tryd.ntmps57
  go_wp2_with fail
  refine bodyPost_ret (results_one rfl _ _ (w.heap.size + 1) 93 _ (0, 0) _ rfl (new_block' _ _ (by simp)) Tryd.underlying93 rfl infoDir) rfl ?_
  refine ⟨_, rfl, ⟨w.heap.size, rfl, hg, ?_⟩, ((Below.refl _ _).alloc (Nat.le_refl _) _).alloc (by simp) _⟩
  exact (old_block _ _ (by simp)).trans (new_block _ _)
set_option maxHeartbeats 4000000 in
theorem number_any (g i : Nat) (bare wrong : Int) (w : World) (hg : g < w.heap.size) : Calls Tryd.prog 58 #[.pointer (some ⟨g, i, none⟩), .int .i64 bare, .int .i64 wrong] w fun e w' => ∃ v, e = .returned v ∧ DirOf w' g (.num i bare wrong) v ∧ Below w.heap.size w w' := by
  go_enter Tryd.func58, Tryd.ntmps58
  go_wp2_with fail
  refine bodyPost_ret (results_one rfl _ _ (w.heap.size + 3) 93 _ (0, 0) _ rfl (new_block' _ _ (by simp <;> omega)) Tryd.underlying93 rfl infoDir) rfl ?_
  refine ⟨_, rfl, ⟨w.heap.size + 1, w.heap.size + 2, w.heap.size, rfl, by omega, by omega, hg, ?_, ?_, ?_⟩, ((((Below.refl _ _).alloc (Nat.le_refl _) _).alloc (by simp <;> omega) _).alloc (by simp <;> omega) _).alloc (by simp <;> omega) _⟩
  · exact (old_block _ _ (by simp <;> omega)).trans ((old_block _ _ (by simp <;> omega)).trans (new_block' _ _ (by simp <;> omega)))
  · exact (old_block _ _ (by simp <;> omega)).trans (new_block' _ _ (by simp <;> omega))
  · exact (old_block _ _ (by simp <;> omega)).trans ((old_block _ _ (by simp <;> omega)).trans ((old_block _ _ (by simp <;> omega)).trans (new_block _ _)))
end Go.Proofs.YtjbdgndejbiikaaDoor.Ct
