/-
  Texts that the laws' proofs stand on, 9 of them in one file; each one's head says what it proves and under which condition.
-/
import Derived.Test.YtcolnidgembniaaDoorFrAllP3
import Derived.Deep.AppendSrc
import Derived.Test.YtcolnidgembniaaDoorFrAllP6
import Derived.Test.YtcolnidgembniaaDoorFrAllP5
import Derived.Deep.QuietTactic
import Derived.BigQuiet
import Derived.RegionTactic
import Derived.Deep.DeepCutAuto
import Derived.Test.YtcolnidgembniaaDoorFrAllP4
import Derived.Test.YtcolnidgembniaaDoorFrAllP1
import Derived.Deep.Matrix
/-
  Bytes in memory of a call's own, however they came there; an append of bytes, of a text or of nothing to them: one law for both ways. Condition: at most 2^40 bytes.
-/
namespace Go.Proofs.YtcolnidgembniaaDoor.Fr
open Go.RowKit Go.Proofs.YtcolnidgembniaaDoor.Tk Go.Proofs.YtcolnidgembniaaDoor.Fd Go.Proofs.YtcolnidgembniaaDoor.Hd
set_option linter.unusedVariables false

/-- A slice of bytes in a block that was laid since base, with what room it has; or nil. -/
def Own (w : World) (base : Nat) (v : Value) (l : Bs) : Prop :=
  (v = .slice none 0 0 ∧ l = []) ∨ ∃ g cap, v = .slice (some ⟨g, 0, none⟩) l.length cap ∧ base ≤ g ∧ g < w.heap.size ∧ l.length ≤ cap ∧ cap ≤ maxLen ∧
    (∀ j, j < cap → (w.cell? ⟨g, j, none⟩).isSome = true ∧ w.frozen? ⟨g, j, none⟩ = false) ∧ Holds w g 0 l
theorem Own.nil (w : World) (base : Nat) : Own w base (.slice none 0 0) [] := .inl ⟨rfl, rfl⟩
theorem Own.mono {w : World} {base base' : Nat} {v : Value} {l : Bs} (h : Own w base v l) (hb : base' ≤ base) : Own w base' v l := by
  rcases h with h | ⟨g, cap, hv, h1, h2⟩
  · exact .inl h
  · exact .inr ⟨g, cap, hv, by omega, h2⟩
theorem Own.form {w : World} {base : Nat} {v : Value} {l : Bs} (h : Own w base v l) : ∃ a cap, v = .slice a l.length cap := by
  rcases h with ⟨rfl, rfl⟩ | ⟨g, cap, hv, _⟩
  · exact ⟨none, 0, rfl⟩
  · exact ⟨_, cap, hv⟩
theorem Own.byts {w : World} {base : Nat} {v : Value} {l : Bs} (h : Own w base v l) : Byts w v l := by
  rcases h with ⟨rfl, rfl⟩ | ⟨g, cap, hv, h1, h2, h3, h4, _, h5⟩
  · exact .inl ⟨rfl, _, _, rfl⟩
  · exact .inr ⟨g, 0, cap, hv, h3, h4, h2, h5⟩
theorem Own.lt {w : World} {base : Nat} {v : Value} {l : Bs} (h : Own w base v l) (k : Nat) (hk : v.ownBlock = some k) : base ≤ k ∧ k < w.heap.size := by
  rcases h with ⟨rfl, _⟩ | ⟨g, cap, rfl, h1, h2, _⟩
  · cases hk
  · injection hk with hk; subst hk; exact ⟨h1, h2⟩
theorem cell_same {w w' : World} {g : Nat} (h : w'.heap[g]? = w.heap[g]?) (j : Nat) : w'.cell? ⟨g, j, none⟩ = w.cell? ⟨g, j, none⟩ := World.cell?_of_block (w := w) (a := ⟨g, j, none⟩) h
theorem frozen_same {w w' : World} {g : Nat} (h : w'.heap[g]? = w.heap[g]?) (j : Nat) : w'.frozen? ⟨g, j, none⟩ = w.frozen? ⟨g, j, none⟩ := World.frozen?_of_block (a := ⟨g, j, none⟩) h
theorem Own.same {w w' : World} {base : Nat} {v : Value} {l : Bs} (h : Own w base v l) (hs : w.heap.size ≤ w'.heap.size) (hb : ∀ k, v.ownBlock = some k → w'.heap[k]? = w.heap[k]?) : Own w' base v l := by
  rcases h with h | ⟨g, cap, hv, h1, h2, h3, h4, h5, h6⟩
  · exact .inl h
  · have hg := hb g (by rw [hv]; rfl)
    refine .inr ⟨g, cap, hv, h1, by omega, h3, h4, fun j hj => ?_, fun j hj => ?_⟩
    · rw [cell_same hg, frozen_same hg]; exact h5 j hj
    · rw [cell_same hg]; exact h6 j hj
theorem Own.below {w w' : World} {base : Nat} {v : Value} {l : Bs} (h : Own w base v l) (hb : Below w.heap.size w w') : Own w' base v l :=
  h.same hb.size (fun k hk => hb.block k (h.lt k hk).2)
theorem Own.chg {O : Nat → Prop} {w w' : World} {base : Nat} {v : Value} {l : Bs} (h : Own w base v l) (hc : Chg O w w') (ho : ∀ k, v.ownBlock = some k → ¬ O k) : Own w' base v l :=
  h.same hc.size (fun k hk => hc.block k (h.lt k hk).2 (ho k hk))
/-- A row of the call's own is such a slice. -/
theorem Own.row {w : World} {base : Nat} {v : Value} {l : Bs} (h : w.ownsRow base 5 1 v l.length (bys l)) : Own w base v l := by
  rcases h.2 with ⟨hv, h0⟩ | ⟨g, cap, cur, hv, hg, hh, hlc, hcm, hcs, _⟩
  · exact .inl ⟨hv, List.length_eq_zero_iff.1 h0⟩
  · have hB : OwnB w v l := owns_mono h (Nat.zero_le _)
    refine .inr ⟨g, cap, hv, hg, block_lt hh, hlc, hcm, fun j hj => ⟨?_, free hh j⟩, hB.holds hv⟩
    rw [Lib.cell_of_heap hh, Array.getElem?_eq_getElem (by omega)]; rfl
theorem below_setCells {B b : Nat} : ∀ (vs : List Value) (o : Nat) (a w : World), Below B a w → B ≤ b → Below B a (w.setCells b o vs)
  | [], _, _, _, h, _ => h
  | v :: r, o, a, w, h, hb => below_setCells r (o + 1) a _ (h.setCell (p := ⟨b, o, none⟩) hb v) hb
theorem size_setCells (b : Nat) : ∀ (vs : List Value) (o : Nat) (w : World), (w.setCells b o vs).heap.size = w.heap.size
  | [], _, _ => rfl
  | v :: r, o, w => by rw [World.setCells, size_setCells b r]; simp [World.setCell]
theorem other_setCells {b k : Nat} (hk : k ≠ b) : ∀ (vs : List Value) (o : Nat) (w : World), (w.setCells b o vs).heap[k]? = w.heap[k]?
  | [], _, _ => rfl
  | v :: r, o, w => by rw [World.setCells, other_setCells hk r]; exact Below.heap_setCell w ⟨b, o, none⟩ v k hk
/-- What an append leaves. -/
def AppPost (base : Nat) (v : Value) (l m : Bs) (w : World) (v' : Value) (w' : World) : Prop :=
  Own w' base v' (l ++ m) ∧ Chg (fun k => v.ownBlock = some k) w w' ∧ (v'.ownBlock = v.ownBlock ∨ v'.ownBlock = some w.heap.size)
theorem run_append_nil {P : Program} (w : World) (t tx ty e : TypeId) (i : TypeInfo) (ht : P.underlying t = some (.slice e)) (hi : P.info? e = some i) (x : Value) (hs : Src P i.size tx x 0 [] w) :
    (Builtin.append_ #[t, tx] ty #[.slice none 0 0, x]).run P w = .ok (.slice none 0 0) w := by
  rcases hs.kind with ⟨e', hk⟩ | hk <;> simp [Builtin.append_, run_underlying ht, run_underlying hk, Go.sizeOf, typeInfo, hi, hs.len, hs.cells]
theorem firstCells_holds (w : World) (g n cap : Nat) (l : Bs) (hn : l.length = n) (h : Holds w g 0 l) : (Builtin.firstCells 1 n (.slice (some ⟨g, 0, none⟩) n cap)).run Tryd.prog w = .ok (bys l).toArray w := by
  refine run_firstCells_some w 1 n ⟨g, 0, none⟩ n cap (bys l) (by rw [bys_length, hn, Nat.mul_one]) (fun j u hj => ?_)
  have hjl : j < l.length := by have := (List.getElem?_eq_some_iff.1 hj).1; rwa [bys_length] at this
  rw [bys_at l j hjl] at hj
  rw [Addr.add_lit]
  have := h j hjl
  rw [this]; exact hj
theorem holds_cells {w : World} {g : Nat} {l m : Bs} {cap : Nat} (h : Holds w g 0 l) (hc : ∀ j, j < cap → (w.cell? ⟨g, j, none⟩).isSome = true) (hr : l.length + m.length ≤ cap) : Holds (w.setCells g l.length (bys m)) g 0 (l ++ m) := by
  intro j hj
  rw [List.length_append] at hj
  rw [Nat.zero_add]
  by_cases h1 : j < l.length
  · rw [World.cell?_setCells_out g (bys m) l.length w ⟨g, j, none⟩ (fun _ _ => .inl h1), List.getElem_append_left h1]
    have := h j h1
    rwa [Nat.zero_add] at this
  · obtain ⟨k, rfl⟩ : ∃ k, j = l.length + k := ⟨j - l.length, by omega⟩
    have hk : k < (bys m).length := by rw [bys_length]; omega
    have h3 := World.cell?_setCells_in g (bys m) l.length w (fun i hi => hc _ (by rw [bys_length] at hi; omega)) k hk
    rw [h3]
    simp [bys]
theorem cells_some {w : World} {g o : Nat} (vs : List Value) (j : Nat) (hall : ∀ i, i < vs.length → (w.cell? ⟨g, o + i, none⟩).isSome = true) (h : (w.cell? ⟨g, j, none⟩).isSome = true) : ((w.setCells g o vs).cell? ⟨g, j, none⟩).isSome = true := by
  by_cases h1 : o ≤ j ∧ j < o + vs.length
  · obtain ⟨k, rfl⟩ : ∃ k, j = o + k := ⟨j - o, by omega⟩
    rw [World.cell?_setCells_in g vs o w hall k (by omega)]; rfl
  · rw [World.cell?_setCells_out g vs o w ⟨g, j, none⟩ (fun _ _ => by show j < o ∨ o + vs.length ≤ j; omega)]; exact h
set_option maxRecDepth 100000 in
theorem run_append_own (w : World) (tx ty : TypeId) (base : Nat) (v x : Value) (l m : Bs) (hb : base ≤ w.heap.size) (h : Own w base v l) (hx : Src Tryd.prog 1 tx x m.length (bys m) w) (hl : l.length + m.length ≤ 1099511627776) :
    ∃ v' w', (Builtin.append_ #[39, tx] ty #[v, x]).run Tryd.prog w = .ok v' w' ∧ AppPost base v l m w v' w' := by
  obtain ⟨i0, hi, hz0, hz1, hz2⟩ := info_parts infoByte3
  have hx' : Src Tryd.prog i0.size tx x m.length (bys m) w := by rw [hz1]; exact hx
  have grow : ∀ (bo : Option Addr) (cap : Nat), v = .slice bo l.length cap → cap < l.length + m.length → (Builtin.firstCells 1 l.length (.slice bo l.length cap)).run Tryd.prog w.drew = .ok (bys l).toArray w.drew → ∃ v' w', (Builtin.append_ #[39, tx] ty #[v, x]).run Tryd.prog w = .ok v' w' ∧ AppPost base v l m w v' w' := by
    intro bo cap hv hc ho
    have hmx : (l ++ m).length = l.length + m.length := List.length_append
    have hgm := grownCap_le_maxLen w (l.length + m.length) cap 5 (by unfold maxLen; omega)
    have hge := grownCap_ge w (l.length + m.length) cap 5
    refine ⟨_, _, by rw [hv]; exact run_append_grow_src w 39 tx ty 5 i0 (.int .u8 0) Tryd.underlying39 hi hz0 bo l.length cap (bys l) (by rw [hz1]; exact ho) x m.length (bys m) hx' hc (by omega) (growslice_fits hc (by rw [hz2]; omega)), ?_, ?_, .inr rfl⟩
    · have hB := new_block' (g := w.heap.size) w.drew (.cells ((bys l ++ bys m).toArray ++ Builtin.zeroCells (Value.int .u8 0).cells (grownCap w (l.length + m.length) cap 5 - (l.length + m.length))) 5) rfl
      refine .inr ⟨w.heap.size, _, by rw [hmx], hb, by simp, by rw [hmx]; exact hge, hgm, fun j hj => ⟨?_, free hB j⟩, fun j hj => ?_⟩
      · rw [Lib.cell_of_heap hB, Array.getElem?_eq_getElem (by simp [size_zeroCells, bys_length, Value.cells]; omega)]; rfl
      · rw [hmx] at hj
        rw [Lib.cell_of_heap hB, Nat.zero_add, Array.getElem?_append_left (by simp [bys_length]; omega), List.getElem?_toArray, ← bys_append, bys_at _ j (by rw [hmx]; exact hj)]
    · exact (Chg.refl _ w).drew.alloc _
  rcases h with ⟨rfl, rfl⟩ | ⟨g, cap, rfl, h1, h2, h3, h4, h5, h6⟩
  · by_cases hm : m.length = 0
    · obtain rfl : m = [] := List.length_eq_zero_iff.1 hm
      exact ⟨_, _, run_append_nil w 39 tx ty 5 i0 Tryd.underlying39 hi x hx', Own.nil _ _, Chg.refl _ _, .inl rfl⟩
    · exact grow none 0 rfl (by simp; omega) (run_firstCells_none w.drew 1 0 0 0)
  · by_cases hr : l.length + m.length ≤ cap
    · have hc : ∀ j, j < (bys m).length → (w.cell? ⟨g, 0 + l.length * i0.size + j, none⟩).isSome = true := fun j hj => by rw [hz1, bys_length] at *; exact (h5 _ (by omega)).1
      have hf : ∀ j, j < (bys m).length → w.frozen? ⟨g, 0 + l.length * i0.size + j, none⟩ = false := fun j hj => by rw [hz1, bys_length] at *; exact (h5 _ (by omega)).2
      have hrun := run_append_room_src (P := Tryd.prog) w 39 tx ty 5 i0 Tryd.underlying39 hi g 0 l.length cap x m.length (bys m) hx' hr hc hf
      rw [hz1, Nat.mul_one, Nat.zero_add] at hrun
      have hb2 : Below g w (w.setCells g l.length (bys m)) := below_setCells _ _ _ _ (Below.refl _ _) (Nat.le_refl _)
      refine ⟨_, _, hrun, .inr ⟨g, cap, by rw [List.length_append], h1, by rw [size_setCells]; exact h2, by rw [List.length_append]; exact hr, h4, fun j hj => ⟨?_, ?_⟩, holds_cells h6 (fun j hj => (h5 j hj).1) hr⟩, ?_, .inl rfl⟩
      · exact cells_some _ _ (fun i hi => (h5 _ (by rw [bys_length] at hi; omega)).1) (h5 j hj).1
      · rw [World.frozen?_setCells]; exact (h5 j hj).2
      · refine ⟨hb2.os, hb2.tape, hb2.output, by rw [size_setCells]; exact Nat.le_refl _, fun k hk ho => other_setCells (fun e => ho (by rw [e]; rfl)) _ _ _⟩
    · exact grow _ cap rfl (by omega) (firstCells_holds w.drew g l.length cap l rfl h6)
/-- An append to bytes of the call's own, in one way. -/
theorem wpList_append_any (w : World) {ops : Array Oper} {rest : List Oper} {o : Oper} {a : Act} {Q : Exit → Act → World → Prop} (hg : o.guard = none) (s x : Operand) (tx : TypeId)
    (hop : o.op = Op.call { callee := Callee.builtin Builtin.append, args := #[s, x], argTypes := #[39, tx] }) (base : Nat) (v y : Value) (l m : Bs) (hs : a.eval s = v) (hy : a.eval x = y) (hb : base ≤ w.heap.size) (h : Own w base v l)
    (hx : Src Tryd.prog 1 tx y m.length (bys m) w) (hl : l.length + m.length ≤ 1099511627776)
    (hK : ∀ v' w', AppPost base v l m w v' w' → wpList Tryd.prog ops Q rest (a.put o.dst v') w') : wpList Tryd.prog ops Q (o :: rest) a w := by
  refine wpList_plain hg fun K hK' => ?_
  obtain ⟨v', w', hrun, hp⟩ := run_append_own w tx o.type base v y l m hb h hx hl
  unfold Oper.wp
  simp [execOp, hop, resolve, invoke, builtin, hs, hy, hrun, Result.andThen]
  exact hK' _ _ (hK v' w' hp)
/-- What is appended: bytes in memory, a text, or none. -/
theorem src_byts {w : World} {v : Value} {m : Bs} (h : Byts w v m) : Src Tryd.prog 1 39 v m.length (bys m) w := by
  rcases h with ⟨rfl, a, cap, rfl⟩ | ⟨b, off, cap, rfl, h1, h2, h3, h4⟩
  · cases a with
    | none => exact Src.ofNil w Tryd.underlying39 cap
    | some a => exact Src.ofSlice w Tryd.underlying39 a 0 cap [] rfl (fun j u hj => by simp at hj) (fun u hu => by simp at hu)
  · refine Src.ofSlice w Tryd.underlying39 ⟨b, off, none⟩ m.length cap (bys m) (by rw [bys_length, Nat.mul_one]) (fun j u hj => ?_) (bys_one m)
    have hjl : j < m.length := by have := (List.getElem?_eq_some_iff.1 hj).1; rwa [bys_length] at this
    rw [bys_at m j hjl] at hj
    rw [Addr.add_lit, h4 j hjl, hj]
theorem src_text (w : World) (s : ByteArray) : Src Tryd.prog 1 9 (.string s) s.data.toList.length (bys s.data.toList) w := by
  have h := Src.ofString (P := Tryd.prog) w Tryd.underlying9 s
  have e : s.data.toList.length = s.size := by simp
  rw [e]
  exact h
/-- Bytes of the call's own, as a text. -/
theorem conv_own {w : World} {base : Nat} {v : Value} {l : Bs} (h : Own w base v l) : (convert 39 9 v).run Tryd.prog w = .ok (.string ⟨l.toArray⟩) w := by
  rcases h with ⟨rfl, rfl⟩ | ⟨g, cap, rfl, _, _, _, _, _, h⟩
  · exact run_convert_bytes_nil w 39 5 Tryd.underlying39 Tryd.underlying5 0 0 9 Tryd.underlying9
  · exact Tk.run_back (P := Tryd.prog) w 39 9 5 g 0 cap l Tryd.underlying39 Tryd.underlying5 Tryd.underlying9 h
end Go.Proofs.YtcolnidgembniaaDoor.Fr
/-
  Where the reference's Feed stands at its loop's head, and what a byte leaves. No condition.
-/
namespace Go.Proofs.YtcolnidgembniaaDoor.Fr
open Go.RowKit Go.Proofs.YtcolnidgembniaaDoor.Tk Go.Proofs.YtcolnidgembniaaDoor.Fd Go.Proofs.YtcolnidgembniaaDoor.Hd
set_option linter.unusedVariables false

/-- Where the reference's Feed stands at its loop's head. -/
structure RAt (g : Nat) (s : St) (b : Bs) (w : World) (k : Nat) (acc : Bs) (st : St) (ov : Value) (wr : World) : Prop where
  le : k ≤ b.length
  eq : run s b = (acc ++ (run st (b.drop k)).1, k + (run st (b.drop k)).2.1, (run st (b.drop k)).2.2)
  good : Good st
  accLe : acc.length ≤ k
  own : Own wr w.heap.size ov acc
  dec : RDec wr g st
  chg : Chg (fun k => k = g) w wr
theorem RAt.start {g : Nat} {s : St} {b : Bs} {w : World} (h : RDec w g s) (hG : Good s) : RAt g s b w 0 [] s (.slice none 0 0) w :=
  ⟨Nat.zero_le _, by simp, hG, Nat.le_refl _, Own.nil _ _, h, Chg.refl _ _⟩
theorem RAt.ends {g : Nat} {s : St} {b : Bs} {w : World} {k : Nat} {acc : Bs} {st : St} {ov : Value} {wr : World} (h : RAt g s b w k acc st ov wr) (ho : over st = true ∨ k = b.length) : run s b = (acc, k, st) := by
  rw [h.eq]
  rcases ho with ho | ho
  · rw [run_over ho]; simp
  · rw [ho, List.drop_length, run_nil]; simp
theorem RAt.next {g : Nat} {s : St} {b : Bs} {w : World} {k : Nat} {acc : Bs} {st : St} {ov : Value} {wr : World} (h : RAt g s b w k acc st ov wr) (hk : k < b.length) (ho : over st = false)
    {x : Bs} {st' : St} (hs : step st b[k] = (x, st')) {ov' : Value} {w' : World} (hown : Own w' w.heap.size ov' (acc ++ x)) (hdec : RDec w' g st') (hc : Chg (fun k => k = g) w w') : RAt g s b w (k + 1) (acc ++ x) st' ov' w' := by
  refine ⟨by omega, ?_, ?_, ?_, hown, hdec, hc⟩
  · rw [h.eq, List.drop_eq_getElem_cons hk, run_cons ho, hs]
    simp only [List.append_assoc, Prod.mk.injEq, true_and, and_true]
    omega
  · have := good_step h.good b[k]; rw [hs] at this; exact this
  · have := step_out st b[k]; rw [hs] at this; have h2 := h.accLe; rw [List.length_append]; simp at this; omega
theorem RDec.tells {w : World} {g : Nat} {s : St} (h : RDec w g s) : ∃ K L S P o, RBlk w g K L S P o (doneOf s) (errOf s) := by
  cases s with
  | len n => exact ⟨_, _, _, _, _, h⟩
  | opn n => obtain ⟨S, _, h⟩ := h; exact ⟨_, _, _, _, _, h⟩
  | size m l => obtain ⟨S, _, h⟩ := h; exact ⟨_, _, _, _, _, h⟩
  | chunk m n => obtain ⟨S, _, h⟩ := h; exact ⟨_, _, _, _, _, h⟩
  | gap m l => obtain ⟨S, _, h⟩ := h; exact ⟨_, _, _, _, _, h⟩
  | trail m l => obtain ⟨S, _, h⟩ := h; exact ⟨_, _, _, _, _, h⟩
  | done => exact h
  | bad e => exact h
theorem RBlk.below {w w' : World} {g K L S P E : Nat} {o : ByteArray} {D : Bool} (h : RBlk w g K L S P o D E) (hb : Below w.heap.size w w') : RBlk w' g K L S P o D E := Bl.old hb (block_lt h) h
theorem RDec.below {w w' : World} {g : Nat} {s : St} (h : RDec w g s) (hb : Below w.heap.size w w') : RDec w' g s := by
  cases s with
  | len n => exact RBlk.below h hb
  | opn n => obtain ⟨S, h1, h⟩ := h; exact ⟨S, h1, h.below hb⟩
  | size m l => obtain ⟨S, h1, h⟩ := h; exact ⟨S, h1, h.below hb⟩
  | chunk m n => obtain ⟨S, h1, h⟩ := h; exact ⟨S, h1, h.below hb⟩
  | gap m l => obtain ⟨S, h1, h⟩ := h; exact ⟨S, h1, h.below hb⟩
  | trail m l => obtain ⟨S, h1, h⟩ := h; exact ⟨S, h1, h.below hb⟩
  | done => obtain ⟨K, L, S, P, o, h⟩ := h; exact ⟨K, L, S, P, o, h.below hb⟩
  | bad e => obtain ⟨K, L, S, P, o, h⟩ := h; exact ⟨K, L, S, P, o, h.below hb⟩
def RFeedPost (g : Nat) (s : St) (b : Bs) (w : World) (e : Ending) (w' : World) : Prop :=
  ∃ ov, e = .returned (.tuple #[ov, .int .i64 ((run s b).2.1 : Nat), .bool (doneOf (run s b).2.2), .int .i64 (errOf (run s b).2.2 : Nat)]) ∧ Own w' w.heap.size ov (run s b).1 ∧ RDec w' g (run s b).2.2 ∧ Chg (fun k => k = g) w w'
theorem RAt.post {g : Nat} {s : St} {b : Bs} {w : World} {k : Nat} {acc : Bs} {st : St} {ov : Value} {wr : World} (h : RAt g s b w k acc st ov wr) (ho : over st = true ∨ k = b.length) {n : Nat} :
    RFeedPost g s b w (.returned (.tuple #[ov, .int .i64 (k : Int), .bool (doneOf st), .int .i64 (errOf st : Nat)])) (wr.drewN n) := by
  unfold RFeedPost
  rw [h.ends ho]
  exact ⟨ov, rfl, h.own.below (below_drewN (Below.refl _ _) n), h.dec.below (below_drewN (Below.refl _ _) n), h.chg.drewN n⟩
theorem byts_one (w : World) (c : UInt8) : Byts (w.alloc (.cells #[.int .u8 (c.toNat : Int)] 5)) (.slice (some ⟨w.heap.size, 0, none⟩) 1 1) [c] := by
  have HN := new_block w (.cells #[.int .u8 (c.toNat : Int)] 5)
  refine .inr ⟨w.heap.size, 0, 1, rfl, Nat.le_refl 1, by unfold maxLen; omega, by simp, fun j hj => ?_⟩
  rw [Lib.cell_of_heap HN, Nat.zero_add]
  have : j = 0 := by simpa using hj
  subst this; rfl
/-- What an append of a byte leaves of the decoder and of the bytes. -/
theorem app_one {x : World} {g base : Nat} {ov : Value} {acc : Bs} {c : UInt8} {v' : Value} {w' : World} (hown : Own x base ov acc) (hgb : g < base) (hp : AppPost base ov acc [c] (x.alloc (.cells #[.int .u8 (c.toNat : Int)] 5)) v' w') :
    Own w' base v' (acc ++ [c]) ∧ (∀ K L S P o D E, RBlk x g K L S P o D E → RBlk w' g K L S P o D E) ∧ Chg (fun k => base ≤ k) x w' := by
  obtain ⟨h1, h2, _⟩ := hp
  have hne : ¬ ov.ownBlock = some g := fun e => by have := (hown.lt _ e).1; omega
  refine ⟨h1, fun K L S P o D E hb => ?_, ?_⟩
  · exact h2.old (k := g) hne ((old_block _ _ (block_lt hb)).trans hb)
  · exact ((Chg.refl (fun k => base ≤ k) x).alloc _).trans h2 (fun k hk => .inl (hown.lt _ hk).1)
end Go.Proofs.YtcolnidgembniaaDoor.Fr
/-
  The reference's Feed: what it returns and leaves. Condition: at most 2^40 bytes are fed.
-/
namespace Go.Proofs.YtcolnidgembniaaDoor.Fr
open Go.RowKit Go.Proofs.YtcolnidgembniaaDoor.Tk Go.Proofs.YtcolnidgembniaaDoor.Fd Go.Proofs.YtcolnidgembniaaDoor.Hd
set_option linter.unusedVariables false

theorem last_get {T : ByteArray} {l i : Bs} {d : UInt8} (hT : T = txt l) (hl : l = i ++ [d]) (h : l.length - 1 < T.size) : T[l.length - 1] = d := by
  subst hT hl
  rw [ByteArray.getElem_eq_getElem_data]
  show (i ++ [d]).toArray[(i ++ [d]).length - 1]'_ = d
  simp
theorem last_no {T : ByteArray} {l i : Bs} {d : UInt8} (hT : T = txt l) (hl : l = i ++ [d]) (h : l.length - 1 < T.size) (h3 : (((T[l.length - 1]'h).toNat : Int) == 13) = false) : T = txt (own l) := by
  rw [last_get hT hl h] at h3
  have hd : d ≠ 13 := by rintro rfl; revert h3; decide
  rw [hT, hl]
  simp [own, hd]
theorem last_13 {T : ByteArray} {l i : Bs} {d : UInt8} (hT : T = txt l) (hl : l = i ++ [d]) (h : l.length - 1 < T.size) (h3 : (((T[l.length - 1]'h).toNat : Int) == 13) = true) : T.extract 0 (l.length - 1) = txt (own l) := by
  rw [last_get hT hl h] at h3
  have hd : d = 13 := by
    apply UInt8.toNat.inj
    have := eq_of_beq h3
    show d.toNat = 13
    omega
  rw [hT, hl]
  subst hd
  apply of_data
  rw [ByteArray.data_extract, Array.toList_extract, List.extract_eq_take_drop]
  simp [txt, own]
/-- The reference's decoder at a line. -/
theorem RDec.line {w : World} {g : Nat} {s : St} {l : Bs} (h : RDec w g s) (hl : lineOf s = some l) :
    ∃ S P, (P = 0 ∨ P = 2 ∨ P = 3) ∧ RBlk w g 2 0 S P (txt l) false 0 ∧ ∀ w' x, RBlk w' g 2 0 S P (txt x) false 0 → RDec w' g (onto (emptied s) x) := by
  cases s with
  | size m k => cases hl; obtain ⟨S, h1, h⟩ := h; exact ⟨S, 0, .inl rfl, h, fun w' x hx => ⟨S, h1, hx⟩⟩
  | gap m k => cases hl; obtain ⟨S, h1, h⟩ := h; exact ⟨S, 2, .inr (.inl rfl), h, fun w' x hx => ⟨S, h1, hx⟩⟩
  | trail m k => cases hl; obtain ⟨S, h1, h⟩ := h; exact ⟨S, 3, .inr (.inr rfl), h, fun w' x hx => ⟨S, h1, hx⟩⟩
  | _ => cases hl
theorem bare_emptied {s : St} {l : Bs} (h : lineOf s = some l) : bare (onto (emptied s) []) ∧ ended (onto (emptied s) []) = ended s ∧ ∀ x, onto (emptied s) (l ++ x) = onto s x := by
  cases s <;> first | (injection h with h; subst h; exact ⟨rfl, rfl, fun x => rfl⟩) | cases h
theorem no_line {s : St} (h : over s = false) (hl : lineOf s = none) : (∃ n, s = .len n) ∨ (∃ n, s = .opn n) ∨ ∃ m n, s = .chunk m n := by
  cases s with
  | len n => exact .inl ⟨n, rfl⟩
  | opn n => exact .inr (.inl ⟨n, rfl⟩)
  | chunk m n => exact .inr (.inr ⟨m, n, rfl⟩)
  | done => cases h
  | bad e => cases h
  | _ => cases hl
set_option maxRecDepth 100000 in
set_option maxHeartbeats 16000000 in
theorem rfeed_any (g : Nat) (s : St) (v : Value) (b : Bs) (w : World) (h : RDec w g s) (hG : Good s) (hv : Byts w v b) (hvo : 0 < b.length → v.ownBlock ≠ some g) (hbl : b.length ≤ 1099511627775) (hg : g < w.heap.size) :
    Calls Tryd.prog 19 #[.pointer (some ⟨g, 0, none⟩), v] w (RFeedPost g s b w) := by
  obtain ⟨va, vc, hvs⟩ := hv.shape
  have HF0 := Lib.hid (RAt.start (b := b) h hG)
  have HV := Lib.hid hv
  subst hvs
  clear h hv hG
  go_enter Tryd.func19, Tryd.ntmps19
  go_wp2_with fail
  go_loopw [8, 9, 10, 11] (fun v8 v9 v10 v11 wr => ∃ (k : Nat) (acc : Bs) (st : St), v9 = .int .i64 (k : Int) ∧ RAt g s b w k acc st v8 wr) (fun _ v9 _ _ _ => b.length - (intOf v9).toNat)
  case atStart => exact ⟨0, [], s, rfl, HF0.out⟩
  case round =>
    obtain ⟨k, acc, st, rfl, hAt⟩ := hrel
    have HA := Lib.hid hAt
    have hk := hAt.le
    have HP := Lib.hid (fun (n : Nat) (ho : over st = true ∨ k = b.length) => (show RFeedPost g s b w (.returned (.tuple #[u8, .int .i64 (k : Int), .bool (doneOf st), .int .i64 (errOf st : Nat)])) (wr.drewN n) from hAt.post ho))
    clear hAt
    by_cases hlt : k < b.length
    · cases hov : over st with
      | true =>
        have HOv := Lib.hid hov
        obtain ⟨K, L, S, P, o, hb⟩ := HA.out.dec.tells
        have c5 := rd5 hb
        have c6 := rd6 hb
        have hGs := HA.out.good
        cases st with
        | done =>
          have c6' : wr.cell? ⟨g, 6, none⟩ = some (.int .i64 0) := c6
          have c5' : wr.cell? ⟨g, 5, none⟩ = some (.bool true) := c5
          clear c5 c6 hb hov hGs
          go_wp2_with fail
          go_quiet (fail)
          all_goals try go_wp2_with fail
          all_goals
            refine bodyPost_ret (four_results rfl _ _ _) rfl ?_
            exact HP.out _ (.inl HOv.out)
        | bad e =>
          have he : e ≠ 0 := by rcases hGs with h | h | h | h <;> omega
          have hne : ((e : Int) == 0) = false := by rw [beq_eq_false_iff_ne]; omega
          have c6' : wr.cell? ⟨g, 6, none⟩ = some (.int .i64 (e : Int)) := c6
          have c5' : wr.cell? ⟨g, 5, none⟩ = some (.bool false) := c5
          clear c5 c6 hb hov hGs he
          go_wp2_with fail
          go_quiet (fail)
          all_goals try go_wp2_with fail
          all_goals
            refine bodyPost_ret (four_results rfl _ _ _) rfl ?_
            exact HP.out _ (.inl HOv.out)
        | _ => cases hov
      | false =>
        rcases HV.out with ⟨hb0, _⟩ | ⟨B, off, cap, hve, hcap, hcm, hB, hh⟩
        · rw [hb0] at hlt; simp at hlt
        injection hve with e1 e2 e3
        subst e1 e3
        have hBg : ¬ B = g := fun e => hvo (by omega) (by subst e; rfl)
        obtain ⟨c, hc⟩ : ∃ c, c = b[k] := ⟨_, rfl⟩
        have cb : wr.cell? ⟨B, off + k, none⟩ = some (.int .u8 (c.toNat : Int)) := by rw [World.cell?_of_block (w := w) (HA.out.chg.block B hB hBg), hc]; exact hh k hlt
        have HN := Lib.hid (fun (x : Bs) (st' : St) (hs : step st c = (x, st')) (ov' : Value) (w' : World) (h1 : Own w' w.heap.size ov' (acc ++ x)) (h2 : RDec w' g st') (h3 : Chg (fun k => k = g) w w') => HA.out.next hlt hov (by rw [← hc]; exact hs) h1 h2 h3)
        have hcm' : vc ≤ 9223372036854775807 := by unfold maxLen at hcm; omega
        have hck : k < vc := by omega
        have hal := HA.out.accLe
        have hws : w.heap.size ≤ wr.heap.size := HA.out.chg.size
        have hgw : g < wr.heap.size := by omega
        clear hh hc e2 hcm hBg
        cases hl : lineOf st with
        | none =>
          rcases no_line hov hl with ⟨n, hst⟩ | ⟨n, hst⟩ | ⟨m, n, hst⟩
          · subst hst
            have hb : RBlk wr g 1 n 0 0 ⟨#[]⟩ false 0 := HA.out.dec
            have hn0 : 0 < n := HA.out.good.1
            have hn1 : n ≤ 1048576 := HA.out.good.2
            obtain ⟨m, rfl⟩ : ∃ m, n = m + 1 := ⟨n - 1, by omega⟩
            have HBk := Lib.hid hb
            have c0 : wr.cell? ⟨g, 0, none⟩ = some (.int .i64 1) := rd0 hb
            have c5 := rd5 hb
            have c6 : wr.cell? ⟨g, 6, none⟩ = some (.int .i64 0) := rd6 hb
            have HO := Lib.hid ((HA.out.own).below ((Below.refl wr.heap.size wr).alloc (Nat.le_refl _) (.cells #[.int .u8 (c.toNat : Int)] 5)))
            have HY := Lib.hid (byts_one wr c)
            have hs1 : w.heap.size ≤ (wr.alloc (.cells #[.int .u8 (c.toNat : Int)] 5)).heap.size := by simp; omega
            have HOW := Lib.hid HA.out.own
            have HCH := Lib.hid HA.out.chg
            have HL1 := Lib.hid (show acc.length + [c].length ≤ 1099511627776 from by simp; omega)
            clear hb hov hl
            by_cases hm : m = 0
            · subst hm
              have HS := Lib.hid (show step (.len 1) c = ([c], .done) from rfl)
              go_wp2_with (at_builtin; refine wpList_append_any _ rfl _ _ 39 rfl w.heap.size _ _ acc [c] rfl rfl hs1 HO.out (src_byts HY.out) HL1.out ?_; intro v4 w4 hp4; obtain ⟨ho4, hk4, hc4⟩ := app_one HOW.out hg hp4; obtain ⟨a4, cc4, hv4⟩ := ho4.form; obtain ⟨n4, hn4⟩ : ∃ n4, n4 = (acc ++ [c]).length := ⟨_, rfl⟩; rw [← hn4] at hv4; subst hv4; have HO4 := Lib.hid ho4; have HK4 := Lib.hid hk4; have HC4 := Lib.hid (HCH.out.trans hc4 (fun i hi => .inr hi)); have hq4 := hk4 _ _ _ _ _ _ _ HBk.out; have q0 : w4.cell? ⟨g, 0, none⟩ = some (.int .i64 1) := rd0 hq4; have q1 := rd1 hq4; have q5 := rd5 hq4; have r1 := free hq4 1; have r5 := free hq4 5; clear hq4; clear hn4 ho4 hk4 hc4 hp4)
              have HFin := Lib.hid (HN.out _ _ HS.out _ ((w4.setCell ⟨g, 1, none⟩ (.int .i64 0)).setCell ⟨g, 5, none⟩ (.bool true)) (HO4.out.chg ((Chg.refl (fun k => k = g) w4).put ⟨g, 1, none⟩ _ (.inl rfl) |>.put ⟨g, 5, none⟩ _ (.inl rfl)) (fun k hk e => by have := (HO4.out.lt k hk).1; omega)) ⟨_, _, _, _, _, rd_put5 (rd_put1 (HK4.out _ _ _ _ _ _ _ HBk.out) 0) true⟩ ((HC4.out.put ⟨g, 1, none⟩ _ (.inl rfl)).put ⟨g, 5, none⟩ _ (.inl rfl)))
              go_wp2_with fail
              go_roundw
              case rel => exact ⟨k + 1, _, _, by go_num, HFin.out⟩
              case measure => simp [intOf]; omega
            · have HS := Lib.hid (show step (.len (m + 1)) c = ([c], .len m) from by show ([c], if m + 1 ≤ 1 then St.done else .len (m + 1 - 1)) = _; rw [if_neg (by omega)]; rfl)
              have hz : ¬ ((m : Int) = 0) := by omega
              have hz2 : ((m : Int) == 0) = false := by simp; omega
              go_wp2_with (at_builtin; refine wpList_append_any _ rfl _ _ 39 rfl w.heap.size _ _ acc [c] rfl rfl hs1 HO.out (src_byts HY.out) HL1.out ?_; intro v4 w4 hp4; obtain ⟨ho4, hk4, hc4⟩ := app_one HOW.out hg hp4; obtain ⟨a4, cc4, hv4⟩ := ho4.form; obtain ⟨n4, hn4⟩ : ∃ n4, n4 = (acc ++ [c]).length := ⟨_, rfl⟩; rw [← hn4] at hv4; subst hv4; have HO4 := Lib.hid ho4; have HK4 := Lib.hid hk4; have HC4 := Lib.hid (HCH.out.trans hc4 (fun i hi => .inr hi)); have hq4 := hk4 _ _ _ _ _ _ _ HBk.out; have q0 : w4.cell? ⟨g, 0, none⟩ = some (.int .i64 1) := rd0 hq4; have q1 := rd1 hq4; have q5 := rd5 hq4; have r1 := free hq4 1; have r5 := free hq4 5; clear hq4; clear hn4 ho4 hk4 hc4 hp4)
              have HFin := Lib.hid (HN.out _ _ HS.out _ (w4.setCell ⟨g, 1, none⟩ (.int .i64 (m : Int))) (HO4.out.chg ((Chg.refl (fun k => k = g) w4).put ⟨g, 1, none⟩ _ (.inl rfl)) (fun k hk e => by have := (HO4.out.lt k hk).1; omega)) (show RDec _ g (.len m) from rd_put1 (HK4.out _ _ _ _ _ _ _ HBk.out) m) (HC4.out.put ⟨g, 1, none⟩ _ (.inl rfl)))
              go_wp2_with fail
              go_roundw
              case rel => exact ⟨k + 1, _, _, by go_num, HFin.out⟩
              case measure => simp [intOf]; omega
          · subst hst
            obtain ⟨SS, hSS, hb⟩ := HA.out.dec
            have c0 : wr.cell? ⟨g, 0, none⟩ = some (.int .i64 3) := rd0 hb
            have c2 := rd2 hb
            have c5 := rd5 hb
            have c6 : wr.cell? ⟨g, 6, none⟩ = some (.int .i64 0) := rd6 hb
            have f2 := free hb 2
            have hS6 : SS ≤ 1048576 := by omega
            obtain ⟨x0, hx0⟩ : ∃ x0, x0 = wr.setCell ⟨g, 2, none⟩ (.int .i64 ((SS : Int) + 1)) := ⟨_, rfl⟩
            have hb0 : RBlk x0 g 3 0 (SS + 1) 0 ⟨#[]⟩ false 0 := by rw [hx0]; exact rd_put2 hb (SS + 1)
            have hc0 : Chg (fun k => k = g) w x0 := by rw [hx0]; exact HA.out.chg.put ⟨g, 2, none⟩ _ (.inl rfl)
            have ho0 : Own x0 w.heap.size u8 acc := HA.out.own.chg (O := fun k => k = g) (by rw [hx0]; exact (Chg.refl _ wr).put ⟨g, 2, none⟩ _ (.inl rfl)) (fun k hk e => by have := (HA.out.own.lt k hk).1; omega)
            have x2 := rd2 hb0
            have x5 := rd5 hb0
            have x6 : x0.cell? ⟨g, 6, none⟩ = some (.int .i64 0) := rd6 hb0
            have y6 := free hb0 6
            have HBk := Lib.hid hb0
            have HX0 := Lib.hid hx0
            have HCH := Lib.hid hc0
            have HOW := Lib.hid ho0
            by_cases hn : n = 0
            · subst hn
              have hS7 : 1048576 < (SS : Int) + 1 := by omega
              have HS := Lib.hid (show step (.opn 0) c = ([], .bad 3) from rfl)
              have hfin := HN.out _ _ HS.out u8 (x0.setCell ⟨g, 6, none⟩ (.int .i64 3)) (by rw [List.append_nil]; exact ho0.chg (O := fun k => k = g) ((Chg.refl _ x0).put ⟨g, 6, none⟩ _ (.inl rfl)) (fun k hk e => by have := (ho0.lt k hk).1; omega)) ⟨_, _, _, _, _, rd_put6 hb0 3⟩ (hc0.put ⟨g, 6, none⟩ _ (.inl rfl))
              have HPo := Lib.hid (fun (m : Nat) => (show RFeedPost g s b w (.returned (.tuple #[u8, .int .i64 ((k : Int) + 1), .bool false, .int .i64 3])) ((x0.setCell ⟨g, 6, none⟩ (.int .i64 3)).drewN m) from by have := hfin.post (n := m) (.inl rfl); exact this))
              clear hb hSS hx0 hb0 hc0 ho0 hov hl hfin
              go_upto_region 8 with fail
              rw [← HX0.out]
              clear c0 c2 c5 c6 f2
              go_wp2_with fail
              go_quiet (fail)
              all_goals try go_wp2_with fail
              all_goals
                refine bodyPost_ret (four_results rfl _ _ _) rfl ?_
                exact HPo.out _
            · obtain ⟨m, rfl⟩ : ∃ m, n = m + 1 := ⟨n - 1, by omega⟩
              have hS7 : ¬ (1048576 < (SS : Int) + 1) := by omega
              have HS := Lib.hid (show step (.opn (m + 1)) c = ([c], .opn m) from rfl)
              have hSm : SS + 1 + m = 1048576 := by omega
              have HSm := Lib.hid hSm
              have HO := Lib.hid (ho0.below ((Below.refl x0.heap.size x0).alloc (Nat.le_refl _) (.cells #[.int .u8 (c.toNat : Int)] 5)))
              have HY := Lib.hid (byts_one x0 c)
              have hs1 : w.heap.size ≤ (x0.alloc (.cells #[.int .u8 (c.toNat : Int)] 5)).heap.size := by have := hc0.size; simp; omega
              have HL1 := Lib.hid (show acc.length + [c].length ≤ 1099511627776 from by simp; omega)
              clear hb hSS hx0 hb0 hc0 ho0 hov hl hn hSm
              go_upto_region 8 with fail
              rw [← HX0.out]
              clear c0 c2 c5 c6 f2
              go_wp2_with (at_builtin; refine wpList_append_any _ rfl _ _ 39 rfl w.heap.size _ _ acc [c] rfl rfl hs1 HO.out (src_byts HY.out) HL1.out ?_; intro v4 w4 hp4; obtain ⟨ho4, hk4, hc4⟩ := app_one HOW.out hg hp4; obtain ⟨a4, cc4, hv4⟩ := ho4.form; obtain ⟨n4, hn4⟩ : ∃ n4, n4 = (acc ++ [c]).length := ⟨_, rfl⟩; rw [← hn4] at hv4; subst hv4; have HO4 := Lib.hid ho4; have HK4 := Lib.hid hk4; have HC4 := Lib.hid (HCH.out.trans hc4 (fun i hi => .inr hi)); clear hs1; clear hn4 ho4 hk4 hc4 hp4)
              have HFin := Lib.hid (HN.out _ _ HS.out _ w4 HO4.out ⟨SS + 1, HSm.out, HK4.out _ _ _ _ _ _ _ HBk.out⟩ HC4.out)
              go_wp2_with fail
              go_roundw
              case rel => exact ⟨k + 1, _, _, by go_num, HFin.out⟩
              case measure => simp [intOf]; omega
          · subst hst
            obtain ⟨SS, hSS, hdd⟩ := HA.out.dec
            have HSS := Lib.hid hSS
            have hb : RBlk wr g 2 n SS 1 ⟨#[]⟩ false 0 := hdd
            have hn0 : 0 < n := HA.out.good.1
            have hn1 : n ≤ 1048576 := HA.out.good.2.1
            obtain ⟨j, rfl⟩ : ∃ j, n = j + 1 := ⟨n - 1, by omega⟩
            have HBk := Lib.hid hb
            have c0 : wr.cell? ⟨g, 0, none⟩ = some (.int .i64 2) := rd0 hb
            have c3 : wr.cell? ⟨g, 3, none⟩ = some (.int .i64 1) := rd3 hb
            have c5 := rd5 hb
            have c6 : wr.cell? ⟨g, 6, none⟩ = some (.int .i64 0) := rd6 hb
            have HO := Lib.hid ((HA.out.own).below ((Below.refl wr.heap.size wr).alloc (Nat.le_refl _) (.cells #[.int .u8 (c.toNat : Int)] 5)))
            have HY := Lib.hid (byts_one wr c)
            have hs1 : w.heap.size ≤ (wr.alloc (.cells #[.int .u8 (c.toNat : Int)] 5)).heap.size := by simp; omega
            have HOW := Lib.hid HA.out.own
            have HCH := Lib.hid HA.out.chg
            have HL1 := Lib.hid (show acc.length + [c].length ≤ 1099511627776 from by simp; omega)
            clear hb hov hl hSS hdd
            by_cases hm : j = 0
            · subst hm
              have HS := Lib.hid (show step (.chunk m 1) c = ([c], .gap m []) from rfl)
              go_wp2_with (at_builtin; refine wpList_append_any _ rfl _ _ 39 rfl w.heap.size _ _ acc [c] rfl rfl hs1 HO.out (src_byts HY.out) HL1.out ?_; intro v4 w4 hp4; obtain ⟨ho4, hk4, hc4⟩ := app_one HOW.out hg hp4; obtain ⟨a4, cc4, hv4⟩ := ho4.form; obtain ⟨n4, hn4⟩ : ∃ n4, n4 = (acc ++ [c]).length := ⟨_, rfl⟩; rw [← hn4] at hv4; subst hv4; have HO4 := Lib.hid ho4; have HK4 := Lib.hid hk4; have HC4 := Lib.hid (HCH.out.trans hc4 (fun i hi => .inr hi)); have hq4 := hk4 _ _ _ _ _ _ _ HBk.out; have q0 : w4.cell? ⟨g, 0, none⟩ = some (.int .i64 2) := rd0 hq4; have q1 := rd1 hq4; have q3 : w4.cell? ⟨g, 3, none⟩ = some (.int .i64 1) := rd3 hq4; have r1 := free hq4 1; have r3 := free hq4 3; clear hq4; clear hn4 ho4 hk4 hc4 hp4)
              have HFin := Lib.hid (HN.out _ _ HS.out _ ((w4.setCell ⟨g, 1, none⟩ (.int .i64 0)).setCell ⟨g, 3, none⟩ (.int .i64 2)) (HO4.out.chg ((Chg.refl (fun k => k = g) w4).put ⟨g, 1, none⟩ _ (.inl rfl) |>.put ⟨g, 3, none⟩ _ (.inl rfl)) (fun k hk e => by have := (HO4.out.lt k hk).1; omega)) ⟨SS, HSS.out, rd_put3 (rd_put1 (HK4.out _ _ _ _ _ _ _ HBk.out) 0) 2⟩ ((HC4.out.put ⟨g, 1, none⟩ _ (.inl rfl)).put ⟨g, 3, none⟩ _ (.inl rfl)))
              go_wp2_with fail
              go_roundw
              case rel => exact ⟨k + 1, _, _, by go_num, HFin.out⟩
              case measure => simp [intOf]; omega
            · have HS := Lib.hid (show step (.chunk m (j + 1)) c = ([c], .chunk m j) from by show ([c], if j + 1 ≤ 1 then St.gap m [] else .chunk m (j + 1 - 1)) = _; rw [if_neg (by omega)]; rfl)
              have hz : ¬ ((j : Int) = 0) := by omega
              have hz2 : ((j : Int) == 0) = false := by simp; omega
              go_wp2_with (at_builtin; refine wpList_append_any _ rfl _ _ 39 rfl w.heap.size _ _ acc [c] rfl rfl hs1 HO.out (src_byts HY.out) HL1.out ?_; intro v4 w4 hp4; obtain ⟨ho4, hk4, hc4⟩ := app_one HOW.out hg hp4; obtain ⟨a4, cc4, hv4⟩ := ho4.form; obtain ⟨n4, hn4⟩ : ∃ n4, n4 = (acc ++ [c]).length := ⟨_, rfl⟩; rw [← hn4] at hv4; subst hv4; have HO4 := Lib.hid ho4; have HK4 := Lib.hid hk4; have HC4 := Lib.hid (HCH.out.trans hc4 (fun i hi => .inr hi)); have hq4 := hk4 _ _ _ _ _ _ _ HBk.out; have q0 : w4.cell? ⟨g, 0, none⟩ = some (.int .i64 2) := rd0 hq4; have q1 := rd1 hq4; have q3 : w4.cell? ⟨g, 3, none⟩ = some (.int .i64 1) := rd3 hq4; have r1 := free hq4 1; have r3 := free hq4 3; clear hq4; clear hn4 ho4 hk4 hc4 hp4)
              have HFin := Lib.hid (HN.out _ _ HS.out _ (w4.setCell ⟨g, 1, none⟩ (.int .i64 (j : Int))) (HO4.out.chg ((Chg.refl (fun k => k = g) w4).put ⟨g, 1, none⟩ _ (.inl rfl)) (fun k hk e => by have := (HO4.out.lt k hk).1; omega)) (show RDec _ g (.chunk m j) from ⟨SS, HSS.out, rd_put1 (HK4.out _ _ _ _ _ _ _ HBk.out) j⟩) (HC4.out.put ⟨g, 1, none⟩ _ (.inl rfl)))
              go_wp2_with fail
              go_roundw
              case rel => exact ⟨k + 1, _, _, by go_num, HFin.out⟩
              case measure => simp [intOf]; omega
        | some l =>
          obtain ⟨SS, PP, hP, hb, hback⟩ := HA.out.dec.line hl
          obtain ⟨hba, hen, hon⟩ := bare_emptied hl
          have hl25 : l.length ≤ 1025 := by have hG := HA.out.good; clear hback hba hen hon; cases st <;> first | (injection hl with hl; subst hl; exact hG.2) | cases hl
          have c0 : wr.cell? ⟨g, 0, none⟩ = some (.int .i64 2) := rd0 hb
          have c3 := rd3 hb
          have c5 := rd5 hb
          have c6 : wr.cell? ⟨g, 6, none⟩ = some (.int .i64 0) := rd6 hb
          have e2 := rd4 hb
          have g2 := free hb 4
          have hKA : RBlk (wr.drew.alloc (.cells #[.int .u8 (c.toNat : Int)] 5)) g _ _ _ _ _ _ _ := (old_block wr.drew _ (block_lt hb)).trans hb
          have e2' : (wr.alloc (.cells #[.int .u8 (c.toNat : Int)] 5)).cell? ⟨g, 4, none⟩ = some (.string (txt l)) := rd4 (w := wr.drew.alloc (.cells #[.int .u8 (c.toNat : Int)] 5)) hKA
          have g2' : (wr.alloc (.cells #[.int .u8 (c.toNat : Int)] 5)).frozen? ⟨g, 4, none⟩ = false := free (w := wr.drew.alloc (.cells #[.int .u8 (c.toNat : Int)] 5)) hKA 4
          have hcv : (convert 39 9 (.slice (some ⟨wr.heap.size, 0, none⟩) 1 1)).run Tryd.prog (wr.alloc (.cells #[.int .u8 (c.toNat : Int)] 5)).drew = .ok (.string ⟨#[c]⟩) (wr.alloc (.cells #[.int .u8 (c.toNat : Int)] 5)).drew :=
            Tk.run_back (P := Tryd.prog) _ 39 9 5 wr.heap.size 0 1 [c] Tryd.underlying39 Tryd.underlying5 Tryd.underlying9 (fun j hj => by
              have : j = 0 := by simpa using hj
              subst this
              rw [Nat.zero_add, show (wr.alloc (.cells #[.int .u8 (c.toNat : Int)] 5)).drew.cell? ⟨wr.heap.size, 0, none⟩ = (wr.alloc (.cells #[.int .u8 (c.toNat : Int)] 5)).cell? ⟨wr.heap.size, 0, none⟩ from rfl, Lib.cell_of_heap (new_block wr _)]; rfl)
          obtain ⟨X, hX⟩ : ∃ X, txt l ++ ⟨#[c]⟩ = X := ⟨_, rfl⟩
          have HX := Lib.hid (show X = txt (l ++ [c]) from by rw [← hX]; exact bytes_eq (by simp [txt]))
          have hXs : X.size = l.length + 1 := by rw [HX.out, txt_size']; simp
          have hls : (txt l).size ≤ 1025 := by rw [txt_size']; omega
          obtain ⟨x2, hx2⟩ : ∃ x2, x2 = ((wr.setCell ⟨g, 4, none⟩ (.string X)).alloc (.cells #[.int .u8 (c.toNat : Int)] 5)).drew := ⟨_, rfl⟩
          have hsp : (wr.setCell ⟨g, 4, none⟩ (.string X)).heap.size = wr.heap.size := by simp [World.setCell]
          have hb2 : RBlk x2 g 2 0 SS PP X false 0 := by rw [hx2]; exact (old_block _ _ (by rw [hsp]; exact hgw)).trans (rd_put4 hb X)
          have hc1 : Chg (fun k => k = g) wr x2 := by rw [hx2]; exact (((Chg.refl (fun k => k = g) wr).put ⟨g, 4, none⟩ (.string X) (.inl rfl)).alloc _).drew
          have hc2 : Chg (fun k => k = g) w x2 := HA.out.chg.trans hc1 (fun i hi => .inl hi)
          have ho2 : Own x2 w.heap.size u8 acc := HA.out.own.chg hc1 (fun k hk e => by have := (HA.out.own.lt k hk).1; omega)
          have i4 := rd4 hb2
          have i5 := rd5 hb2
          have i6 : x2.cell? ⟨g, 6, none⟩ = some (.int .i64 0) := rd6 hb2
          have j4 := free hb2 4
          have j6 := free hb2 6
          have HB2 := Lib.hid hb2
          have HX2 := Lib.hid hx2
          have HC2 := Lib.hid hc2
          have HO2 := Lib.hid ho2
          have HBK := Lib.hid hback
          have HEN := Lib.hid hen
          have HON := Lib.hid hon
          have HBA := Lib.hid hba
          have HLn := Lib.hid hl
          have hP1 : ((PP : Int) == 1) = false := by rcases hP with rfl | rfl | rfl <;> decide
          have hP2 : ¬ ((PP : Int) = 1) := by rcases hP with rfl | rfl | rfl <;> decide
          clear hx2 hsp hb hKA hback hba hen hon hov hl hb2 hc1 hc2 ho2 hP
          go_upto_region 18 with fail
          clear c0 c3 c5 c6
          go_region
          rw [← HX2.out]
          clear e2 g2 e2' g2' hcv hX cb
          by_cases h25 : 1025 ≤ l.length
          · have HS := Lib.hid (show step st c = ([], .bad 3) from by rw [step_line HLn.out]; unfold stepL; rw [if_pos h25])
            have hfin := HN.out _ _ HS.out u8 (x2.setCell ⟨g, 6, none⟩ (.int .i64 3)) (by rw [List.append_nil]; exact HO2.out.chg (O := fun k => k = g) ((Chg.refl _ x2).put ⟨g, 6, none⟩ _ (.inl rfl)) (fun k hk e => by have := (HO2.out.lt k hk).1; omega)) ⟨_, _, _, _, _, rd_put6 HB2.out 3⟩ (HC2.out.put ⟨g, 6, none⟩ _ (.inl rfl))
            have HPo := Lib.hid (fun (m : Nat) => (show RFeedPost g s b w (.returned (.tuple #[u8, .int .i64 ((k : Int) + 1), .bool false, .int .i64 3])) ((x2.setCell ⟨g, 6, none⟩ (.int .i64 3)).drewN m) from by have := hfin.post (n := m) (.inl rfl); exact this))
            clear hfin
            go_wp2_with fail
            go_quiet (fail)
            all_goals try go_wp2_with fail
            all_goals
              refine bodyPost_ret (four_results rfl _ _ _) rfl ?_
              exact HPo.out _
          · by_cases hc10 : c = 10
            · have hc10' : ((c.toNat : Int) == 10) = true := by rw [hc10]; rfl
              have HS := Lib.hid (show step st c = ([], ended st (own l)) from by rw [step_line HLn.out]; unfold stepL; rw [if_neg h25, if_pos hc10])
              obtain ⟨T, xT⟩ : ∃ T, X.extract 0 l.length = T := ⟨_, rfl⟩
              have HTT := Lib.hid (show T = txt l from by
                rw [← xT, HX.out]
                apply of_data
                rw [ByteArray.data_extract, Array.toList_extract, List.extract_eq_take_drop]
                simp [txt])
              have hTs : T.size = l.length := by rw [HTT.out, txt_size']
              have HEnd := Lib.hid (fun (y : World) (x : ByteArray) (hx : x = txt (own l)) (hy : ∃ m, y = (x2.drewN m).setCell ⟨g, 4, none⟩ (.string ⟨#[]⟩)) => (show Calls Tryd.prog 36 #[.pointer (some ⟨g, 0, none⟩), .string x] y fun e w' => e = .returned (.tuple #[]) ∧ RAt g s b w (k + 1) acc (ended st (own l)) u8 w' from by
                obtain ⟨m, rfl⟩ := hy
                subst hx
                have hb3 : RBlk ((x2.drewN m).setCell ⟨g, 4, none⟩ (.string ⟨#[]⟩)) g 2 0 SS PP ⟨#[]⟩ false 0 := rd_put4 (w := x2.drewN m) (HB2.out.below (below_drewN (Below.refl _ _) m)) ⟨#[]⟩
                have hc3 := (HC2.out.drewN m).put ⟨g, 4, none⟩ (.string ⟨#[]⟩) (.inl rfl)
                refine (rended_any g _ (own l) _ (HBK.out _ [] hb3) HBA.out (by have := own_length l; omega)).mono ?_
                rintro e w' ⟨rfl, hR, hC⟩
                rw [HEN.out] at hR
                refine ⟨rfl, ?_⟩
                have hcc : Chg (fun k => k = g) x2 w' := ((((Chg.refl (fun k => k = g) x2).drewN m).put ⟨g, 4, none⟩ (.string ⟨#[]⟩) (.inl rfl)).trans hC (fun i hi => .inl hi))
                have := HN.out _ _ HS.out u8 w' (by rw [List.append_nil]; exact HO2.out.chg hcc (fun k hk e => by have := (HO2.out.lt k hk).1; omega)) hR (HC2.out.trans hcc (fun i hi => .inl hi))
                rwa [List.append_nil] at this))
              clear hc10
              rcases snoc_cases l with hl0 | ⟨i, d, hld⟩
              · have hz : l.length = 0 := by rw [hl0]; rfl
                have HO := Lib.hid (show (ByteArray.empty : ByteArray) = txt (own l) from by rw [hl0]; rfl)
                clear hl0
                go_upto_region 22 with fail
                go_region
                go_wp2_with fail
                refine (HEnd.out _ _ HO.out ⟨_, rfl⟩).mono ?_
                rintro e x3 ⟨rfl, hA3⟩
                have HA3 := Lib.hid hA3
                clear hA3
                go_wp2_with fail
                go_roundw
                case rel => exact ⟨k + 1, _, _, by go_num, HA3.out⟩
                case measure => simp [intOf]; omega
              · have hz : 1 ≤ l.length := by rw [hld]; simp
                have hlt1 : l.length - 1 < T.size := by omega
                cases h13 : (((T[l.length - 1]'hlt1).toNat : Int) == 13) with
                | true =>
                  have HLD := Lib.hid (last_13 HTT.out hld hlt1 h13)
                  clear hld
                  go_upto_region 22 with fail
                  go_region
                  go_wp2_with fail
                  refine (HEnd.out _ _ HLD.out ⟨_, rfl⟩).mono ?_
                  rintro e x3 ⟨rfl, hA3⟩
                  have HA3 := Lib.hid hA3
                  clear hA3 h13
                  go_wp2_with fail
                  go_roundw
                  case rel => exact ⟨k + 1, _, _, by go_num, HA3.out⟩
                  case measure => simp [intOf]; omega
                | false =>
                  have HLD := Lib.hid (last_no HTT.out hld hlt1 h13)
                  clear hld
                  go_upto_region 22 with fail
                  go_region
                  go_wp2_with fail
                  refine (HEnd.out _ _ HLD.out ⟨_, rfl⟩).mono ?_
                  rintro e x3 ⟨rfl, hA3⟩
                  have HA3 := Lib.hid hA3
                  clear hA3 h13
                  go_wp2_with fail
                  go_roundw
                  case rel => exact ⟨k + 1, _, _, by go_num, HA3.out⟩
                  case measure => simp [intOf]; omega
            · have hc10' : ((c.toNat : Int) == 10) = false := by
                rw [beq_eq_false_iff_ne]; intro e; apply hc10; apply UInt8.toNat.inj; show c.toNat = 10; omega
              have HS := Lib.hid (show step st c = ([], onto st [c]) from by rw [step_line HLn.out]; unfold stepL; rw [if_neg h25, if_neg hc10])
              have hfin := HN.out _ _ HS.out u8 x2 (by rw [List.append_nil]; exact HO2.out) (by have := HBK.out x2 (l ++ [c]) (by rw [← HX.out]; exact HB2.out); rwa [HON.out] at this) HC2.out
              rw [List.append_nil] at hfin
              have HFin := Lib.hid hfin
              clear hc10 hfin
              go_wp2_with fail
              go_roundw
              case rel => exact ⟨k + 1, _, _, by go_num, HFin.out⟩
              case measure => simp [intOf]; omega
    · have hke : k = b.length := by omega
      have HKE := Lib.hid hke
      obtain ⟨K, L, S, P, o, hb⟩ := HA.out.dec.tells
      have c5 := rd5 hb
      have c6 := rd6 hb
      obtain ⟨D, hD⟩ : ∃ D, D = doneOf st := ⟨_, rfl⟩
      obtain ⟨E, hE⟩ : ∃ E, E = errOf st := ⟨_, rfl⟩
      rw [← hD] at c5 HP
      rw [← hE] at c6 HP
      clear hke hb hD hE
      go_wp2_with fail
      go_quiet (fail)
      all_goals try go_wp2_with fail
      all_goals
        refine bodyPost_ret (four_results rfl _ _ _) rfl ?_
        exact HP.out _ (.inr HKE.out)
end Go.Proofs.YtcolnidgembniaaDoor.Fr
/-
  Two decoders, the program's and the reference's, that stand alike: what Feed and End of each leave. Conditions: the tables.
-/
namespace Go.Proofs.YtcolnidgembniaaDoor.Fr
open Go.RowKit Go.Proofs.YtcolnidgembniaaDoor.Tk Go.Proofs.YtcolnidgembniaaDoor.Fd Go.Proofs.YtcolnidgembniaaDoor.Hd
set_option linter.unusedVariables false

theorem RDec.same {w w' : World} {g : Nat} {s : St} (h : RDec w g s) (he : w'.heap[g]? = w.heap[g]?) : RDec w' g s := by
  have hb : ∀ {K L S P : Nat} {o : ByteArray} {D : Bool} {E : Nat}, RBlk w g K L S P o D E → RBlk w' g K L S P o D E := fun h => he.trans h
  cases s with
  | len n => exact hb h
  | opn n => obtain ⟨S, h1, h⟩ := h; exact ⟨S, h1, hb h⟩
  | size m l => obtain ⟨S, h1, h⟩ := h; exact ⟨S, h1, hb h⟩
  | chunk m n => obtain ⟨S, h1, h⟩ := h; exact ⟨S, h1, hb h⟩
  | gap m l => obtain ⟨S, h1, h⟩ := h; exact ⟨S, h1, hb h⟩
  | trail m l => obtain ⟨S, h1, h⟩ := h; exact ⟨S, h1, hb h⟩
  | done => obtain ⟨K, L, S, P, o, h⟩ := h; exact ⟨K, L, S, P, o, hb h⟩
  | bad e => obtain ⟨K, L, S, P, o, h⟩ := h; exact ⟨K, L, S, P, o, hb h⟩
theorem RDec.lt {w : World} {g : Nat} {s : St} (h : RDec w g s) : g < w.heap.size := by obtain ⟨K, L, S, P, o, h⟩ := h.tells; exact block_lt h
/-- Both stand alike; the program's own memory is within O. -/
structure Two (w : World) (g h : Nat) (st : St) (O : Nat → Prop) (wr : World) : Prop where
  good : Good st
  bel : Below w.heap.size w wr
  hw : w.heap.size ≤ h
  ref : RDec wr h st
  dec : Dec wr O g st
  far : ∀ k, O k → w.heap.size ≤ k ∧ k < wr.heap.size ∧ k ≠ h
/-- The program's was fed. -/
structure Mid (w : World) (g h : Nat) (st ST : St) (O : Nat → Prop) (out : Bs) (ov : Value) (wr : World) : Prop where
  good : Good st
  goodS : Good ST
  bel : Below w.heap.size w wr
  hw : w.heap.size ≤ h
  ref : RDec wr h st
  dec : Dec wr O g ST
  far : ∀ k, O k → w.heap.size ≤ k ∧ k < wr.heap.size ∧ k ≠ h ∧ ov.ownBlock ≠ some k
  own : Own wr w.heap.size ov out
  apart : ov.ownBlock ≠ some h
theorem Two.below {w : World} {g h : Nat} {st : St} {O : Nat → Prop} {wr w' : World} (t : Two w g h st O wr) (hb : Below wr.heap.size wr w') : Two w g h st O w' :=
  ⟨t.good, t.bel.trans (hb.mono t.bel.size), t.hw, t.ref.below hb, t.dec.below hb, fun k hk => ⟨(t.far k hk).1, Nat.lt_of_lt_of_le (t.far k hk).2.1 hb.size, (t.far k hk).2.2⟩⟩
theorem Mid.below {w : World} {g h : Nat} {st ST : St} {O : Nat → Prop} {out : Bs} {ov : Value} {wr w' : World} (t : Mid w g h st ST O out ov wr) (hb : Below wr.heap.size wr w') : Mid w g h st ST O out ov w' :=
  ⟨t.good, t.goodS, t.bel.trans (hb.mono t.bel.size), t.hw, t.ref.below hb, t.dec.below hb, fun k hk => ⟨(t.far k hk).1, Nat.lt_of_lt_of_le (t.far k hk).2.1 hb.size, (t.far k hk).2.2⟩, t.own.below hb, t.apart⟩
theorem two_start {w x1 x2 : World} {g h : Nat} {s : St} (hG : Good s) (hD : Dec x1 (fun k => w.heap.size ≤ k) g s) (h1 : Below w.heap.size w x1) (hR : RDec x2 h s) (hh : x1.heap.size ≤ h) (h2 : Below x1.heap.size x1 x2) :
    Two w g h s (fun k => w.heap.size ≤ k ∧ k < x1.heap.size) x2 := by
  have := h1.size
  have := h2.size
  exact ⟨hG, h1.trans (h2.mono h1.size), by omega, hR, hD.bound.below h2, fun k hk => ⟨hk.1, by omega, by omega⟩⟩
theorem two_x {w : World} {g h : Nat} {st : St} {O : Nat → Prop} {wr : World} (t : Two w g h st O wr) (v : Value) (P : Bs) (hv : Byts wr v P) (hvo : 0 < P.length → ∀ j, v.ownBlock = some j → ¬ O j) (hl : P.length ≤ 1099511627775) (hT : Tab w) (hE : ErrV w) :
    Calls Tryd.prog 18 #[.pointer (some ⟨g, 0, none⟩), v] wr fun e y => ∃ a c O', e = .returned (.tuple #[.slice a (run st P).1.length c, .int .i64 ((run st P).2.1 : Nat), .bool (doneOf (run st P).2.2), .int .i64 (errOf (run st P).2.2 : Nat)]) ∧ Mid w g h st (run st P).2.2 O' (run st P).1 (.slice a (run st P).1.length c) y := by
  have htl := hT.lt
  have hel := hE.lt
  have hb0 := t.bel.size
  have hhw := t.ref.lt
  refine (feed_any O g st v P wr t.dec t.good hv hvo (by omega) (hT.below t.bel (by omega)) (hE.below t.bel) (fun ho => by have := (t.far _ ho).1; omega) (fun ho => by have := (t.far _ ho).1; omega)).mono ?_
  rintro e y ⟨ov, rfl, h1, h2, h3, h4⟩
  obtain ⟨a, c, rfl⟩ := h1.shape
  have hs := h4.size
  refine ⟨a, c, _, rfl, t.good, good_run P t.good, t.bel.trans (h4.below (fun k hk => (t.far k hk).1) hb0), t.hw, t.ref.same (h4.block h hhw (fun ho => (t.far h ho).2.2 rfl)), h3.bound, fun k hk => ?_, ?_, ?_⟩
  · refine ⟨?_, hk.2, ?_, hk.1.2⟩
    · rcases hk.1.1 with hx | hx
      · exact (t.far k hx).1
      · omega
    · rcases hk.1.1 with hx | hx
      · exact (t.far k hx).2.2
      · omega
  · refine (Own.row (base := wr.heap.size) ?_).mono hb0
    exact ⟨h1.1, (by
      rcases h1.2 with hx | ⟨q, cap, cur, hv, _, hr⟩
      · exact .inl hx
      · exact .inr ⟨q, cap, cur, hv, h2 q (by rw [hv]; rfl), hr⟩)⟩
  · intro e
    have := h2 h e
    omega
theorem two_y {w : World} {g h : Nat} {st ST : St} {O : Nat → Prop} {out : Bs} {ov : Value} {wr : World} (t : Mid w g h st ST O out ov wr) (v : Value) (P : Bs) (hv : Byts wr v P) (hvo : 0 < P.length → v.ownBlock ≠ some h) (hl : P.length ≤ 1099511627775) (hST : ST = (run st P).2.2) :
    Calls Tryd.prog 19 #[.pointer (some ⟨h, 0, none⟩), v] wr fun e z => ∃ a c, e = .returned (.tuple #[.slice a (run st P).1.length c, .int .i64 ((run st P).2.1 : Nat), .bool (doneOf (run st P).2.2), .int .i64 (errOf (run st P).2.2 : Nat)]) ∧
      Own z w.heap.size ov out ∧ Own z w.heap.size (.slice a (run st P).1.length c) (run st P).1 ∧ Two w g h ST O z := by
  have hhw := t.ref.lt
  have hb0 := t.bel.size
  refine (rfeed_any h st v P wr t.ref t.good hv hvo hl hhw).mono ?_
  rintro e z ⟨wv, rfl, h1, h2, h3⟩
  obtain ⟨a, c, rfl⟩ := h1.form
  have hs := h3.size
  refine ⟨a, c, rfl, t.own.chg h3 (fun k hk e => t.apart (by rw [hk, e])), h1.mono hb0, t.goodS, t.bel.trans (h3.below (fun k hk => by have := t.hw; omega) hb0), t.hw, by rw [hST]; exact h2, t.dec.kept h3 (fun k hk e => (t.far k hk).2.2.1 e), fun k hk => ⟨(t.far k hk).1, by have := (t.far k hk).2.1; omega, (t.far k hk).2.2.1⟩⟩
theorem two_ex {w : World} {g h : Nat} {st : St} {O : Nat → Prop} {wr : World} (t : Two w g h st O wr) :
    Calls Tryd.prog 20 #[.pointer (some ⟨g, 0, none⟩)] wr fun e y => e = .returned (.tuple #[.bool (doneOf (closed st)), .int .i64 (errOf (closed st) : Nat)]) ∧ Mid w g h st (closed st) O [] (.slice none 0 0) y := by
  have hhw := t.ref.lt
  have hb0 := t.bel.size
  refine (end_any O g st wr t.dec t.good).mono ?_
  rintro e y ⟨rfl, h1, h2⟩
  have hs := h2.size
  exact ⟨rfl, t.good, good_closed t.good, t.bel.trans (h2.below (fun k hk => (t.far k hk).1) hb0), t.hw, t.ref.same (h2.block h hhw (fun ho => (t.far h ho).2.2 rfl)), h1, fun k hk => ⟨(t.far k hk).1, by have := (t.far k hk).2.1; omega, (t.far k hk).2.2, fun e => by cases e⟩, Own.nil _ _, fun e => by cases e⟩
theorem two_ey {w : World} {g h : Nat} {st : St} {O : Nat → Prop} {wr : World} (t : Mid w g h st (closed st) O [] (.slice none 0 0) wr) :
    Calls Tryd.prog 21 #[.pointer (some ⟨h, 0, none⟩)] wr fun e z => e = .returned (.tuple #[.bool (doneOf (closed st)), .int .i64 (errOf (closed st) : Nat)]) ∧ Two w g h (closed st) O z := by
  have hb0 := t.bel.size
  refine (rend_any h st wr t.ref t.good).mono ?_
  rintro e z ⟨rfl, h1, h2⟩
  have hs := h2.size
  exact ⟨rfl, t.goodS, t.bel.trans (h2.below (fun k hk => by have := t.hw; omega) hb0), t.hw, h1, t.dec.kept h2 (fun k hk e => (t.far k hk).2.2.1 e), fun k hk => ⟨(t.far k hk).1, by have := (t.far k hk).2.1; omega, (t.far k hk).2.2.1⟩⟩
/-- "abc" as bytes. -/
def abc : Bs := [97, 98, 99]
def c3 : Array Value := #[.int .u8 97, .int .u8 98, .int .u8 99]
theorem c3_eq : c3.toList = bys abc := by kernel_rfl
theorem byts_const (w : World) (cs : Array Value) (l : Bs) (fr : Nat × Nat) (h : cs.toList = bys l) (hl : l.length ≤ maxLen) : Byts (w.alloc (.cells cs 5 fr)) (.slice (some ⟨w.heap.size, 0, none⟩) l.length l.length) l := by
  refine .inr ⟨w.heap.size, 0, l.length, rfl, Nat.le_refl _, hl, by simp, fun j hj => ?_⟩
  have h2 := World.news_of_block (new_block w (.cells cs 5 fr)) j (.int .u8 (l[j].toNat : Int)) (by rw [h]; simp [bys, hj])
  rw [Addr.add_lit] at h2
  exact h2
end Go.Proofs.YtcolnidgembniaaDoor.Fr
/-
  One decoder of the program that is fed anew and anew, beside bytes that stay: what each call leaves. Conditions: the tables.
-/
namespace Go.Proofs.YtcolnidgembniaaDoor.Fr
open Go.RowKit Go.Proofs.YtcolnidgembniaaDoor.Tk Go.Proofs.YtcolnidgembniaaDoor.Fd Go.Proofs.YtcolnidgembniaaDoor.Hd
set_option linter.unusedVariables false

/-- A decoder: its memory was laid since w. -/
structure Lone (w : World) (g : Nat) (st : St) (O : Nat → Prop) (wr : World) : Prop where
  good : Good st
  bel : Below w.heap.size w wr
  dec : Dec wr O g st
  far : ∀ k, O k → w.heap.size ≤ k ∧ k < wr.heap.size
theorem Lone.below {w : World} {g : Nat} {st : St} {O : Nat → Prop} {wr w' : World} (t : Lone w g st O wr) (hb : Below wr.heap.size wr w') : Lone w g st O w' :=
  ⟨t.good, t.bel.trans (hb.mono t.bel.size), t.dec.below hb, fun k hk => ⟨(t.far k hk).1, Nat.lt_of_lt_of_le (t.far k hk).2 hb.size⟩⟩
theorem Lone.chg {w : World} {g : Nat} {st : St} {O O' : Nat → Prop} {wr w' : World} (t : Lone w g st O wr) (hc : Chg O' wr w') (hd : ∀ k, O k → ¬ O' k) (ho : ∀ k, O' k → w.heap.size ≤ k) : Lone w g st O w' :=
  ⟨t.good, t.bel.trans (hc.below ho t.bel.size), t.dec.kept hc hd, fun k hk => ⟨(t.far k hk).1, Nat.lt_of_lt_of_le (t.far k hk).2 hc.size⟩⟩
theorem lone_start {w x1 x2 : World} {g : Nat} {s : St} (hG : Good s) (hD : Dec x2 (fun k => x1.heap.size ≤ k) g s) (h1 : Below w.heap.size w x1) (h2 : Below x1.heap.size x1 x2) : Lone w g s (fun k => x1.heap.size ≤ k ∧ k < x2.heap.size) x2 := by
  have := h1.size
  exact ⟨hG, h1.trans (h2.mono h1.size), hD.bound, fun k hk => ⟨by omega, hk.2⟩⟩
/-- What a Feed leaves. -/
structure LoneFed (w : World) (g : Nat) (O : Nat → Prop) (wr : World) (ST : St) (out : Bs) (ov : Value) (O' : Nat → Prop) (y : World) : Prop where
  lone : Lone w g ST O' y
  own : Own y wr.heap.size ov out
  apart : ∀ k, O' k → ov.ownBlock ≠ some k
  from_ : ∀ k, O' k → O k ∨ wr.heap.size ≤ k
  chg : Chg O wr y
theorem lone_feed {w : World} {g : Nat} {st : St} {O : Nat → Prop} {wr : World} (t : Lone w g st O wr) (v : Value) (P : Bs) (hv : Byts wr v P) (hvo : 0 < P.length → ∀ j, v.ownBlock = some j → ¬ O j) (hl : P.length ≤ 1099511627775) (hT : Tab w) (hE : ErrV w) :
    Calls Tryd.prog 18 #[.pointer (some ⟨g, 0, none⟩), v] wr fun e y => ∃ a c O', e = .returned (.tuple #[.slice a (run st P).1.length c, .int .i64 ((run st P).2.1 : Nat), .bool (doneOf (run st P).2.2), .int .i64 (errOf (run st P).2.2 : Nat)]) ∧ LoneFed w g O wr (run st P).2.2 (run st P).1 (.slice a (run st P).1.length c) O' y := by
  have htl := hT.lt
  have hel := hE.lt
  have hb0 := t.bel.size
  refine (feed_any O g st v P wr t.dec t.good hv hvo (by omega) (hT.below t.bel (by omega)) (hE.below t.bel) (fun ho => by have := (t.far _ ho).1; omega) (fun ho => by have := (t.far _ ho).1; omega)).mono ?_
  rintro e y ⟨ov, rfl, h1, h2, h3, h4⟩
  obtain ⟨a, c, rfl⟩ := h1.shape
  have hs := h4.size
  refine ⟨a, c, _, rfl, ⟨good_run P t.good, t.bel.trans (h4.below (fun k hk => (t.far k hk).1) hb0), h3.bound, fun k hk => ⟨?_, hk.2⟩⟩, Own.row (base := wr.heap.size) ?_, fun k hk => hk.1.2, fun k hk => hk.1.1, h4⟩
  · rcases hk.1.1 with hx | hx
    · exact (t.far k hx).1
    · omega
  · exact ⟨h1.1, (by
      rcases h1.2 with hx | ⟨q, cap, cur, hv, _, hr⟩
      · exact .inl hx
      · exact .inr ⟨q, cap, cur, hv, h2 q (by rw [hv]; rfl), hr⟩)⟩
/-- Where the bytes stand that are fed one by one; beside them bytes that stay. -/
structure CutAt (w : World) (g : Nat) (s : St) (b : Bs) (ov : Value) (X : Bs) (k : Nat) (G : Bs) (gv : Value) (st : St) (O : Nat → Prop) (wr : World) : Prop where
  le : k ≤ b.length
  eq : run s b = (G ++ (run st (b.drop k)).1, k + (run st (b.drop k)).2.1, (run st (b.drop k)).2.2)
  accLe : G.length ≤ k
  lone : Lone w g st O wr
  out : Own wr w.heap.size ov X
  got : Own wr w.heap.size gv G
  outO : ∀ k, O k → ov.ownBlock ≠ some k
  gotO : ∀ k, O k → gv.ownBlock ≠ some k
  apart : ∀ k, ov.ownBlock = some k → gv.ownBlock ≠ some k
theorem CutAt.below {w : World} {g : Nat} {s : St} {b : Bs} {ov : Value} {X : Bs} {k : Nat} {G : Bs} {gv : Value} {st : St} {O : Nat → Prop} {wr w' : World} (t : CutAt w g s b ov X k G gv st O wr) (hb : Below wr.heap.size wr w') : CutAt w g s b ov X k G gv st O w' :=
  ⟨t.le, t.eq, t.accLe, t.lone.below hb, t.out.below hb, t.got.below hb, t.outO, t.gotO, t.apart⟩
theorem CutAt.ends {w : World} {g : Nat} {s : St} {b : Bs} {ov : Value} {X : Bs} {k : Nat} {G : Bs} {gv : Value} {st : St} {O : Nat → Prop} {wr : World} (t : CutAt w g s b ov X k G gv st O wr) (ho : over st = true ∨ k = b.length) : run s b = (G, k, st) := by
  rw [t.eq]
  rcases ho with ho | ho
  · rw [run_over ho]; simp
  · rw [ho, List.drop_length, run_nil]; simp
/-- A piece was fed: what it told is beside what was got. -/
structure CutMid (w : World) (g : Nat) (s : St) (b : Bs) (ov : Value) (X : Bs) (k : Nat) (G : Bs) (gv : Value) (st : St) (o : Bs) (nv : Value) (O : Nat → Prop) (wr : World) : Prop where
  le : k ≤ b.length
  eq : run s b = ((G ++ o) ++ (run st (b.drop k)).1, k + (run st (b.drop k)).2.1, (run st (b.drop k)).2.2)
  accLe : (G ++ o).length ≤ k
  lone : Lone w g st O wr
  out : Own wr w.heap.size ov X
  got : Own wr w.heap.size gv G
  new : Own wr w.heap.size nv o
  outO : ∀ k, O k → ov.ownBlock ≠ some k
  gotO : ∀ k, O k → gv.ownBlock ≠ some k
  apart : ∀ k, ov.ownBlock = some k → gv.ownBlock ≠ some k
theorem CutMid.next {w : World} {g : Nat} {s : St} {b : Bs} {ov : Value} {X : Bs} {k : Nat} {G : Bs} {gv : Value} {st : St} {o : Bs} {nv : Value} {O : Nat → Prop} {wr : World} (t : CutMid w g s b ov X k G gv st o nv O wr)
    {v' : Value} {w' : World} (h : AppPost w.heap.size gv G o wr v' w') : CutAt w g s b ov X k (G ++ o) v' st O w' := by
  obtain ⟨h1, h2, h3⟩ := h
  refine ⟨t.le, t.eq, t.accLe, t.lone.chg h2 (fun k hk e => t.gotO k hk e) (fun k hk => (t.got.lt k hk).1), t.out.chg h2 (fun k hk => t.apart k hk), h1, t.outO, fun k hk e => ?_, fun k hk e => ?_⟩
  · rcases h3 with h3 | h3
    · exact t.gotO k hk (h3 ▸ e)
    · rw [h3] at e; injection e with e; have := (t.lone.far k hk).2; omega
  · rcases h3 with h3 | h3
    · exact t.apart k hk (h3 ▸ e)
    · rw [h3] at e; injection e with e; have := (t.out.lt k hk).2; omega
/-- Nothing was told. -/
theorem CutMid.skip {w : World} {g : Nat} {s : St} {b : Bs} {ov : Value} {X : Bs} {k : Nat} {G : Bs} {gv : Value} {st : St} {nv : Value} {O : Nat → Prop} {wr : World} (t : CutMid w g s b ov X k G gv st [] nv O wr) : CutAt w g s b ov X k G gv st O wr :=
  ⟨t.le, by rw [t.eq]; simp, by have := t.accLe; simpa using this, t.lone, t.out, t.got, t.outO, t.gotO, t.apart⟩
theorem cut_start {w : World} {gx gy : Nat} {s : St} {b : Bs} {O P : Nat → Prop} {wr y : World} {ov : Value} {X : Bs} {ST : St} {O' : Nat → Prop} (t : Lone w gy s P wr) (h : LoneFed w gx O wr ST X ov O' y) (hx : Lone w gx s O wr) (hd : ∀ k, P k → ¬ O k) : CutAt w gy s b ov X 0 [] (.slice none 0 0) s P y :=
  ⟨Nat.zero_le _, by simp, Nat.le_refl _, t.chg h.chg hd (fun k hk => (hx.far k hk).1), h.own.mono t.bel.size, Own.nil _ _, fun k hk e => by have := (h.own.lt k e).1; have := (t.far k hk).2; omega, fun k hk e => (by cases e), fun k hk e => (by cases e)⟩
/-- The next piece is fed. -/
theorem cut_feed {w : World} {g : Nat} {s : St} {b : Bs} {ov : Value} {X : Bs} {k : Nat} {G : Bs} {gv : Value} {st : St} {O : Nat → Prop} {wr : World} (t : CutAt w g s b ov X k G gv st O wr) (d : Nat) (hd : k + d ≤ b.length)
    (v : Value) (P : Bs) (hP : P = (b.drop k).take d) (hv : Byts wr v P) (hvo : 0 < P.length → ∀ j, v.ownBlock = some j → ¬ O j) (hl : b.length ≤ 1099511627775) (hT : Tab w) (hE : ErrV w) :
    Calls Tryd.prog 18 #[.pointer (some ⟨g, 0, none⟩), v] wr fun e y => ∃ a c O', e = .returned (.tuple #[.slice a (run st P).1.length c, .int .i64 ((run st P).2.1 : Nat), .bool (doneOf (run st P).2.2), .int .i64 (errOf (run st P).2.2 : Nat)]) ∧
      CutMid w g s b ov X (k + (run st P).2.1) G gv (run st P).2.2 (run st P).1 (.slice a (run st P).1.length c) O' y ∧ (over (run st P).2.2 = false → (run st P).2.1 = d) := by
  have hPl : P.length = d := by rw [hP, List.length_take, List.length_drop]; omega
  refine (lone_feed t.lone v P hv hvo (by omega) hT hE).mono ?_
  rintro e y ⟨a, c, O', rfl, hF⟩
  have hle := run_le P st
  have hou := run_out P st
  have hac := t.accLe
  have hs := hF.chg.size
  have hsp : run st (b.drop k) = run st (P ++ (b.drop k).drop d) := by rw [hP, List.take_append_drop]
  rw [run_append] at hsp
  refine ⟨a, c, O', rfl, ⟨by omega, ?_, by rw [List.length_append]; omega, hF.lone, t.out.chg hF.chg (fun k hk hO => t.outO k hO hk), t.got.chg hF.chg (fun k hk hO => t.gotO k hO hk), hF.own.mono t.lone.bel.size, fun k hk e => ?_, fun k hk e => ?_, t.apart⟩, fun ho => by rw [run_all _ ho, hPl]⟩
  · rw [t.eq, hsp]
    by_cases ho : over (run st P).2.2 = true
    · rw [if_pos ho, run_over ho]; simp
    · rw [if_neg ho]
      rw [Bool.not_eq_true] at ho
      have ha := run_all _ ho
      rw [ha, hPl, List.drop_drop]
      simp only [List.append_assoc, Prod.mk.injEq, true_and, and_true]
      omega
  · rcases hF.from_ k hk with h | h
    · exact t.outO k h e
    · have := (t.out.lt k e).2; omega
  · rcases hF.from_ k hk with h | h
    · exact t.gotO k h e
    · have := (t.got.lt k e).2; omega
/-- One byte, by itself: at most one is told, and it is taken. -/
theorem run_one {st : St} (h : over st = false) (c : UInt8) : run st [c] = ((step st c).1, 1, (step st c).2) := by rw [run_cons h, run_nil]; simp
theorem made_err {k n : Int} (h : made k n = none) : madeErr k n ≠ 0 := by
  unfold made at h
  unfold madeErr
  split at h
  · rename_i h1
    split
    · omega
    · rename_i h2
      rw [if_pos (by omega)]
      omega
  · split at h <;> (try split at h) <;> (try split at h) <;> cases h
end Go.Proofs.YtcolnidgembniaaDoor.Fr
/-
  Hexadecimal digits; strconv.FormatInt at base 16: what it returns. Conditions: a number from 0 to 2^60; one cell of a table of math/bits.
-/
namespace Go.Proofs.YtcolnidgembniaaDoor.Fr
open Go.RowKit Go.Proofs.YtcolnidgembniaaDoor.Tk Go.Proofs.YtcolnidgembniaaDoor.Fd Go.Proofs.YtcolnidgembniaaDoor.Hd
set_option linter.unusedVariables false

def hexD (r : Nat) : UInt8 := if r < 10 then UInt8.ofNat (48 + r) else UInt8.ofNat (87 + r)
/-- A number's digits. -/
def hexL (n : Nat) : Bs := if h : n < 16 then [hexD n] else hexL (n / 16) ++ [hexD (n % 16)]
termination_by n
decreasing_by omega
theorem hexL_small {n : Nat} (h : n < 16) : hexL n = [hexD n] := by rw [hexL, dif_pos h]
theorem hexL_big {n : Nat} (h : ¬ n < 16) : hexL n = hexL (n / 16) ++ [hexD (n % 16)] := by rw [hexL, dif_neg h]
theorem hexL_len : ∀ (k n : Nat), n < 16 ^ (k + 1) → (hexL n).length ≤ k + 1
  | 0, n, h => by rw [hexL_small (by omega)]; simp
  | k + 1, n, h => by
    by_cases hn : n < 16
    · rw [hexL_small hn]; simp
    · rw [hexL_big hn, List.length_append, List.length_singleton]
      have := hexL_len k (n / 16) (by rw [Nat.div_lt_iff_lt_mul (by omega)]; rw [Nat.pow_succ] at h; omega)
      omega
/-- The digits' table. -/
def digs : ByteArray := ⟨#[48, 49, 50, 51, 52, 53, 54, 55, 56, 57, 97, 98, 99, 100, 101, 102, 103, 104, 105, 106, 107, 108, 109, 110, 111, 112, 113, 114, 115, 116, 117, 118, 119, 120, 121, 122]⟩
theorem digs_at : ∀ r : Fin 16, digs.data.toList[r.val]? = some (hexD r.val) := by decide
theorem digs_get (r : Nat) (hr : r < 16) (h : r < digs.size) : digs[r] = hexD r := by
  have h1 := digs_at ⟨r, hr⟩
  have h2 : digs.data.toList[r]? = some digs[r] := by
    rw [List.getElem?_eq_getElem (by simpa using h)]; rfl
  rw [h2] at h1
  exact Option.some.inj h1
/-- The buffer: so many digits at its end. -/
def arrOf (L : Bs) : Array Value := (List.replicate (65 - L.length) (Value.int .u8 0) ++ bys L).toArray
theorem arr_put (L : Bs) (d : UInt8) (h : L.length < 65) : (arrOf L).setIfInBounds (65 - L.length - 1) (.int .u8 (d.toNat : Int)) = arrOf (d :: L) := by
  obtain ⟨k, hk⟩ : ∃ k, 65 - L.length = k + 1 := ⟨64 - L.length, by omega⟩
  have hk2 : 65 - L.length - 1 = k := by omega
  unfold arrOf
  rw [hk2, show 65 - (d :: L).length = k from by rw [List.length_cons]; omega, hk]
  apply Array.ext'
  rw [Array.toList_setIfInBounds]
  show List.set (List.replicate (k + 1) (Value.int .u8 0) ++ bys L) k _ = List.replicate k _ ++ bys (d :: L)
  rw [List.replicate_succ', List.append_assoc, List.set_append_right _ _ (by simp)]
  simp [bys]
theorem arr_cell {w : World} {B : Nat} {L : Bs} {t : TypeId} {fr : Nat × Nat} (h : w.heap[B]? = some (.cells (arrOf L) t fr)) (hl : L.length < 65) : w.cell? ⟨B, 65 - L.length - 1, none⟩ = some (.int .u8 0) := by
  rw [Lib.cell_of_heap h]
  unfold arrOf
  rw [List.getElem?_toArray, List.getElem?_append_left (by simp; omega), List.getElem?_replicate, if_pos (by omega)]
theorem arr_holds {w : World} {B : Nat} {L : Bs} {t : TypeId} {fr : Nat × Nat} (h : w.heap[B]? = some (.cells (arrOf L) t fr)) (hl : L.length ≤ 65) : Holds w B (65 - L.length) L := by
  intro j hj
  rw [Lib.cell_of_heap h]
  unfold arrOf
  rw [List.getElem?_toArray, List.getElem?_append_right (by simp), List.length_replicate, Nat.add_sub_cancel_left]
  simp [bys, hj]
set_option maxHeartbeats 1000000 in
theorem pow_yes (w : World) : Calls Tryd.prog 92 #[.int .i64 16] w fun e w' => e = .returned (.bool true) ∧ w = w' := by
  go_enter Tryd.func92, Tryd.ntmps92
  go_wp2_with fail
  go_ret
  exact ⟨rfl, rfl⟩
theorem tz_index : IntKind.u64.wrap (bits BinOp.and IntKind.u64 16 (IntKind.u64.wrap (-16)) * 285870213051353865) / 288230376151711744 = 15 := by kernel_rfl
set_option maxHeartbeats 1000000 in
theorem tz64_any (w : World) (hD : D64 w) : Calls Tryd.prog 105 #[.int .u64 16] w fun e w' => e = .returned (.int .i64 4) ∧ w = w' := by
  have h : w.cell? ⟨4, 15, none⟩ = some (.int .u8 4) := hD
  have hx := tz_index
  go_enter Tryd.func105, Tryd.ntmps105
  go_wp2_with fail
  go_ret
  exact ⟨rfl, rfl⟩
set_option maxHeartbeats 1000000 in
theorem tz_any (w : World) (hD : D64 w) : Calls Tryd.prog 93 #[.int .u64 16] w fun e w' => e = .returned (.int .i64 4) ∧ w = w' := by
  have HD := Lib.hid hD
  clear hD
  go_enter Tryd.func93, Tryd.ntmps93
  go_wp2_with fail
  refine (tz64_any w HD.out).mono ?_
  rintro e w' ⟨rfl, rfl⟩
  go_wp2_with fail
  go_ret
  exact ⟨rfl, rfl⟩
/-- Where the loop over the digits stands. -/
def DigAt (n : Nat) (w : World) (m : Nat) (L : Bs) (wr : World) : Prop :=
  hexL n = hexL m ++ L ∧ m * 16 ^ L.length ≤ n ∧ wr.heap[w.heap.size]? = some (.cells (arrOf L) 132 (0, 0)) ∧ Below w.heap.size w wr ∧ (m = 0 → L = [])
theorem DigAt.len {n : Nat} {w : World} {m : Nat} {L : Bs} {wr : World} (h : DigAt n w m L wr) (hn : n < 1152921504606846976) : L.length ≤ 15 := by
  have h2 := h.2.1
  by_cases hm : m = 0
  · rw [h.2.2.2.2 hm]; simp
  by_cases hl : L.length ≤ 15
  · exact hl
  · have h3 : 16 ^ 16 ≤ 16 ^ L.length := Nat.pow_le_pow_right (by omega) (by omega)
    have h4 : 16 ^ L.length ≤ m * 16 ^ L.length := Nat.le_mul_of_pos_left _ (by omega)
    have h5 : (16 : Nat) ^ 16 = 18446744073709551616 := by decide
    omega
theorem DigAt.next {n : Nat} {w : World} {m : Nat} {L : Bs} {wr : World} (h : DigAt n w m L wr) (hm : ¬ m < 16) (hl : L.length < 65) :
    DigAt n w (m / 16) (hexD (m % 16) :: L) (wr.setCell ⟨w.heap.size, 65 - L.length - 1, none⟩ (.int .u8 ((hexD (m % 16)).toNat : Int))) := by
  obtain ⟨h1, h2, h3, h4, h5⟩ := h
  refine ⟨by rw [h1, hexL_big hm]; simp, ?_, ?_, h4.setCell (p := ⟨w.heap.size, 65 - L.length - 1, none⟩) (Nat.le_refl _) _, fun h0 => by omega⟩
  · rw [List.length_cons, Nat.pow_succ, Nat.mul_comm (16 ^ L.length) 16, ← Nat.mul_assoc]
    exact Nat.le_trans (Nat.mul_le_mul_right _ (Nat.div_mul_le_self m 16)) h2
  · rw [heap_put h3, arr_put L _ hl]
theorem DigAt.last {n : Nat} {w : World} {m : Nat} {L : Bs} {wr : World} (h : DigAt n w m L wr) (hm : m < 16) (hl : L.length < 65) :
    (wr.setCell ⟨w.heap.size, 65 - L.length - 1, none⟩ (.int .u8 ((hexD m).toNat : Int))).heap[w.heap.size]? = some (.cells (arrOf (hexL n)) 132 (0, 0)) ∧ Below w.heap.size w (wr.setCell ⟨w.heap.size, 65 - L.length - 1, none⟩ (.int .u8 ((hexD m).toNat : Int))) ∧ (hexL n).length = L.length + 1 := by
  obtain ⟨h1, h2, h3, h4, _⟩ := h
  rw [hexL_small hm] at h1
  refine ⟨by rw [heap_put h3, arr_put L _ hl, h1]; rfl, h4.setCell (p := ⟨w.heap.size, 65 - L.length - 1, none⟩) (Nat.le_refl _) _, by rw [h1]; simp⟩
theorem and15 (m : Nat) (h : m < 18446744073709551616) : bits BinOp.and IntKind.u64 (m : Int) 15 = ((m % 16 : Nat) : Int) := by
  have h2 : bits BinOp.and IntKind.u64 (m : Int) 15 = IntKind.u64.wrap ((BitVec.ofInt 64 (m : Int) &&& BitVec.ofInt 64 15).toNat : Int) := rfl
  have h3 : (BitVec.ofInt 64 (m : Int) &&& BitVec.ofInt 64 15).toNat = m % 16 := by
    rw [BitVec.toNat_and, BitVec.ofInt_natCast, BitVec.toNat_ofNat, Nat.mod_eq_of_lt h]
    exact Nat.and_two_pow_sub_one_eq_mod m 4
  rw [h2, h3, IntKind.wrap_u64]
  omega

theorem arr_slice (W : World) (B l : Nat) (hl : l < 65) : (Instr.sliceAt 132 (.pointer (some ⟨B, 0, none⟩)) (some (.int .i64 (65 - (l : Int) - 1))) none none).run Tryd.prog W = .ok (.slice (some ⟨B, 65 - l - 1, none⟩) (l + 1) (l + 1)) W := by
  have e1 : Tryd.prog.arrayLen 132 = 65 := by kernel_rfl
  have e2 : Tryd.prog.elem 132 = 5 := by kernel_rfl
  have hu : Tryd.prog.underlying 132 = some (.array (Tryd.prog.arrayLen 132) (Tryd.prog.elem 132)) := by rw [e1, e2]; exact Tryd.underlying132
  rw [run_sliceAt_array_l W 132 ⟨B, 0, none⟩ hu .i64 (65 - (l : Int) - 1) (by omega) (by rw [e1]; omega), e1, e2]
  have hs : (Go.sizeOf 5).run Tryd.prog W = .ok 1 W := Tryd.sizeOf5 W
  rw [hs]
  have e3 : ((65 : Int) - (l : Int) - 1).toNat = 65 - l - 1 := by omega
  show Result.ok (slicedAt _ _ _ _ _) W = _
  unfold slicedAt
  rw [e3, if_neg (by omega), show 65 - (65 - l - 1) = l + 1 from by omega, Nat.mul_one, Addr.add_lit, Nat.zero_add]
theorem zero_arr : Tryd.zeroCells132 = arrOf [] := by kernel_rfl
set_option maxRecDepth 100000 in
set_option maxHeartbeats 8000000 in
theorem formatBits_any (n : Nat) (w : World) (hn : n < 1152921504606846976) (hD : D64 w) :
    Calls Tryd.prog 75 #[.slice none 0 0, .int .u64 (n : Int), .int .i64 16, .bool false, .bool false] w fun e w' => e = .returned (.tuple #[.slice none 0 0, .string ⟨(hexL n).toArray⟩]) ∧ Below w.heap.size w w' := by
  have HD := Lib.hid (hD.below ((Below.refl w.heap.size w).alloc (Nat.le_refl _) (.cells Tryd.zeroCells132 132)) hD.lt)
  have HA := Lib.hid (show DigAt n w n [] (w.alloc (.cells Tryd.zeroCells132 132)) from ⟨by simp, by simp, by rw [zero_arr]; exact new_block _ _, (Below.refl _ _).alloc (Nat.le_refl _) _, fun _ => rfl⟩)
  clear hD
  go_enter Tryd.func75, Tryd.ntmps75
  go_wp2_with fail
  refine (pow_yes _).mono ?_
  rintro e x1 ⟨rfl, rfl⟩
  go_wp2_with fail
  refine (tz_any _ HD.out).mono ?_
  rintro e x1 ⟨rfl, rfl⟩
  go_wp2_with fail
  go_loopw [1, 13] (fun u i wr => ∃ (m : Nat) (L : Bs), u = .int .u64 (m : Int) ∧ i = .int .i64 (65 - (L.length : Int)) ∧ DigAt n w m L wr) (fun u _ _ => (intOf u).toNat)
  case atStart => exact ⟨n, [], rfl, by simp, HA.out⟩
  case round =>
    obtain ⟨m, L, rfl, rfl, hA⟩ := hrel
    have HA2 := Lib.hid hA
    have hmn : m ≤ n := Nat.le_trans (Nat.le_mul_of_pos_right _ (Nat.pow_pos (by omega))) hA.2.1
    have hfr := free hA.2.2.1 (65 - L.length - 1)
    have hl : L.length ≤ 15 := hA.len hn
    have hcl := arr_cell hA.2.2.1 (by omega)
    clear HA HD hA
    have h16 : m % 16 < 16 := Nat.mod_lt _ (by omega)
    by_cases hm : m < 16
    · clear h16
      have hsl := fun W => arr_slice W w.heap.size L.length (by omega)
      obtain ⟨hB, hW, hn1⟩ := HA2.out.last hm (by omega)
      rw [← digs_get m hm (Nat.lt_of_lt_of_le hm (by decide))] at hB hW
      have HW := Lib.hid hW
      have hcv := Tk.run_back (P := Tryd.prog) _ 39 9 5 w.heap.size (65 - (hexL n).length) (L.length + 1) (hexL n) Tryd.underlying39 Tryd.underlying5 Tryd.underlying9 (arr_holds hB (by omega))
      rw [hn1, ← Nat.sub_sub] at hcv
      unfold digs at hcv HW
      clear hB hW hn1 HA2
      go_wp2_with fail
      go_ret2
      exact ⟨rfl, HW.out⟩
    · have ha := and15 m (by omega)
      have HN := Lib.hid (show DigAt n w (m / 16) (hexD (m % 16) :: L) (wr.setCell ⟨w.heap.size, 65 - L.length - 1, none⟩ (.int .u8 ((digs[m % 16]'(Nat.lt_of_lt_of_le h16 (by decide))).toNat : Int))) from by
        rw [digs_get _ h16]; exact HA2.out.next hm (by omega))
      go_wp2_with fail
      go_roundw
      case rel => exact ⟨m / 16, hexD (m % 16) :: L, by go_num, by simp; omega, HN.out⟩
      case measure => simp [intOf]; omega
set_option maxHeartbeats 2000000 in
theorem formatInt_in (n : Nat) (w : World) (hn : n < 1152921504606846976) (hD : D64 w) :
    Calls Tryd.prog 51 #[.int .i64 (n : Int), .int .i64 16] w fun e w' => e = .returned (.string ⟨(hexL n).toArray⟩) ∧ Below w.heap.size w w' := by
  have HF := Lib.hid (formatBits_any n w hn hD)
  clear hD
  go_enter Tryd.func51, Tryd.ntmps51
  go_wp2_with fail
  refine HF.out.mono ?_
  rintro e w1 ⟨rfl, hb⟩
  have HB := Lib.hid hb
  clear hb
  go_wp2_with fail
  go_ret
  exact ⟨rfl, HB.out⟩
set_option maxHeartbeats 2000000 in
/-- strconv.FormatInt at base 16. -/
theorem formatInt_any (n : Nat) (w : World) (hn : n < 1152921504606846976) (hD : D64 w) :
    Calls Tryd.prog 38 #[.int .i64 (n : Int), .int .i64 16] w fun e w' => e = .returned (.string ⟨(hexL n).toArray⟩) ∧ Below w.heap.size w w' := by
  have HF := Lib.hid (formatInt_in n w hn hD)
  clear hD
  go_enter Tryd.func38, Tryd.ntmps38
  go_wp2_with fail
  refine HF.out.mono ?_
  rintro e w1 ⟨rfl, hb⟩
  have HB := Lib.hid hb
  clear hb
  go_wp2_with fail
  go_ret
  exact ⟨rfl, HB.out⟩
end Go.Proofs.YtcolnidgembniaaDoor.Fr
/-
  framing.Chunk, framing.Last and the reference's Chunk: what they return. Conditions: at most 2^30 bytes; one cell of a table of math/bits.
-/
namespace Go.Proofs.YtcolnidgembniaaDoor.Fr
open Go.RowKit Go.Proofs.YtcolnidgembniaaDoor.Tk Go.Proofs.YtcolnidgembniaaDoor.Fd Go.Proofs.YtcolnidgembniaaDoor.Hd
set_option linter.unusedVariables false

/-- Bytes as a chunk. -/
def chunkL (b : Bs) : Bs := if b = [] then [] else hexL b.length ++ [13, 10] ++ b ++ [13, 10]
theorem chunkL_nil : chunkL [] = [] := rfl
theorem chunkL_some {b : Bs} (h : b ≠ []) : chunkL b = hexL b.length ++ [13, 10] ++ b ++ [13, 10] := if_neg h
theorem own_bytes (W : World) (S : ByteArray) (cap : Nat) (hc : S.size ≤ cap) (hm : cap ≤ maxLen) :
    Own (W.drew.alloc (.cells (bytesRow S cap) 5 ((bytesRow S cap).size, (bytesRow S cap).size + 1))) W.heap.size (.slice (some ⟨W.heap.size, 0, none⟩) S.size cap) S.data.toList := by
  have hl : S.data.toList.length = S.size := by simp
  have hsz : (bytesRow S cap).size = cap := by unfold bytesRow; simp; exact Nat.add_sub_of_le hc
  have hB := new_block' (g := W.heap.size) W.drew (.cells (bytesRow S cap) 5 ((bytesRow S cap).size, (bytesRow S cap).size + 1)) rfl
  refine .inr ⟨W.heap.size, cap, by rw [hl], Nat.le_refl _, by simp, by rw [hl]; exact hc, hm, fun j hj => ⟨?_, ?_⟩, Tk.holds_new W.drew S cap _ _⟩
  · rw [Lib.cell_of_heap hB, Array.getElem?_eq_getElem (by omega)]; rfl
  · have h := World.frozen?_alloc_mark W.drew (bytesRow S cap) 5 (bytesRow S cap).size ((bytesRow S cap).size + 1) j
    have e : (W.drew.heap.size) = W.heap.size := rfl
    rw [e] at h
    rw [h, hsz]
    simp
    omega
theorem conv_hex (n : Nat) (hn : (hexL n).length ≤ 1048576) : ∃ S : ByteArray, S.data.toList = hexL n ++ [13, 10] ∧ S.size = (hexL n).length + 2 ∧
    ∀ W : World, (convert 9 39 (.string (⟨(hexL n).toArray⟩ ++ ⟨#[13, 10]⟩))).run Tryd.prog W = .ok (.slice (some ⟨W.heap.size, 0, none⟩) S.size (grownCap W S.size 0 5))
      (W.drew.alloc (.cells (bytesRow S (grownCap W S.size 0 5)) 5 ((bytesRow S (grownCap W S.size 0 5)).size, (bytesRow S (grownCap W S.size 0 5)).size + 1))) := by
  refine ⟨⟨(hexL n).toArray⟩ ++ ⟨#[13, 10]⟩, by simp, ?_, fun W => run_bytes W _⟩
  rw [ByteArray.size_append]; simp [ByteArray.size]
theorem app_below {B base : Nat} {v v' : Value} {l m : Bs} {a w w' : World} (h : AppPost base v l m w v' w') (ho : Own w base v l) (hB : Below B a w) (hb : B ≤ base) (hs : B ≤ w.heap.size) : Below B a w' :=
  hB.trans (h.2.1.below (fun k hk => Nat.le_trans hb (ho.lt k hk).1) hs)
def ChunkPost (b : Bs) (w : World) (e : Ending) (w' : World) : Prop := ∃ u, e = .returned u ∧ Own w' w.heap.size u (chunkL b) ∧ Below w.heap.size w w'
set_option maxRecDepth 100000 in
set_option maxHeartbeats 4000000 in
theorem chunk_any (v : Value) (b : Bs) (w : World) (hv : Byts w v b) (hb : b.length ≤ 1073741824) (hD : D64 w) :
    Calls Tryd.prog 22 #[v] w (ChunkPost b w) := by
  obtain ⟨va, vc, hvs⟩ := hv.shape
  subst hvs
  by_cases h0 : b = []
  · subst h0
    have HP := Lib.hid (show ChunkPost [] w (.returned (.slice none 0 0)) w from ⟨_, rfl, Own.nil _ _, Below.refl _ _⟩)
    clear hv
    go_enter Tryd.func22, Tryd.ntmps22
    go_wp2_with fail
    go_ret
    exact HP.out
  · have hpos : 0 < b.length := List.length_pos_iff.2 h0
    have HV := Lib.hid hv
    have hne : ((b.length : Int) == 0) = false := by rw [beq_eq_false_iff_ne]; omega
    have hh := hexL_len 14 b.length (by omega)
    obtain ⟨S, hSd, hSs, hcs⟩ := conv_hex b.length (by omega)
    have HSD := Lib.hid hSd
    have HSS := Lib.hid hSs
    have HH := Lib.hid hh
    have HF := Lib.hid (formatInt_any b.length w (by omega) hD)
    have HCK := Lib.hid (chunkL_some h0)
    clear hv hD hSd hSs h0
    go_enter Tryd.func22, Tryd.ntmps22
    go_wp2_with fail
    refine HF.out.mono ?_
    rintro e w1 ⟨rfl, hb1⟩
    have HB1 := Lib.hid hb1
    clear hb1
    go_upto_region 4 with fail
    obtain ⟨C, hC⟩ : ∃ C, C = grownCap w1 S.size 0 5 := ⟨_, rfl⟩
    rw [← hC]
    obtain ⟨w2, hw2⟩ : ∃ w2, w2 = (w1.alloc (.cells (bytesRow S C) 5 ((bytesRow S C).size, (bytesRow S C).size + 1))).drew := ⟨_, rfl⟩
    rw [← hw2]
    have HO := Lib.hid (show Own w2 w1.heap.size (.slice (some ⟨w1.heap.size, 0, none⟩) S.size C) (hexL b.length ++ [13, 10]) from by
      rw [← HSD.out, hw2]
      exact own_bytes w1 S C (by rw [hC]; exact grownCap_ge _ _ _ _) (by rw [hC]; exact grownCap_le_maxLen _ _ _ _ (by have := HSS.out; have := HH.out; unfold maxLen; omega)))
    have HB2 := Lib.hid (show Below w.heap.size w w2 from by rw [hw2]; exact (HB1.out.alloc HB1.out.size _).drew)
    have hs1 := HB1.out.size
    have hs2 : w1.heap.size ≤ w2.heap.size := by rw [hw2]; simp
    have HV2 := Lib.hid (HV.out.below HB2.out (Nat.le_refl _))
    have HL := Lib.hid (show (hexL b.length ++ [13, 10]).length + b.length ≤ 1099511627776 ∧ (hexL b.length ++ [13, 10] ++ b).length + 2 ≤ 1099511627776 from by simp only [List.length_append, List.length_cons, List.length_nil]; have := HH.out; omega)
    have HW := Lib.hid (show w.heap.size ≤ w2.heap.size from by omega)
    clear hcs hC hw2 HB1
    go_wp2_with (first | (at_builtin; refine wpList_append_any _ rfl _ _ 39 rfl w1.heap.size _ _ (hexL b.length ++ [13, 10]) b rfl rfl hs2 HO.out (src_byts HV2.out) HL.out.1 ?_; intro v3 w3 hp3; have HP3 := Lib.hid hp3; have hs3 : w1.heap.size ≤ w3.heap.size := Nat.le_trans hs2 hp3.2.1.size; obtain ⟨a3, c3, hv3⟩ := hp3.1.form; subst hv3; clear hp3) | (at_builtin; refine wpList_append_any _ rfl _ _ 9 rfl w1.heap.size _ _ (hexL b.length ++ [13, 10] ++ b) [13, 10] rfl rfl hs3 HP3.out.1 (src_text _ ⟨#[13, 10]⟩) HL.out.2 ?_; intro v4 w4 hp4; have HP4 := Lib.hid hp4; clear hp4))
    go_ret
    have hb3 := app_below HP3.out HO.out HB2.out hs1 HW.out
    exact ⟨_, rfl, by rw [HCK.out]; exact HP4.out.1.mono hs1, app_below HP4.out HP3.out.1 hb3 hs1 (by omega)⟩
def lastL : Bs := [48, 13, 10, 13, 10]
set_option maxRecDepth 100000 in
set_option maxHeartbeats 4000000 in
theorem last_any (w : World) : Calls Tryd.prog 24 #[] w fun e w' => ∃ u, e = .returned u ∧ Own w' w.heap.size u lastL ∧ Below w.heap.size w w' := by
  have HB := Lib.hid ((Below.refl w.heap.size w).alloc (Nat.le_refl _) (.cells #[.int .u8 48, .int .u8 13, .int .u8 10, .int .u8 13, .int .u8 10] 5 (5, 6)))
  have HN := Lib.hid (new_block w (.cells #[.int .u8 48, .int .u8 13, .int .u8 10, .int .u8 13, .int .u8 10] 5 (5, 6)))
  have HF := Lib.hid (World.frozen?_alloc_mark w #[.int .u8 48, .int .u8 13, .int .u8 10, .int .u8 13, .int .u8 10] 5 5 6)
  have kc := fun (w : World) (C : Array Value) (n c : Nat) => Lib.run_convert_bytes_const (P := Tryd.prog) w 39 5 C n c Tryd.underlying39 Tryd.underlying5
  go_enter Tryd.func24, Tryd.ntmps24
  go_wp2_with fail
  go_ret
  refine ⟨_, rfl, .inr ⟨w.heap.size, 5, rfl, Nat.le_refl _, by simp, by decide, by decide, fun j hj => ⟨?_, ?_⟩, fun j hj => ?_⟩, HB.out⟩
  · rw [Lib.cell_of_heap HN.out, Array.getElem?_eq_getElem (by simpa using hj)]; rfl
  · rw [HF.out j]; simp; omega
  · rw [Lib.cell_of_heap HN.out, Nat.zero_add]
    have : j < 5 := hj
    rcases (by omega : j = 0 ∨ j = 1 ∨ j = 2 ∨ j = 3 ∨ j = 4) with rfl | rfl | rfl | rfl | rfl <;> rfl
end Go.Proofs.YtcolnidgembniaaDoor.Fr
/-
  Chunks are read as their pieces: plain functions on bytes. No condition.
-/
namespace Go.Proofs.YtcolnidgembniaaDoor.Fr
open Go.Proofs.YtcolnidgembniaaDoor.Tk Go.Proofs.YtcolnidgembniaaDoor.Fd Go.Proofs.YtcolnidgembniaaDoor.Hd
set_option linter.unusedVariables false

def digOk (r : Nat) : Bool := isHex (hexD r) && decide (hexOf (hexD r) = r) && (hexD r != 10) && (hexD r != 13)
theorem dig_all : ∀ r : Fin 16, digOk r.val = true := by decide +kernel
theorem dig_at {r : Nat} (h : r < 16) : isHex (hexD r) = true ∧ hexOf (hexD r) = r ∧ hexD r ≠ 10 ∧ hexD r ≠ 13 := by
  have := dig_all ⟨r, h⟩
  unfold digOk at this
  simp only [Bool.and_eq_true, decide_eq_true_eq, bne_iff_ne] at this
  exact ⟨this.1.1.1, this.1.1.2, this.1.2, this.2⟩
theorem hexL_all : ∀ (k n : Nat), n < 16 ^ (k + 1) → (∀ c ∈ hexL n, isHex c = true ∧ c ≠ 10 ∧ c ≠ 13) ∧ hexGo 0 (hexL n) = n ∧ hexL n ≠ []
  | 0, n, h => by
    have hn : n < 16 := by simpa using h
    have hd := dig_at hn
    rw [hexL_small hn]
    refine ⟨fun c hc => ?_, ?_, by simp⟩
    · rw [List.mem_singleton.1 hc]; exact ⟨hd.1, hd.2.2⟩
    · show 0 * 16 + hexOf (hexD n) = n
      rw [hd.2.1]; omega
  | k + 1, n, h => by
    by_cases hn : n < 16
    · exact hexL_all 0 n (by simpa using hn)
    · obtain ⟨h1, h2, h3⟩ := hexL_all k (n / 16) (by rw [Nat.div_lt_iff_lt_mul (by omega)]; rw [Nat.pow_succ] at h; omega)
      have hd := dig_at (Nat.mod_lt n (show 0 < 16 by omega))
      rw [hexL_big hn]
      refine ⟨fun c hc => ?_, ?_, by simp⟩
      · rcases List.mem_append.1 hc with hc | hc
        · exact h1 c hc
        · rw [List.mem_singleton.1 hc]; exact ⟨hd.1, hd.2.2⟩
      · rw [hexGo_snoc, h2, hd.2.1]; omega
theorem own_cr (l : Bs) : own (l ++ [13]) = l := by unfold own; simp
theorem own_no {l : Bs} (h : ∀ c ∈ l, c ≠ 13) : own l = l := by
  unfold own
  rw [if_neg]
  intro e
  exact h 13 (List.mem_of_getLast? e) rfl
theorem hexes_only {t : Bs} (h : ∀ c ∈ t, isHex c = true) : hexes t = t ∧ behind t = [] := by
  have := hexes_mk (a := t) (b := []) h (fun c r e => by cases e)
  rwa [List.append_nil] at this
theorem sizeOf_hexL {n : Nat} (hn : n < 4294967296) : sizeOf (hexL n) = some n := by
  obtain ⟨h1, h2, h3⟩ := hexL_all 7 n (by omega)
  obtain ⟨e1, e2⟩ := hexes_only (fun c hc => (h1 c hc).1)
  have hl := hexL_len 7 n (by omega)
  unfold sizeOf sizeOk
  rw [e1, e2, h2]
  have hne : (hexL n).isEmpty = false := by cases h : hexL n with | nil => exact (h3 h).elim | cons => rfl
  rw [hne, if_pos (by simp [tailOk, ltrim]; omega)]
/-- A chunk is read as its bytes. -/
theorem run_chunkL {b r : Bs} {m : Nat} (h0 : b ≠ []) (hb : b.length ≤ 1048576) (hm : b.length ≤ m) :
    run (.size m []) (chunkL b ++ r) = (b ++ (run (.size (m - b.length) []) r).1, (chunkL b).length + (run (.size (m - b.length) []) r).2.1, (run (.size (m - b.length) []) r).2.2) := by
  have hpos : 0 < b.length := List.length_pos_iff.2 h0
  obtain ⟨h1, h2, h3⟩ := hexL_all 7 b.length (by omega)
  have hl := hexL_len 7 b.length (by omega)
  have e0 : chunkL b ++ r = (hexL b.length ++ [13]) ++ 10 :: (b ++ ([13] ++ 10 :: r)) := by rw [chunkL_some h0]; simp
  have e1 := run_line (s := .size m []) (l := []) (b := hexL b.length ++ [13]) (r := b ++ ([13] ++ 10 :: r)) rfl (fun c hc => by
    rcases List.mem_append.1 hc with hc | hc
    · exact (h1 c hc).2.1
    · rw [List.mem_singleton.1 hc]; decide) (by simp; omega)
  have e2 : ended (.size m []) (own ([] ++ (hexL b.length ++ [13]))) = .chunk (m - b.length) b.length := by
    rw [List.nil_append, own_cr]
    show sizeSt m (sizeOf (hexL b.length)) = _
    rw [sizeOf_hexL (by omega)]
    show (if b.length = 0 then _ else _) = _
    rw [if_neg (by omega), if_neg (by omega)]
  rw [e2] at e1
  have e3 := run_chunk b ([13] ++ 10 :: r) (m - b.length) b.length hpos (Nat.le_refl _)
  rw [if_pos rfl] at e3
  have e4 := run_line (s := .gap (m - b.length) []) (l := []) (b := [13]) (r := r) rfl (by simp) (by simp)
  have e5 : ended (.gap (m - b.length) []) (own ([] ++ [13])) = .size (m - b.length) [] := by
    rw [List.nil_append, show own [13] = [] from by decide]; rfl
  rw [e5] at e4
  rw [e0, e1, e3, e4, chunkL_some h0]
  simp only [List.length_append, List.length_cons, List.length_nil, Prod.mk.injEq, true_and, and_true]
  omega
/-- The last chunk ends all. -/
theorem run_lastL (m : Nat) (r : Bs) : run (.size m []) (lastL ++ r) = ([], 5, .done) := by
  have e0 : lastL ++ r = [48, 13] ++ 10 :: ([13] ++ 10 :: r) := rfl
  have e1 := run_line (s := .size m []) (l := []) (b := [48, 13]) (r := [13] ++ 10 :: r) rfl (by simp) (by simp)
  have e2 : ended (.size m []) (own ([] ++ [48, 13])) = .trail m [] := by
    rw [List.nil_append, show own [48, 13] = [48] from by decide]
    show sizeSt m (sizeOf [48]) = _
    rw [show sizeOf [48] = some 0 from by decide]
    rfl
  rw [e2] at e1
  have e3 := run_line (s := .trail m []) (l := []) (b := [13]) (r := r) rfl (by simp) (by simp)
  have e4 : ended (.trail m []) (own ([] ++ [13])) = .done := by
    rw [List.nil_append, show own [13] = [] from by decide]; rfl
  rw [e4, run_over (s := .done) rfl] at e3
  rw [e0, e1, e3]
  rfl
/-- What may come behind chunks of so many bytes; all chunks together. -/
def Chunked (all wire : Bs) (n : Nat) : Prop := all.length ≤ 300 * n ∧ wire.length ≤ 310 * n ∧ ∀ r m, all.length ≤ m → m ≤ 1048576 → run (.size m []) (wire ++ r) = (all ++ (run (.size (m - all.length) []) r).1, wire.length + (run (.size (m - all.length) []) r).2.1, (run (.size (m - all.length) []) r).2.2)
theorem chunked_nil : Chunked [] [] 0 := ⟨by simp, by simp, fun r m _ _ => by simp⟩
theorem chunked_next {all wire : Bs} {n : Nat} (h : Chunked all wire n) (p : Bs) (hp : p.length ≤ 300) : Chunked (all ++ p) (wire ++ chunkL p) (n + 1) := by
  obtain ⟨h1, h2, h3⟩ := h
  by_cases h0 : p = []
  · subst h0
    rw [chunkL_nil, List.append_nil, List.append_nil]
    exact ⟨by omega, by omega, h3⟩
  · have hl := hexL_len 7 p.length (by omega)
    have hcl : (chunkL p).length ≤ 310 := by
      rw [chunkL_some h0]
      have h2 := hexL_len 2 p.length (by omega)
      simp only [List.length_append, List.length_cons, List.length_nil]
      omega
    refine ⟨by rw [List.length_append]; omega, by rw [List.length_append]; omega, fun r m hm hm2 => ?_⟩
    rw [List.length_append] at hm
    rw [List.append_assoc, h3 _ m (by omega) hm2, run_chunkL h0 (by omega) (by omega), List.length_append, List.length_append, show m - (all.length + p.length) = m - all.length - p.length from by omega]
    simp only [List.append_assoc, Prod.mk.injEq, true_and, and_true]
    omega
/-- All of them, the last one, and what is behind. -/
theorem chunked_run {all wire : Bs} {n : Nat} (h : Chunked all wire n) (hn : n ≤ 20) (r : Bs) : run (.size 1048576 []) (wire ++ lastL ++ r) = (all, (wire ++ lastL).length, .done) := by
  obtain ⟨h1, h2, h3⟩ := h
  rw [List.append_assoc, h3 _ _ (by omega) (Nat.le_refl _), run_lastL, List.append_nil, List.length_append]
  rfl
end Go.Proofs.YtcolnidgembniaaDoor.Fr
/-
  A slice of slices of bytes that came in; two slices of a call's own, side by side; chunks that are put behind. Condition: what the form says of what is read.
-/
namespace Go.Proofs.YtcolnidgembniaaDoor.Fr
open Go.RowKit Go.ChangeShapes Go.WideShapes Go.Proofs.YtcolnidgembniaaDoor.Tk Go.Proofs.YtcolnidgembniaaDoor.Fd Go.Proofs.YtcolnidgembniaaDoor.Hd
set_option linter.unusedVariables false

/-- A slice whose elements read as these bytes. -/
def Bytss (w : World) (v : Value) (ls : List Bs) : Prop :=
  (ls = [] ∧ ∃ a cap, v = .slice a 0 cap) ∨ ∃ b off cap, v = .slice (some ⟨b, off, none⟩) ls.length cap ∧ b < w.heap.size ∧ ∀ j (hj : j < ls.length), ∃ u, w.cell? ⟨b, off + j, none⟩ = some u ∧ Byts w u ls[j]
theorem Bytss.below {B : Nat} {w w' : World} {v : Value} {ls : List Bs} (h : Bytss w v ls) (hb : Below B w w') (hB : w.heap.size ≤ B) : Bytss w' v ls := by
  rcases h with h | ⟨b, off, cap, hv, hlt, hh⟩
  · exact .inl h
  · refine .inr ⟨b, off, cap, hv, Nat.lt_of_lt_of_le hlt hb.size, fun j hj => ?_⟩
    obtain ⟨u, h1, h2⟩ := hh j hj
    exact ⟨u, by rw [hb.cell (p := ⟨b, off + j, none⟩) (by show b < B; omega)]; exact h1, h2.below hb hB⟩
theorem Bytss.shape {w : World} {v : Value} {ls : List Bs} (h : Bytss w v ls) : ∃ a cap, v = .slice a ls.length cap := by
  rcases h with ⟨rfl, a, cap, hv⟩ | ⟨b, off, cap, hv, _⟩
  · exact ⟨a, cap, hv⟩
  · exact ⟨_, cap, hv⟩
theorem cellsSl : Tryd.prog.cellsOf 39 = 1 := by kernel_rfl
theorem byts_row {W : World} {A : Option Addr} {L C : Nat} {Z : List Int} (h1 : L ≤ C) (h2 : C ≤ maxLen) (h3 : Z.length = C) (h4 : ∀ n ∈ Z, (Lit.int .u8 n).wf = true) (h5 : A = none → C = 0)
    (h6 : ∀ a', A = some a' → 0 ≤ a'.block ∧ ∀ c, c < C → W.cell? (a'.add c) = some (.int .u8 (Z.getD c 0))) : Byts W (.slice A L C) ((Z.take L).map fun n => UInt8.ofNat n.toNat) := by
  have hlen : ((Z.take L).map fun n => UInt8.ofNat n.toNat).length = L := by simp; omega
  by_cases h0 : L = 0
  · subst h0; exact .inl ⟨by simp, _, _, rfl⟩
  · cases hA : A with
    | none => have := h5 hA; omega
    | some a =>
      obtain ⟨_, h7⟩ := h6 a hA
      obtain ⟨b, off, spot⟩ := a
      have hc0 := h7 0 (by omega)
      have hspot : spot = none := by simpa [Addr.add] using World.cell?_spot hc0
      subst hspot
      refine .inr ⟨b, off, C, by rw [hlen], by rw [hlen]; exact h1, h2, ?_, fun j hj => ?_⟩
      · rw [Addr.add_lit] at hc0
        exact World.block_lt_of_cell? W _ hc0
      · rw [hlen] at hj
        have hcj := h7 j (by omega)
        rw [Addr.add_lit] at hcj
        have hjz : j < Z.length := by omega
        have hw := h4 Z[j] (List.getElem_mem hjz)
        have e : Z.getD j 0 = Z[j] := by simp [List.getD, List.getElem?_eq_getElem hjz]
        rw [hcj, e]
        simp only [List.getElem_map, List.getElem_take]
        rw [byte_back hw]
set_option maxRecDepth 100000 in
theorem open_bytss {H : Type} {enc : TypeId × Value → H} {W : World} {base : Nat} {v : Value} {d : DataW H} {p : List MemPlace} (hv : Value.okWide Tryd.prog W .any base 61 v)
    (h : DataW.Trod enc Tryd.prog W 0 (fun _ => true) true 61 v d p) : ∃ ls : List Bs, Bytss W v ls ∧ ls.length ≤ maxLen := by
  obtain ⟨a0, len0, cap0, rfl⟩ := okWide_slice Tryd.underlying61 hv
  obtain ⟨fuel, hf⟩ := h
  rcases Go.Deep.open_int_rows Tryd.underlying61 Tryd.underlying39 Tryd.underlying5 cellsSl Hd.cellsByte hf with ⟨hcs, _⟩ | ⟨a, len, cap, A, L, C, Z, hcs, _, hl, hm, hx, hat⟩
  · simp [Value.cells] at hcs
    obtain ⟨rfl, rfl, rfl⟩ := hcs
    exact ⟨[], .inl ⟨rfl, _, _, rfl⟩, by simp⟩
  · simp [Value.cells] at hcs
    obtain ⟨rfl, rfl, rfl⟩ := hcs
    by_cases h0 : len0 = 0
    · subst h0; exact ⟨[], .inl ⟨rfl, _, _, rfl⟩, by simp⟩
    · obtain ⟨b, off, spot⟩ := a
      have hc0 := (hat 0 (by omega)).1
      have hspot : spot = none := by simpa [Addr.add] using World.cell?_spot hc0
      subst hspot
      have hlen : ((List.range len0).map fun r => ((Z r).take (L r)).map fun n : Int => UInt8.ofNat n.toNat).length = len0 := by simp
      refine ⟨(List.range len0).map fun r => ((Z r).take (L r)).map fun n : Int => UInt8.ofNat n.toNat, .inr ⟨b, off, cap0, by rw [hlen], ?_, fun j hj => ?_⟩, by rw [hlen]; omega⟩
      · rw [Addr.add_lit] at hc0
        exact World.block_lt_of_cell? W _ hc0
      · rw [hlen] at hj
        obtain ⟨h1, h2, h3, h4, h5, h6, h7⟩ := hat j (by omega)
        rw [Addr.add_lit] at h1
        refine ⟨_, h1, ?_⟩
        simp only [List.getElem_map, List.getElem_range]
        exact byts_row h2 h3 h4 h5 h6 h7
/-- Two slices of the call's own, apart. -/
structure Pair (w : World) (va : Value) (G : Bs) (vw : Value) (W : Bs) (wr : World) : Prop where
  bel : Below w.heap.size w wr
  a : Own wr w.heap.size va G
  b : Own wr w.heap.size vw W
  apart : ∀ k, va.ownBlock = some k → vw.ownBlock ≠ some k
theorem Pair.swap {w : World} {va : Value} {G : Bs} {vw : Value} {W : Bs} {wr : World} (h : Pair w va G vw W wr) : Pair w vw W va G wr := ⟨h.bel, h.b, h.a, fun k hk e => h.apart k e hk⟩
theorem Pair.below {w : World} {va : Value} {G : Bs} {vw : Value} {W : Bs} {wr w' : World} (h : Pair w va G vw W wr) (hb : Below wr.heap.size wr w') : Pair w va G vw W w' :=
  ⟨h.bel.trans (hb.mono h.bel.size), h.a.below hb, h.b.below hb, h.apart⟩
theorem Pair.app {w : World} {va : Value} {G : Bs} {vw : Value} {W : Bs} {wr : World} (h : Pair w va G vw W wr) {m : Bs} {v' : Value} {w' : World} (hp : AppPost w.heap.size va G m wr v' w') : Pair w v' (G ++ m) vw W w' := by
  obtain ⟨h1, h2, h3⟩ := hp
  refine ⟨h.bel.trans (h2.below (fun k hk => (h.a.lt k hk).1) h.bel.size), h1, h.b.chg h2 (fun k hk e => h.apart k e hk), fun k hk e => ?_⟩
  rcases h3 with h3 | h3
  · exact h.apart k (h3 ▸ hk) e
  · rw [h3] at hk; injection hk with hk; have := (h.b.lt k e).2; omega
theorem Pair.appB {w : World} {va : Value} {G : Bs} {vw : Value} {W : Bs} {wr : World} (h : Pair w va G vw W wr) {m : Bs} {v' : Value} {w' : World} (hp : AppPost w.heap.size vw W m wr v' w') : Pair w va G v' (W ++ m) w' := (h.swap.app hp).swap
theorem made_chunked : made 2 0 = some (.size 1048576 []) := by unfold made; simp
/-- What ends whole never failed. -/
theorem cut_whole {w : World} {g : Nat} {s : St} {b : Bs} {ov : Value} {X : Bs} {k : Nat} {G : Bs} {gv : Value} {st : St} {O : Nat → Prop} {wr : World} (t : CutAt w g s b ov X k G gv st O wr) {A : Bs} {N : Nat} (h : run s b = (A, N, .done)) : errOf st = 0 := by
  cases st with
  | bad e =>
    have := t.eq
    rw [h, run_over (s := .bad e) rfl] at this
    injection this with _ h2
    injection h2 with _ h3
    cases h3
  | _ => rfl
theorem mid_whole {w : World} {g : Nat} {s : St} {b : Bs} {ov : Value} {X : Bs} {k : Nat} {G : Bs} {gv : Value} {st : St} {o : Bs} {nv : Value} {O : Nat → Prop} {wr : World} (t : CutMid w g s b ov X k G gv st o nv O wr) {A : Bs} {N : Nat} (h : run s b = (A, N, .done)) : errOf st = 0 := by
  cases st with
  | bad e =>
    have := t.eq
    rw [h, run_over (s := .bad e) rfl] at this
    injection this with _ h2
    injection h2 with _ h3
    cases h3
  | _ => rfl
/-- Nothing was got yet. -/
theorem cut_new {w y : World} {g : Nat} {s : St} {b : Bs} {O : Nat → Prop} (h : Lone w g s O y) : CutAt w g s b (.slice none 0 0) [] 0 [] (.slice none 0 0) s O y :=
  ⟨Nat.zero_le _, by simp, Nat.le_refl _, h, Own.nil _ _, Own.nil _ _, fun k hk e => (by cases e), fun k hk e => (by cases e), fun k hk e => (by cases e)⟩
theorem CutAt.drewN {w : World} {g : Nat} {s : St} {b : Bs} {ov : Value} {X : Bs} {k : Nat} {G : Bs} {gv : Value} {st : St} {O : Nat → Prop} {wr : World} (t : CutAt w g s b ov X k G gv st O wr) (n : Nat) : CutAt w g s b ov X k G gv st O (wr.drewN n) :=
  t.below ⟨rfl, rfl, rfl, Nat.le_refl _, fun _ _ => rfl⟩
end Go.Proofs.YtcolnidgembniaaDoor.Fr
