/-
  Bytes in memory of a call's own, however they came there; an append of bytes, of a text or of nothing to them: one law for both ways. Condition: at most 2^40 bytes.
-/
import Derived.Test.YtoofdompafkddaaDoorHdGrow
import Derived.Deep.AppendSrc
namespace Go.Proofs.YtoofdompafkddaaDoor.Fr
open Go.RowKit Go.Proofs.YtoofdompafkddaaDoor.Tk Go.Proofs.YtoofdompafkddaaDoor.Fd Go.Proofs.YtoofdompafkddaaDoor.Hd
set_option linter.unusedVariables false

/-- A slice of bytes in a block that was laid since base, with what room it has; or nil. -/
def Own (w : World) (base : Nat) (v : Value) (l : Bs) : Prop :=
  (v = .slice none 0 0 ∧ l = []) ∨ ∃ g cap, v = .slice (some ⟨g, 0, none⟩) l.length cap ∧ base ≤ g ∧ g < w.heap.size ∧ l.length ≤ cap ∧ cap ≤ maxLen ∧
    (∀ j, j < cap → (w.cell? ⟨g, j, none⟩).isSome = true ∧ w.frozen? ⟨g, j, none⟩ = false) ∧ Holds w g 0 l
theorem Own.nil (w : World) (base : Nat) : Own w base (.slice none 0 0) [] := .inl ⟨rfl, rfl⟩
theorem Own.mono {w : World} {base base' : Nat} {v : Value} {l : Bs} (h : Own w base v l) (hb : base' ≤ base) : Own w base' v l := by
  rcases h with h | ⟨g, cap, hv, h1, h2⟩
  · exact .inl h
  · exact .inr ⟨g, cap, hv, by omega, h2⟩
theorem Own.form {w : World} {base : Nat} {v : Value} {l : Bs} (h : Own w base v l) : ∃ a cap, v = .slice a l.length cap := by
  rcases h with ⟨rfl, rfl⟩ | ⟨g, cap, hv, _⟩
  · exact ⟨none, 0, rfl⟩
  · exact ⟨_, cap, hv⟩
theorem Own.byts {w : World} {base : Nat} {v : Value} {l : Bs} (h : Own w base v l) : Byts w v l := by
  rcases h with ⟨rfl, rfl⟩ | ⟨g, cap, hv, h1, h2, h3, h4, _, h5⟩
  · exact .inl ⟨rfl, _, _, rfl⟩
  · exact .inr ⟨g, 0, cap, hv, h3, h4, h2, h5⟩
theorem Own.lt {w : World} {base : Nat} {v : Value} {l : Bs} (h : Own w base v l) (k : Nat) (hk : v.ownBlock = some k) : base ≤ k ∧ k < w.heap.size := by
  rcases h with ⟨rfl, _⟩ | ⟨g, cap, rfl, h1, h2, _⟩
  · cases hk
  · injection hk with hk; subst hk; exact ⟨h1, h2⟩
theorem cell_same {w w' : World} {g : Nat} (h : w'.heap[g]? = w.heap[g]?) (j : Nat) : w'.cell? ⟨g, j, none⟩ = w.cell? ⟨g, j, none⟩ := World.cell?_of_block (w := w) (a := ⟨g, j, none⟩) h
theorem frozen_same {w w' : World} {g : Nat} (h : w'.heap[g]? = w.heap[g]?) (j : Nat) : w'.frozen? ⟨g, j, none⟩ = w.frozen? ⟨g, j, none⟩ := World.frozen?_of_block (a := ⟨g, j, none⟩) h
theorem Own.same {w w' : World} {base : Nat} {v : Value} {l : Bs} (h : Own w base v l) (hs : w.heap.size ≤ w'.heap.size) (hb : ∀ k, v.ownBlock = some k → w'.heap[k]? = w.heap[k]?) : Own w' base v l := by
  rcases h with h | ⟨g, cap, hv, h1, h2, h3, h4, h5, h6⟩
  · exact .inl h
  · have hg := hb g (by rw [hv]; rfl)
    refine .inr ⟨g, cap, hv, h1, by omega, h3, h4, fun j hj => ?_, fun j hj => ?_⟩
    · rw [cell_same hg, frozen_same hg]; exact h5 j hj
    · rw [cell_same hg]; exact h6 j hj
theorem Own.below {w w' : World} {base : Nat} {v : Value} {l : Bs} (h : Own w base v l) (hb : Below w.heap.size w w') : Own w' base v l :=
  h.same hb.size (fun k hk => hb.block k (h.lt k hk).2)
theorem Own.chg {O : Nat → Prop} {w w' : World} {base : Nat} {v : Value} {l : Bs} (h : Own w base v l) (hc : Chg O w w') (ho : ∀ k, v.ownBlock = some k → ¬ O k) : Own w' base v l :=
  h.same hc.size (fun k hk => hc.block k (h.lt k hk).2 (ho k hk))
/-- A row of the call's own is such a slice. -/
theorem Own.row {w : World} {base : Nat} {v : Value} {l : Bs} (h : w.ownsRow base 5 1 v l.length (bys l)) : Own w base v l := by
  rcases h.2 with ⟨hv, h0⟩ | ⟨g, cap, cur, hv, hg, hh, hlc, hcm, hcs, _⟩
  · exact .inl ⟨hv, List.length_eq_zero_iff.1 h0⟩
  · have hB : OwnB w v l := owns_mono h (Nat.zero_le _)
    refine .inr ⟨g, cap, hv, hg, block_lt hh, hlc, hcm, fun j hj => ⟨?_, free hh j⟩, hB.holds hv⟩
    rw [Lib.cell_of_heap hh, Array.getElem?_eq_getElem (by omega)]; rfl
theorem below_setCells {B b : Nat} : ∀ (vs : List Value) (o : Nat) (a w : World), Below B a w → B ≤ b → Below B a (w.setCells b o vs)
  | [], _, _, _, h, _ => h
  | v :: r, o, a, w, h, hb => below_setCells r (o + 1) a _ (h.setCell (p := ⟨b, o, none⟩) hb v) hb
theorem size_setCells (b : Nat) : ∀ (vs : List Value) (o : Nat) (w : World), (w.setCells b o vs).heap.size = w.heap.size
  | [], _, _ => rfl
  | v :: r, o, w => by rw [World.setCells, size_setCells b r]; simp [World.setCell]
theorem other_setCells {b k : Nat} (hk : k ≠ b) : ∀ (vs : List Value) (o : Nat) (w : World), (w.setCells b o vs).heap[k]? = w.heap[k]?
  | [], _, _ => rfl
  | v :: r, o, w => by rw [World.setCells, other_setCells hk r]; exact Below.heap_setCell w ⟨b, o, none⟩ v k hk
/-- What an append leaves. -/
def AppPost (base : Nat) (v : Value) (l m : Bs) (w : World) (v' : Value) (w' : World) : Prop :=
  Own w' base v' (l ++ m) ∧ Chg (fun k => v.ownBlock = some k) w w' ∧ (v'.ownBlock = v.ownBlock ∨ v'.ownBlock = some w.heap.size)
theorem run_append_nil {P : Program} (w : World) (t tx ty e : TypeId) (i : TypeInfo) (ht : P.underlying t = some (.slice e)) (hi : P.info? e = some i) (x : Value) (hs : Src P i.size tx x 0 [] w) :
    (Builtin.append_ #[t, tx] ty #[.slice none 0 0, x]).run P w = .ok (.slice none 0 0) w := by
  rcases hs.kind with ⟨e', hk⟩ | hk <;> simp [Builtin.append_, run_underlying ht, run_underlying hk, sizeOf, typeInfo, hi, hs.len, hs.cells]
theorem firstCells_holds (w : World) (g n cap : Nat) (l : Bs) (hn : l.length = n) (h : Holds w g 0 l) : (Builtin.firstCells 1 n (.slice (some ⟨g, 0, none⟩) n cap)).run Tryd.prog w = .ok (bys l).toArray w := by
  refine run_firstCells_some w 1 n ⟨g, 0, none⟩ n cap (bys l) (by rw [bys_length, hn, Nat.mul_one]) (fun j u hj => ?_)
  have hjl : j < l.length := by have := (List.getElem?_eq_some_iff.1 hj).1; rwa [bys_length] at this
  rw [bys_at l j hjl] at hj
  rw [Addr.add_lit]
  have := h j hjl
  rw [this]; exact hj
theorem holds_cells {w : World} {g : Nat} {l m : Bs} {cap : Nat} (h : Holds w g 0 l) (hc : ∀ j, j < cap → (w.cell? ⟨g, j, none⟩).isSome = true) (hr : l.length + m.length ≤ cap) : Holds (w.setCells g l.length (bys m)) g 0 (l ++ m) := by
  intro j hj
  rw [List.length_append] at hj
  rw [Nat.zero_add]
  by_cases h1 : j < l.length
  · rw [World.cell?_setCells_out g (bys m) l.length w ⟨g, j, none⟩ (fun _ _ => .inl h1), List.getElem_append_left h1]
    have := h j h1
    rwa [Nat.zero_add] at this
  · obtain ⟨k, rfl⟩ : ∃ k, j = l.length + k := ⟨j - l.length, by omega⟩
    have hk : k < (bys m).length := by rw [bys_length]; omega
    have h3 := World.cell?_setCells_in g (bys m) l.length w (fun i hi => hc _ (by rw [bys_length] at hi; omega)) k hk
    rw [h3]
    simp [bys]
theorem cells_some {w : World} {g o : Nat} (vs : List Value) (j : Nat) (hall : ∀ i, i < vs.length → (w.cell? ⟨g, o + i, none⟩).isSome = true) (h : (w.cell? ⟨g, j, none⟩).isSome = true) : ((w.setCells g o vs).cell? ⟨g, j, none⟩).isSome = true := by
  by_cases h1 : o ≤ j ∧ j < o + vs.length
  · obtain ⟨k, rfl⟩ : ∃ k, j = o + k := ⟨j - o, by omega⟩
    rw [World.cell?_setCells_in g vs o w hall k (by omega)]; rfl
  · rw [World.cell?_setCells_out g vs o w ⟨g, j, none⟩ (fun _ _ => by show j < o ∨ o + vs.length ≤ j; omega)]; exact h
set_option maxRecDepth 100000 in
theorem run_append_own (w : World) (tx ty : TypeId) (base : Nat) (v x : Value) (l m : Bs) (hb : base ≤ w.heap.size) (h : Own w base v l) (hx : Src Tryd.prog 1 tx x m.length (bys m) w) (hl : l.length + m.length ≤ 1099511627776) :
    ∃ v' w', (Builtin.append_ #[22, tx] ty #[v, x]).run Tryd.prog w = .ok v' w' ∧ AppPost base v l m w v' w' := by
  obtain ⟨i0, hi, hz0, hz1, hz2⟩ := info_parts infoByte3
  have hx' : Src Tryd.prog i0.size tx x m.length (bys m) w := by rw [hz1]; exact hx
  have grow : ∀ (bo : Option Addr) (cap : Nat), v = .slice bo l.length cap → cap < l.length + m.length → (Builtin.firstCells 1 l.length (.slice bo l.length cap)).run Tryd.prog w.drew = .ok (bys l).toArray w.drew → ∃ v' w', (Builtin.append_ #[22, tx] ty #[v, x]).run Tryd.prog w = .ok v' w' ∧ AppPost base v l m w v' w' := by
    intro bo cap hv hc ho
    have hmx : (l ++ m).length = l.length + m.length := List.length_append
    have hgm := grownCap_le_maxLen w (l.length + m.length) cap 5 (by unfold maxLen; omega)
    have hge := grownCap_ge w (l.length + m.length) cap 5
    refine ⟨_, _, by rw [hv]; exact run_append_grow_src w 22 tx ty 5 i0 (.int .u8 0) Tryd.underlying22 hi hz0 bo l.length cap (bys l) (by rw [hz1]; exact ho) x m.length (bys m) hx' hc (by omega) (growslice_fits hc (by rw [hz2]; omega)), ?_, ?_, .inr rfl⟩
    · have hB := new_block' (g := w.heap.size) w.drew (.cells ((bys l ++ bys m).toArray ++ Builtin.zeroCells (Value.int .u8 0).cells (grownCap w (l.length + m.length) cap 5 - (l.length + m.length))) 5) rfl
      refine .inr ⟨w.heap.size, _, by rw [hmx], hb, by simp, by rw [hmx]; exact hge, hgm, fun j hj => ⟨?_, free hB j⟩, fun j hj => ?_⟩
      · rw [Lib.cell_of_heap hB, Array.getElem?_eq_getElem (by simp [size_zeroCells, bys_length, Value.cells]; omega)]; rfl
      · rw [hmx] at hj
        rw [Lib.cell_of_heap hB, Nat.zero_add, Array.getElem?_append_left (by simp [bys_length]; omega), List.getElem?_toArray, ← bys_append, bys_at _ j (by rw [hmx]; exact hj)]
    · exact (Chg.refl _ w).drew.alloc _
  rcases h with ⟨rfl, rfl⟩ | ⟨g, cap, rfl, h1, h2, h3, h4, h5, h6⟩
  · by_cases hm : m.length = 0
    · obtain rfl : m = [] := List.length_eq_zero_iff.1 hm
      exact ⟨_, _, run_append_nil w 22 tx ty 5 i0 Tryd.underlying22 hi x hx', Own.nil _ _, Chg.refl _ _, .inl rfl⟩
    · exact grow none 0 rfl (by simp; omega) (run_firstCells_none w.drew 1 0 0 0)
  · by_cases hr : l.length + m.length ≤ cap
    · have hc : ∀ j, j < (bys m).length → (w.cell? ⟨g, 0 + l.length * i0.size + j, none⟩).isSome = true := fun j hj => by rw [hz1, bys_length] at *; exact (h5 _ (by omega)).1
      have hf : ∀ j, j < (bys m).length → w.frozen? ⟨g, 0 + l.length * i0.size + j, none⟩ = false := fun j hj => by rw [hz1, bys_length] at *; exact (h5 _ (by omega)).2
      have hrun := run_append_room_src (P := Tryd.prog) w 22 tx ty 5 i0 Tryd.underlying22 hi g 0 l.length cap x m.length (bys m) hx' hr hc hf
      rw [hz1, Nat.mul_one, Nat.zero_add] at hrun
      have hb2 : Below g w (w.setCells g l.length (bys m)) := below_setCells _ _ _ _ (Below.refl _ _) (Nat.le_refl _)
      refine ⟨_, _, hrun, .inr ⟨g, cap, by rw [List.length_append], h1, by rw [size_setCells]; exact h2, by rw [List.length_append]; exact hr, h4, fun j hj => ⟨?_, ?_⟩, holds_cells h6 (fun j hj => (h5 j hj).1) hr⟩, ?_, .inl rfl⟩
      · exact cells_some _ _ (fun i hi => (h5 _ (by rw [bys_length] at hi; omega)).1) (h5 j hj).1
      · rw [World.frozen?_setCells]; exact (h5 j hj).2
      · refine ⟨hb2.os, hb2.tape, hb2.output, by rw [size_setCells]; exact Nat.le_refl _, fun k hk ho => other_setCells (fun e => ho (by rw [e]; rfl)) _ _ _⟩
    · exact grow _ cap rfl (by omega) (firstCells_holds w.drew g l.length cap l rfl h6)
/-- An append to bytes of the call's own, in one way. -/
theorem wpList_append_any (w : World) {ops : Array Oper} {rest : List Oper} {o : Oper} {a : Act} {Q : Exit → Act → World → Prop} (hg : o.guard = none) (s x : Operand) (tx : TypeId)
    (hop : o.op = Op.call { callee := Callee.builtin Builtin.append, args := #[s, x], argTypes := #[22, tx] }) (base : Nat) (v y : Value) (l m : Bs) (hs : a.eval s = v) (hy : a.eval x = y) (hb : base ≤ w.heap.size) (h : Own w base v l)
    (hx : Src Tryd.prog 1 tx y m.length (bys m) w) (hl : l.length + m.length ≤ 1099511627776)
    (hK : ∀ v' w', AppPost base v l m w v' w' → wpList Tryd.prog ops Q rest (a.put o.dst v') w') : wpList Tryd.prog ops Q (o :: rest) a w := by
  refine wpList_plain hg fun K hK' => ?_
  obtain ⟨v', w', hrun, hp⟩ := run_append_own w tx o.type base v y l m hb h hx hl
  unfold Oper.wp
  simp [execOp, hop, resolve, invoke, builtin, hs, hy, hrun, Result.andThen]
  exact hK' _ _ (hK v' w' hp)
/-- What is appended: bytes in memory, a text, or none. -/
theorem src_byts {w : World} {v : Value} {m : Bs} (h : Byts w v m) : Src Tryd.prog 1 22 v m.length (bys m) w := by
  rcases h with ⟨rfl, a, cap, rfl⟩ | ⟨b, off, cap, rfl, h1, h2, h3, h4⟩
  · cases a with
    | none => exact Src.ofNil w Tryd.underlying22 cap
    | some a => exact Src.ofSlice w Tryd.underlying22 a 0 cap [] rfl (fun j u hj => by simp at hj) (fun u hu => by simp at hu)
  · refine Src.ofSlice w Tryd.underlying22 ⟨b, off, none⟩ m.length cap (bys m) (by rw [bys_length, Nat.mul_one]) (fun j u hj => ?_) (bys_one m)
    have hjl : j < m.length := by have := (List.getElem?_eq_some_iff.1 hj).1; rwa [bys_length] at this
    rw [bys_at m j hjl] at hj
    rw [Addr.add_lit, h4 j hjl, hj]
theorem src_text (w : World) (s : ByteArray) : Src Tryd.prog 1 9 (.string s) s.data.toList.length (bys s.data.toList) w := by
  have h := Src.ofString (P := Tryd.prog) w Tryd.underlying9 s
  have e : s.data.toList.length = s.size := by simp
  rw [e]
  exact h
/-- Bytes of the call's own, as a text. -/
theorem conv_own {w : World} {base : Nat} {v : Value} {l : Bs} (h : Own w base v l) : (convert 22 9 v).run Tryd.prog w = .ok (.string ⟨l.toArray⟩) w := by
  rcases h with ⟨rfl, rfl⟩ | ⟨g, cap, rfl, _, _, _, _, _, h⟩
  · exact run_convert_bytes_nil w 22 5 Tryd.underlying22 Tryd.underlying5 0 0 9 Tryd.underlying9
  · exact Tk.run_back (P := Tryd.prog) w 22 9 5 g 0 cap l Tryd.underlying22 Tryd.underlying5 Tryd.underlying9 h
end Go.Proofs.YtoofdompafkddaaDoor.Fr
