/-
  The laws' own handles, kept beside the program's arena; masks. No condition.
-/
import Derived.Test.YtheljldoboiekaaSlPAlloc
import Derived.Test.YtheljldoboiekaaSlPHold
import Derived.Test.YtheljldoboiekaaSlPLive
import Derived.Test.YtheljldoboiekaaSlPNew
import Derived.Test.YtheljldoboiekaaSlLaw
namespace Go.Proofs.Ytheljldoboiekaa.Sl
open Go.RowKit Go.Proofs.Ytheljldoboiekaa.Fd
set_option maxRecDepth 100000
set_option linter.unusedVariables false
set_option linter.unusedSimpArgs false

theorem mask (a : Int) (m : Nat) (hm : m < 9223372036854775808) : 0 ≤ bits .and .i64 a (m : Int) ∧ bits .and .i64 a (m : Int) ≤ (m : Int) := by
  have h1 : (BitVec.ofInt 64 a &&& BitVec.ofInt 64 (m : Int)).toNat ≤ m := by
    rw [BitVec.toNat_and, BitVec.ofInt_natCast, BitVec.toNat_ofNat]
    exact Nat.le_trans Nat.and_le_right (Nat.mod_le _ _)
  have h2 : bits .and .i64 a (m : Int) = IntKind.i64.wrap ((BitVec.ofInt 64 a &&& BitVec.ofInt 64 (m : Int)).toNat : Int) := rfl
  rw [h2, IntKind.wrap_i64]
  omega
theorem mask_nat (a : Int) (m : Nat) (hm : m < 9223372036854775808) : ∃ r : Nat, bits .and .i64 a (m : Int) = (r : Int) ∧ r ≤ m := by
  obtain ⟨h0, h1⟩ := mask a m hm
  exact ⟨(bits .and .i64 a (m : Int)).toNat, by omega, by omega⟩
theorem PRel.low {w : World} {base base' p : Nat} {n : Nat → Nat} {A : Ar} {G : Nat} (h : PRel w base p n A G) (hb : base' ≤ base) : PRel w base' p n A G := by
  obtain ⟨gs, Q, M, h1, h2⟩ := h.it
  exact ⟨⟨gs, Q, M, ⟨h1.arena, h1.row, h1.len, h1.mem, Nat.le_trans hb h1.apP, fun c hc => ⟨Nat.le_trans hb (h1.apG c hc).1, (h1.apG c hc).2⟩, h1.apGG, fun c i q hq => by
    obtain ⟨y1, y2, y3⟩ := h1.apQ c i q hq
    exact ⟨y1, Nat.le_trans hb y2, y3⟩, h1.apQQ⟩, h2⟩, h.few, h.small⟩
/-- Handles as cells. -/
def hdC (h : Hd) : List Value := [.int .i64 h.1, .int .i64 h.2.1, .int .i64 h.2.2]
def flatH (l : List Hd) : List Value := l.flatMap hdC
theorem flatH_length (l : List Hd) : (flatH l).length = l.length * 3 := by
  induction l with
  | nil => rfl
  | cons x r ih => show (hdC x ++ flatH r).length = _; rw [List.length_append, ih, List.length_cons]; show 3 + _ = _; omega
theorem flatH_snoc (l : List Hd) (h : Hd) : flatH (l ++ [h]) = flatH l ++ hdC h := by simp [flatH]
theorem flatH_at (L : List Hd) : ∀ (j : Nat) (h : j < L.length) (t : Nat), t < 3 → (flatH L)[j * 3 + t]? = (hdC L[j])[t]? := by
  induction L with
  | nil => intro j h; simp at h
  | cons x r ih =>
    intro j h t ht
    show (hdC x ++ flatH r)[_]? = _
    cases j with
    | zero => rw [Nat.zero_mul, Nat.zero_add, List.getElem?_append_left (by show t < 3; exact ht)]; rfl
    | succ j =>
      rw [List.getElem?_append_right (by show 3 ≤ _; omega), List.getElem_cons_succ, ← ih j (by simpa using h) t ht]
      congr 1
      show _ - 3 = _
      omega
def OwnH (w : World) (base : Nat) (v : Value) (l : List Hd) : Prop := w.ownsRow base 34 3 v l.length (flatH l)
theorem OwnH.nil (w : World) (base : Nat) : OwnH w base (.slice none 0 0) [] := World.ownsRow_nil _ _ _ _
theorem OwnH.form {w : World} {base : Nat} {v : Value} {l : List Hd} (h : OwnH w base v l) : ∃ a cap, v = .slice a l.length cap := by
  rcases h.2 with ⟨h1, h2⟩ | ⟨g, cap, cur, h1, _⟩
  · exact ⟨none, 0, by rw [h1, h2]⟩
  · exact ⟨_, _, h1⟩
theorem OwnH.entry {w : World} {base : Nat} {v : Value} {l : List Hd} (h : OwnH w base v l) {k : Nat} (hk : k < l.length) : ∃ g cap, v = .slice (some ⟨g, 0, none⟩) l.length cap ∧ g < w.heap.size ∧ base ≤ g ∧
    w.cell? ⟨g, k * 3, none⟩ = some (.int .i64 l[k].1) ∧ w.cell? ⟨g, k * 3 + 1, none⟩ = some (.int .i64 l[k].2.1) ∧ w.cell? ⟨g, k * 3 + 2, none⟩ = some (.int .i64 l[k].2.2) ∧ ∀ j, w.frozen? ⟨g, j, none⟩ = false := by
  have hr : w.ownsRow base 34 3 v l.length (flatH l) := h
  rcases hr.2 with ⟨h1, h2⟩ | ⟨g, cap, cur, h1, h2, h3, h4, h5, h6, h7⟩
  · omega
  · subst h1
    refine ⟨g, cap, rfl, block_lt h3, h2, ?_, ?_, ?_, free h3⟩
    · rw [hr.cellAt (k * 3) (by omega)]; exact flatH_at l k hk 0 (by decide)
    · rw [hr.cellAt (k * 3 + 1) (by omega)]; exact flatH_at l k hk 1 (by decide)
    · rw [hr.cellAt (k * 3 + 2) (by omega)]; exact flatH_at l k hk 2 (by decide)
theorem OwnH.tn {T : TypeId → Bool} {b0 : Nat} {w w' : World} {base : Nat} {v : Value} {l : List Hd} (h : OwnH w base v l) (ht : Tn T b0 w w') (hT : T 34 = false) : OwnH w' base v l := by
  refine ⟨h.1, ?_⟩
  rcases h.2 with ⟨h1, h2⟩ | ⟨g, cap, cur, h1, h2, h3, h4⟩
  · exact .inl ⟨h1, h2⟩
  · exact .inr ⟨g, cap, cur, h1, h2, ht.other h3 hT, h4⟩
theorem OwnH.kept {w w' : World} {base : Nat} {v : Value} {l : List Hd} (h : OwnH w base v l) (hb : Below w.heap.size w w') : OwnH w' base v l := by
  refine ⟨h.1, ?_⟩
  rcases h.2 with ⟨h1, h2⟩ | ⟨g, cap, cur, h1, h2, h3, h4⟩
  · exact .inl ⟨h1, h2⟩
  · exact .inr ⟨g, cap, cur, h1, h2, Bl.old hb (block_lt h3) h3, h4⟩
/-- The types of a law's own handles. -/
def TH (t : TypeId) : Bool := t == 34
theorem TP_TH (t : TypeId) (h : TP t = true) : TH t = false := by
  unfold TP at h
  simp at h
  rcases h with (rfl | rfl) | rfl <;> rfl
theorem OwnH.row {w : World} {base : Nat} {v : Value} {l : List Hd} (h : OwnH w base v l) : ∀ k, v.ownBlock = some k → IsT TH w k ∧ base ≤ k := by
  intro k hk
  rcases h.2 with ⟨h1, h2⟩ | ⟨g, cap, cur, h1, h2, h3, h4⟩
  · rw [h1] at hk; cases hk
  · rw [h1] at hk
    injection hk with hk
    subst hk
    exact ⟨⟨_, _, _, h3, rfl⟩, h2⟩
theorem infoHd : (Try.prog.info? 34).map (fun i => (i.zero, i.size, i.bytes)) = some (some (.agg #[.int .i64 0, .int .i64 0, .int .i64 0]), 3, 24) := by kernel_rfl
/-- One handle more. -/
theorem wpList_append_hd (w : World) {ops : Array Oper} {rest : List Oper} {o : Oper} {a : Act} {Q : Exit → Act → World → Prop} (hg : o.guard = none) (s x : Operand)
    (hop : o.op = Op.call { callee := Callee.builtin Builtin.append, args := #[s, x], argTypes := #[32, 32] }) (base : Nat) (v : Value) (l : List Hd) (h : Hd) (b c : Nat) (hs : a.eval s = v) (hx : a.eval x = .slice (some ⟨b, 0, none⟩) 1 c)
    (hown : OwnH w base v l) (hb : w.heap[b]? = some (.cells (hdC h).toArray 34 (0, 0))) (hl : l.length ≤ 1048576) (hbase : base ≤ w.heap.size)
    (hK : ∀ v' w', OwnH w' base v' (l ++ [h]) → w.grownBy w' v.ownBlock → wpList Try.prog ops Q rest (a.put o.dst v') w') : wpList Try.prog ops Q (o :: rest) a w := by
  obtain ⟨i0, hi, hz0, hz1, hz2⟩ := info_partsB infoHd
  refine wpList_append_own (P := Try.prog) w hg s x 32 hop base 34 i0 _ 3 24 Try.underlying32 hi hz0 hz1 hz2 rfl (by decide) v l.length (flatH l) hs hown ⟨b, 0, none⟩ 1 c (hdC h) hx rfl (fun j u hu => ?_) (fun u hu => ?_) (by unfold maxLen; omega) (by omega) hbase (fun v' w' h1 h2 _ => hK v' w' ?_ h2)
  · rw [Addr.add_lit, Nat.zero_add, Lib.cell_of_heap hb]
    simpa using hu
  · unfold hdC at hu
    simp at hu
    rcases hu with rfl | rfl | rfl <;> rfl
  · unfold OwnH
    rw [List.length_append, flatH_snoc]
    exact h1
/-- The arena and the law's handles. -/
structure Lw (w : World) (p : Nat) (n : Nat → Nat) (A : Ar) (G : Nat) (v : Value) (l : List Hd) (W : World) : Prop where
  rel : PRel W w.heap.size p n A G
  own : OwnH W w.heap.size v l
  bel : Below w.heap.size w W
theorem Lw.next {w : World} {p : Nat} {n : Nat → Nat} {A : Ar} {G : Nat} {v : Value} {l : List Hd} {W V : World} (h : Lw w p n A G v l W) (hb : Below W.heap.size W V) : Lw w p n A G v l V := ⟨h.rel.same hb, h.own.kept hb, Bl.next h.bel hb⟩
theorem Lw.call {w : World} {p : Nat} {n : Nat → Nat} {A A' : Ar} {G G' : Nat} {v : Value} {l : List Hd} {W V : World} (h : Lw w p n A G v l W) (hr : PRel V w.heap.size p n A' G') (ht : Tn TP w.heap.size W V) : Lw w p n A' G' v l V :=
  ⟨hr, h.own.tn ht rfl, h.bel.trans (ht.below h.bel.size)⟩
theorem Lw.app {w : World} {p : Nat} {n : Nat → Nat} {A : Ar} {G : Nat} {v v' : Value} {l l' : List Hd} {W V : World} (h : Lw w p n A G v l W) (ho : OwnH V w.heap.size v' l') (hg : W.grownBy V v.ownBlock) : Lw w p n A G v' l' V := by
  have ht : Tn TH w.heap.size W V := Tn.grown hg h.own.row
  exact ⟨h.rel.tn ht TP_TH, ho, h.bel.trans (ht.below h.bel.size)⟩
/-- A box of one handle. -/
def Bx (b : Nat) (h : Hd) (W : World) : Prop := W.heap[b]? = some (.cells #[.int .i64 h.1, .int .i64 h.2.1, .int .i64 h.2.2] 34 (0, 0))
theorem Bx.next {b : Nat} {h : Hd} {W V : World} (hx : Bx b h W) (hb : Below W.heap.size W V) : Bx b h V := Bl.old hb (block_lt hx) hx
theorem Bx.call {b base : Nat} {h : Hd} {W V : World} (hx : Bx b h W) (ht : Tn TP base W V) : Bx b h V := ht.other hx rfl
theorem Bx.app {b : Nat} {h : Hd} {W V : World} {v : Value} (hx : Bx b h W) (hg : W.grownBy V v.ownBlock) (hn : v.ownBlock ≠ some b) : Bx b h V := (hg.block b (block_lt hx) (Ne.symm hn)).trans hx
theorem Bx.cells {b : Nat} {h : Hd} {W : World} (hx : Bx b h W) : W.cell? ⟨b, 0, none⟩ = some (.int .i64 h.1) ∧ W.cell? ⟨b, 1, none⟩ = some (.int .i64 h.2.1) ∧ W.cell? ⟨b, 2, none⟩ = some (.int .i64 h.2.2) := three hx
theorem Lw.apart {w : World} {p : Nat} {n : Nat → Nat} {A : Ar} {G : Nat} {v : Value} {l : List Hd} {W : World} (h : Lw w p n A G v l W) {b : Nat} (hb : W.heap.size ≤ b) : v.ownBlock ≠ some b := fun e => by
  have := (World.ownsRow.lt h.own b e).2
  omega
end Go.Proofs.Ytheljldoboiekaa.Sl
