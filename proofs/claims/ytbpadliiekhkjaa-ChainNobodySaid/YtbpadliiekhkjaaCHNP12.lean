/-
  Texts that the laws' proofs stand on, 3 of them in one file; each one's head says what it proves and under which condition.
-/
import Derived.Test.YtbpadliiekhkjaaCHNP8
import Derived.Test.YtbpadliiekhkjaaCHNP11
import Derived.Test.YtbpadliiekhkjaaCHNP10
import Derived.Test.YtbpadliiekhkjaaCHNP1
import Derived.Test.YtbpadliiekhkjaaCHNP4
import Derived.Deep.RegionWith
import Derived.Deep.RegionHeld3
/-
  The program's Live beside the plain arena. Condition: they are related ahead.
-/
namespace Go.Proofs.Ytbpadliiekhkjaa.Sl
open Go.RowKit Go.Proofs.Ytbpadliiekhkjaa.Fd
set_option maxRecDepth 100000
set_option linter.unusedVariables false
set_option linter.unusedSimpArgs false

theorem heldP_step (l : List Blk) (k : Nat) (h : k < l.length) : (l.take (k + 1)).countP heldP = (l.take k).countP heldP + if l[k].held = 0 then 0 else 1 := by
  rw [List.take_succ_eq_append_getElem h, List.countP_append, List.countP_cons, List.countP_nil, Nat.zero_add]
  congr 1
  unfold heldP
  by_cases h0 : l[k].held = 0
  · simp [h0]
  · simp [h0]
theorem heldP_le (l : List Blk) (k : Nat) : (l.take k).countP heldP ≤ l.length := by
  have h1 := List.countP_le_length (p := heldP) (l := l.take k)
  rw [List.length_take] at h1
  omega
set_option maxHeartbeats 4000000 in
theorem plive_any {base p : Nat} {n : Nat → Nat} {A : Ar} {G : Nat} (c : Int) (w : World) (h : PRel w base p n A G) :
    Calls Try.prog 23 #[.pointer (some ⟨p, 0, none⟩), .int .i64 c] w fun e w' => e = .returned (.int .i64 (liveA A c)) ∧ Below w.heap.size w w' := by
  obtain ⟨gs, Q, M, hP, hG⟩ := h.it
  have HM := Lib.hid (made_yes p w (show w.cell? ⟨p, 0, none⟩ = some (.int .i64 64) from hP.size (c := 0) (by decide)))
  have HI := Lib.hid (show ∀ W : World, Calls Try.prog 44 #[.int .i64 c] W fun e w' => e = .returned (.bool (inB c)) ∧ W = w' from fun W => isClass_any c W)
  by_cases hc : 0 ≤ c ∧ c ≤ 3
  · have hib : inB c = true := by unfold inB; rw [decide_eq_true hc]
    rw [hib] at HI
    obtain ⟨c, rfl⟩ : ∃ cn : Nat, c = cn := ⟨c.toNat, by omega⟩
    have c4 : c < 4 := by omega
    have q4 : (c : Int) < 4 := by omega
    have hbl := hP.blocks c4
    replace hbl : w.cell? ⟨p, c * 2 + 1, none⟩ = some (.slice (some ⟨gs c, 0, none⟩) (n c) (n c)) := hbl
    have hlen := hP.len c c4
    have hfew := h.few c c4
    have HL := Lib.hid (show liveA A (c : Int) = (((A c).countP heldP : Nat) : Int) from by unfold liveA; rw [if_pos (by omega)]; rfl)
    have HC := Lib.hid (show ∀ (k : Nat) (b : Blk), (A c)[k]? = some b → ∀ t, t < 5 → w.cell? ⟨gs c, k * 5 + t, none⟩ = (cellsP c k b (Q c k))[t]? from fun k b hb t ht => (hP.cell c4 hb ht).1)
    have hgl := hP.ltG c4
    clear hP hG h hib
    generalize A c = l at *
    generalize gs c = g at *
    generalize hN : n c = N at *
    subst hlen
    generalize Q c = qf at *
    go_enter Try.func23, Try.ntmps23
    go_wp2_with fail
    refine HM.out.mono ?_
    rintro e w1 ⟨rfl, rfl⟩
    go_wp2_with fail
    refine (HI.out _).mono ?_
    rintro e w1 ⟨rfl, rfl⟩
    go_wp2_with fail
    go_loopw [5, 24] (fun m v wr => ∃ k : Nat, k ≤ l.length ∧ v = .int .i64 (k : Int) ∧ m = .int .i64 (((l.take k).countP heldP : Nat) : Int) ∧ Below w.heap.size w wr) (fun _ v _ => l.length - (intOf v).toNat)
    case atStart => exact ⟨0, Nat.zero_le _, rfl, rfl, Below.refl _ _⟩
    case round =>
      obtain ⟨k, hk, rfl, rfl, hB⟩ := hrel
      have hle := heldP_le l k
      by_cases hlt : k < l.length
      · obtain ⟨b, hb⟩ : ∃ b, l[k] = b := ⟨_, rfl⟩
        have hb2 : l[k]? = some b := by rw [List.getElem?_eq_getElem hlt, hb]
        have hd := fun t ht => (hB.cell (p := ⟨g, k * 5 + t, none⟩) hgl).trans (HC.out k b hb2 t ht)
        have d0 := hd 0 (by decide)
        have d1 := hd 1 (by decide)
        have d2 := hd 2 (by decide)
        have d3 := hd 3 (by decide)
        have d4 := hd 4 (by decide)
        replace d0 : wr.cell? ⟨g, k * 5, none⟩ = some (.int .i64 (ownI c b.gen)) := d0
        replace d1 : wr.cell? ⟨g, k * 5 + 1, none⟩ = some (.int .i64 (ownI k b.gen)) := d1
        replace d2 : wr.cell? ⟨g, k * 5 + 2, none⟩ = some (.int .i64 (b.gen : Int)) := d2
        replace d3 : wr.cell? ⟨g, k * 5 + 3, none⟩ = some (.int .i64 (b.held : Int)) := d3
        replace d4 : wr.cell? ⟨g, k * 5 + 4, none⟩ = some (bytV c (qf k)) := d4
        clear hd
        generalize ownI c b.gen = x0 at d0
        generalize ownI k b.gen = x1 at d1
        obtain ⟨a4, n4, hv4⟩ : ∃ a n, bytV c (qf k) = .slice a n n := by
          cases qf k with
          | none => exact ⟨_, _, rfl⟩
          | some z => exact ⟨_, _, rfl⟩
        rw [hv4] at d4
        have HBn := Lib.hid (hB.alloc hB.size (.cells #[.int .i64 x0, .int .i64 x1, .int .i64 (b.gen : Int), .int .i64 (b.held : Int), .slice a4 n4 n4] 92))
        have HS := Lib.hid (heldP_step l k hlt)
        rw [hb] at HS
        clear hv4 hb hb2
        by_cases h0 : b.held = 0
        · have HN := Lib.hid (show (l.take (k + 1)).countP heldP = (l.take k).countP heldP from by rw [HS.out, if_pos h0]; rfl)
          have t0 : ¬ (0 : Int) < (b.held : Int) := by omega
          clear h0 HS
          generalize (l.take k).countP heldP = N at *
          go_wp2_with fail
          go_roundw
          case rel => exact ⟨k + 1, by omega, by go_num, by rw [HN.out], HBn.out⟩
          case measure => simp [intOf]; omega
        · have HN := Lib.hid (show (l.take (k + 1)).countP heldP = (l.take k).countP heldP + 1 from by rw [HS.out, if_neg h0])
          have t0 : (0 : Int) < (b.held : Int) := by omega
          clear h0 HS
          generalize (l.take k).countP heldP = N at *
          go_wp2_with fail
          go_roundw
          case rel => exact ⟨k + 1, by omega, by go_num, by rw [HN.out]; go_num, HBn.out⟩
          case measure => simp [intOf]; omega
      · have HP := Lib.hid (show liveA A (c : Int) = (((l.take k).countP heldP : Nat) : Int) from by rw [HL.out, List.take_of_length_le (by omega)])
        go_wp2_with fail
        go_ret
        exact ⟨by rw [HP.out]; rfl, hB⟩
  · have hib : inB c = false := by unfold inB; rw [decide_eq_false hc]
    rw [hib] at HI
    have HL := Lib.hid (show liveA A c = 0 from by unfold liveA; rw [if_neg hc])
    clear hP hG h hib
    go_enter Try.func23, Try.ntmps23
    go_wp2_with fail
    refine HM.out.mono ?_
    rintro e w1 ⟨rfl, rfl⟩
    go_wp2_with fail
    refine (HI.out _).mono ?_
    rintro e w1 ⟨rfl, rfl⟩
    go_wp2_with fail
    go_ret
    exact ⟨by rw [HL.out]; rfl, Below.refl _ _⟩
end Go.Proofs.Ytbpadliiekhkjaa.Sl
/-
  The laws' own handles, kept beside the program's arena; masks. No condition.
-/
namespace Go.Proofs.Ytbpadliiekhkjaa.Sl
open Go.RowKit Go.Proofs.Ytbpadliiekhkjaa.Fd
set_option maxRecDepth 100000
set_option linter.unusedVariables false
set_option linter.unusedSimpArgs false

theorem mask (a : Int) (m : Nat) (hm : m < 9223372036854775808) : 0 ≤ bits .and .i64 a (m : Int) ∧ bits .and .i64 a (m : Int) ≤ (m : Int) := by
  have h1 : (BitVec.ofInt 64 a &&& BitVec.ofInt 64 (m : Int)).toNat ≤ m := by
    rw [BitVec.toNat_and, BitVec.ofInt_natCast, BitVec.toNat_ofNat]
    exact Nat.le_trans Nat.and_le_right (Nat.mod_le _ _)
  have h2 : bits .and .i64 a (m : Int) = IntKind.i64.wrap ((BitVec.ofInt 64 a &&& BitVec.ofInt 64 (m : Int)).toNat : Int) := rfl
  rw [h2, IntKind.wrap_i64]
  omega
theorem mask_nat (a : Int) (m : Nat) (hm : m < 9223372036854775808) : ∃ r : Nat, bits .and .i64 a (m : Int) = (r : Int) ∧ r ≤ m := by
  obtain ⟨h0, h1⟩ := mask a m hm
  exact ⟨(bits .and .i64 a (m : Int)).toNat, by omega, by omega⟩
theorem PRel.low {w : World} {base base' p : Nat} {n : Nat → Nat} {A : Ar} {G : Nat} (h : PRel w base p n A G) (hb : base' ≤ base) : PRel w base' p n A G := by
  obtain ⟨gs, Q, M, h1, h2⟩ := h.it
  exact ⟨⟨gs, Q, M, ⟨h1.arena, h1.row, h1.len, h1.mem, Nat.le_trans hb h1.apP, fun c hc => ⟨Nat.le_trans hb (h1.apG c hc).1, (h1.apG c hc).2⟩, h1.apGG, fun c i q hq => by
    obtain ⟨y1, y2, y3⟩ := h1.apQ c i q hq
    exact ⟨y1, Nat.le_trans hb y2, y3⟩, h1.apQQ⟩, h2⟩, h.few, h.small⟩
/-- Handles as cells. -/
def hdC (h : Hd) : List Value := [.int .i64 h.1, .int .i64 h.2.1, .int .i64 h.2.2]
def flatH (l : List Hd) : List Value := l.flatMap hdC
theorem flatH_length (l : List Hd) : (flatH l).length = l.length * 3 := by
  induction l with
  | nil => rfl
  | cons x r ih => show (hdC x ++ flatH r).length = _; rw [List.length_append, ih, List.length_cons]; show 3 + _ = _; omega
theorem flatH_snoc (l : List Hd) (h : Hd) : flatH (l ++ [h]) = flatH l ++ hdC h := by simp [flatH]
theorem flatH_at (L : List Hd) : ∀ (j : Nat) (h : j < L.length) (t : Nat), t < 3 → (flatH L)[j * 3 + t]? = (hdC L[j])[t]? := by
  induction L with
  | nil => intro j h; simp at h
  | cons x r ih =>
    intro j h t ht
    show (hdC x ++ flatH r)[_]? = _
    cases j with
    | zero => rw [Nat.zero_mul, Nat.zero_add, List.getElem?_append_left (by show t < 3; exact ht)]; rfl
    | succ j =>
      rw [List.getElem?_append_right (by show 3 ≤ _; omega), List.getElem_cons_succ, ← ih j (by simpa using h) t ht]
      congr 1
      show _ - 3 = _
      omega
def OwnH (w : World) (base : Nat) (v : Value) (l : List Hd) : Prop := w.ownsRow base 78 3 v l.length (flatH l)
theorem OwnH.nil (w : World) (base : Nat) : OwnH w base (.slice none 0 0) [] := World.ownsRow_nil _ _ _ _
theorem OwnH.form {w : World} {base : Nat} {v : Value} {l : List Hd} (h : OwnH w base v l) : ∃ a cap, v = .slice a l.length cap := by
  rcases h.2 with ⟨h1, h2⟩ | ⟨g, cap, cur, h1, _⟩
  · exact ⟨none, 0, by rw [h1, h2]⟩
  · exact ⟨_, _, h1⟩
theorem OwnH.entry {w : World} {base : Nat} {v : Value} {l : List Hd} (h : OwnH w base v l) {k : Nat} (hk : k < l.length) : ∃ g cap, v = .slice (some ⟨g, 0, none⟩) l.length cap ∧ g < w.heap.size ∧ base ≤ g ∧
    w.cell? ⟨g, k * 3, none⟩ = some (.int .i64 l[k].1) ∧ w.cell? ⟨g, k * 3 + 1, none⟩ = some (.int .i64 l[k].2.1) ∧ w.cell? ⟨g, k * 3 + 2, none⟩ = some (.int .i64 l[k].2.2) ∧ ∀ j, w.frozen? ⟨g, j, none⟩ = false := by
  have hr : w.ownsRow base 78 3 v l.length (flatH l) := h
  rcases hr.2 with ⟨h1, h2⟩ | ⟨g, cap, cur, h1, h2, h3, h4, h5, h6, h7⟩
  · omega
  · subst h1
    refine ⟨g, cap, rfl, block_lt h3, h2, ?_, ?_, ?_, free h3⟩
    · rw [hr.cellAt (k * 3) (by omega)]; exact flatH_at l k hk 0 (by decide)
    · rw [hr.cellAt (k * 3 + 1) (by omega)]; exact flatH_at l k hk 1 (by decide)
    · rw [hr.cellAt (k * 3 + 2) (by omega)]; exact flatH_at l k hk 2 (by decide)
theorem OwnH.tn {T : TypeId → Bool} {b0 : Nat} {w w' : World} {base : Nat} {v : Value} {l : List Hd} (h : OwnH w base v l) (ht : Tn T b0 w w') (hT : T 78 = false) : OwnH w' base v l := by
  refine ⟨h.1, ?_⟩
  rcases h.2 with ⟨h1, h2⟩ | ⟨g, cap, cur, h1, h2, h3, h4⟩
  · exact .inl ⟨h1, h2⟩
  · exact .inr ⟨g, cap, cur, h1, h2, ht.other h3 hT, h4⟩
theorem OwnH.kept {w w' : World} {base : Nat} {v : Value} {l : List Hd} (h : OwnH w base v l) (hb : Below w.heap.size w w') : OwnH w' base v l := by
  refine ⟨h.1, ?_⟩
  rcases h.2 with ⟨h1, h2⟩ | ⟨g, cap, cur, h1, h2, h3, h4⟩
  · exact .inl ⟨h1, h2⟩
  · exact .inr ⟨g, cap, cur, h1, h2, Bl.old hb (block_lt h3) h3, h4⟩
/-- The types of a law's own handles. -/
def TH (t : TypeId) : Bool := t == 78
theorem TP_TH (t : TypeId) (h : TP t = true) : TH t = false := by
  unfold TP at h
  simp at h
  rcases h with (rfl | rfl) | rfl <;> rfl
theorem OwnH.row {w : World} {base : Nat} {v : Value} {l : List Hd} (h : OwnH w base v l) : ∀ k, v.ownBlock = some k → IsT TH w k ∧ base ≤ k := by
  intro k hk
  rcases h.2 with ⟨h1, h2⟩ | ⟨g, cap, cur, h1, h2, h3, h4⟩
  · rw [h1] at hk; cases hk
  · rw [h1] at hk
    injection hk with hk
    subst hk
    exact ⟨⟨_, _, _, h3, rfl⟩, h2⟩
theorem infoHd : (Try.prog.info? 78).map (fun i => (i.zero, i.size, i.bytes)) = some (some (.agg #[.int .i64 0, .int .i64 0, .int .i64 0]), 3, 24) := by kernel_rfl
/-- One handle more. -/
theorem wpList_append_hd (w : World) {ops : Array Oper} {rest : List Oper} {o : Oper} {a : Act} {Q : Exit → Act → World → Prop} (hg : o.guard = none) (s x : Operand)
    (hop : o.op = Op.call { callee := Callee.builtin Builtin.append, args := #[s, x], argTypes := #[58, 58] }) (base : Nat) (v : Value) (l : List Hd) (h : Hd) (b c : Nat) (hs : a.eval s = v) (hx : a.eval x = .slice (some ⟨b, 0, none⟩) 1 c)
    (hown : OwnH w base v l) (hb : w.heap[b]? = some (.cells (hdC h).toArray 78 (0, 0))) (hl : l.length ≤ 1048576) (hbase : base ≤ w.heap.size)
    (hK : ∀ v' w', OwnH w' base v' (l ++ [h]) → w.grownBy w' v.ownBlock → wpList Try.prog ops Q rest (a.put o.dst v') w') : wpList Try.prog ops Q (o :: rest) a w := by
  obtain ⟨i0, hi, hz0, hz1, hz2⟩ := info_partsB infoHd
  refine wpList_append_own (P := Try.prog) w hg s x 58 hop base 78 i0 _ 3 24 Try.underlying58 hi hz0 hz1 hz2 rfl (by decide) v l.length (flatH l) hs hown ⟨b, 0, none⟩ 1 c (hdC h) hx rfl (fun j u hu => ?_) (fun u hu => ?_) (by unfold maxLen; omega) (by omega) hbase (fun v' w' h1 h2 _ => hK v' w' ?_ h2)
  · rw [Addr.add_lit, Nat.zero_add, Lib.cell_of_heap hb]
    simpa using hu
  · unfold hdC at hu
    simp at hu
    rcases hu with rfl | rfl | rfl <;> rfl
  · unfold OwnH
    rw [List.length_append, flatH_snoc]
    exact h1
/-- The arena and the law's handles. -/
structure Lw (w : World) (p : Nat) (n : Nat → Nat) (A : Ar) (G : Nat) (v : Value) (l : List Hd) (W : World) : Prop where
  rel : PRel W w.heap.size p n A G
  own : OwnH W w.heap.size v l
  bel : Below w.heap.size w W
theorem Lw.next {w : World} {p : Nat} {n : Nat → Nat} {A : Ar} {G : Nat} {v : Value} {l : List Hd} {W V : World} (h : Lw w p n A G v l W) (hb : Below W.heap.size W V) : Lw w p n A G v l V := ⟨h.rel.same hb, h.own.kept hb, Bl.next h.bel hb⟩
theorem Lw.call {w : World} {p : Nat} {n : Nat → Nat} {A A' : Ar} {G G' : Nat} {v : Value} {l : List Hd} {W V : World} (h : Lw w p n A G v l W) (hr : PRel V w.heap.size p n A' G') (ht : Tn TP w.heap.size W V) : Lw w p n A' G' v l V :=
  ⟨hr, h.own.tn ht rfl, h.bel.trans (ht.below h.bel.size)⟩
theorem Lw.app {w : World} {p : Nat} {n : Nat → Nat} {A : Ar} {G : Nat} {v v' : Value} {l l' : List Hd} {W V : World} (h : Lw w p n A G v l W) (ho : OwnH V w.heap.size v' l') (hg : W.grownBy V v.ownBlock) : Lw w p n A G v' l' V := by
  have ht : Tn TH w.heap.size W V := Tn.grown hg h.own.row
  exact ⟨h.rel.tn ht TP_TH, ho, h.bel.trans (ht.below h.bel.size)⟩
/-- A box of one handle. -/
def Bx (b : Nat) (h : Hd) (W : World) : Prop := W.heap[b]? = some (.cells #[.int .i64 h.1, .int .i64 h.2.1, .int .i64 h.2.2] 78 (0, 0))
theorem Bx.next {b : Nat} {h : Hd} {W V : World} (hx : Bx b h W) (hb : Below W.heap.size W V) : Bx b h V := Bl.old hb (block_lt hx) hx
theorem Bx.call {b base : Nat} {h : Hd} {W V : World} (hx : Bx b h W) (ht : Tn TP base W V) : Bx b h V := ht.other hx rfl
theorem Bx.app {b : Nat} {h : Hd} {W V : World} {v : Value} (hx : Bx b h W) (hg : W.grownBy V v.ownBlock) (hn : v.ownBlock ≠ some b) : Bx b h V := (hg.block b (block_lt hx) (Ne.symm hn)).trans hx
theorem Bx.cells {b : Nat} {h : Hd} {W : World} (hx : Bx b h W) : W.cell? ⟨b, 0, none⟩ = some (.int .i64 h.1) ∧ W.cell? ⟨b, 1, none⟩ = some (.int .i64 h.2.1) ∧ W.cell? ⟨b, 2, none⟩ = some (.int .i64 h.2.2) := three hx
theorem Lw.apart {w : World} {p : Nat} {n : Nat → Nat} {A : Ar} {G : Nat} {v : Value} {l : List Hd} {W : World} (h : Lw w p n A G v l W) {b : Nat} (hb : W.heap.size ≤ b) : v.ownBlock ≠ some b := fun e => by
  have := (World.ownsRow.lt h.own b e).2
  omega
end Go.Proofs.Ytbpadliiekhkjaa.Sl
/-
  The program's chain as the model has it; usable, Len, Charge, drop. Condition: the arena and the plain one are related ahead.
-/
namespace Go.Proofs.Ytbpadliiekhkjaa.Sl
open Go.RowKit Go.Proofs.Ytbpadliiekhkjaa.Fd
set_option linter.unusedVariables false
theorem OwnH.kept2 {w w' : World} {base : Nat} {v : Value} {l : List Hd} (h : OwnH w base v l) (hs : ∀ k, k < w.heap.size → v.ownBlock = some k → w'.heap[k]? = w.heap[k]?) : OwnH w' base v l := by
  refine ⟨h.1, ?_⟩
  rcases h.2 with ⟨h1, h2⟩ | ⟨g, cap, cur, h1, h2, h3, h4⟩
  · exact .inl ⟨h1, h2⟩
  · exact .inr ⟨g, cap, cur, h1, h2, (hs g (block_lt h3) (by rw [h1]; rfl)).trans h3, h4⟩
theorem OwnH.so {T : TypeId → Bool} {O : Nat → Prop} {w w' : World} {base : Nat} {v : Value} {l : List Hd} (h : OwnH w base v l) (ht : So.Tn T O w w') (hT : T 78 = false) : OwnH w' base v l := by
  refine ⟨h.1, ?_⟩
  rcases h.2 with ⟨h1, h2⟩ | ⟨g, cap, cur, h1, h2, h3, h4⟩
  · exact .inl ⟨h1, h2⟩
  · exact .inr ⟨g, cap, cur, h1, h2, ht.other h3 hT, h4⟩
end Go.Proofs.Ytbpadliiekhkjaa.Sl
namespace Go.Proofs.Ytbpadliiekhkjaa.Ch
open Go.RowKit Go.Proofs.Ytbpadliiekhkjaa.Fd Go.Proofs.Ytbpadliiekhkjaa.Sl
set_option maxRecDepth 100000
set_option linter.unusedVariables false
set_option linter.unusedSimpArgs false

def objC (ap : Nat) (hv : Value) (c : Chn) : Array Value := if c.freed then #[.pointer (some ⟨ap, 0, none⟩), .slice none 0 0, .int .i64 0, .int .i64 0, .bool false, .bool true] else #[.pointer (some ⟨ap, 0, none⟩), hv, .int .i64 (c.bytes.length : Int), .int .i64 (sizesOf c.hs : Int), .bool c.shared, .bool false]
structure PC (w : World) (cp ap : Nat) (hv : Value) (c : Chn) : Prop where
  obj : w.heap[cp]? = some (.cells (objC ap hv c) 60 (0, 0))
  own : OwnH w 0 hv c.hs
theorem PC.lt {w : World} {cp ap : Nat} {hv : Value} {c : Chn} (h : PC w cp ap hv c) : cp < w.heap.size := block_lt h.obj
theorem PC.arena {w : World} {cp ap : Nat} {hv : Value} {c : Chn} (h : PC w cp ap hv c) : w.cell? ⟨cp, 0, none⟩ = some (.pointer (some ⟨ap, 0, none⟩)) ∧ w.cell? ⟨cp, 5, none⟩ = some (.bool c.freed) := by
  rw [Lib.cell_of_heap h.obj, Lib.cell_of_heap h.obj]
  unfold objC
  cases c.freed <;> exact ⟨rfl, rfl⟩
theorem PC.cells {w : World} {cp ap : Nat} {hv : Value} {c : Chn} (h : PC w cp ap hv c) (hf : c.freed = false) : w.cell? ⟨cp, 0, none⟩ = some (.pointer (some ⟨ap, 0, none⟩)) ∧ w.cell? ⟨cp, 1, none⟩ = some hv ∧ w.cell? ⟨cp, 2, none⟩ = some (.int .i64 (c.bytes.length : Int)) ∧
    w.cell? ⟨cp, 3, none⟩ = some (.int .i64 (sizesOf c.hs : Int)) ∧ w.cell? ⟨cp, 4, none⟩ = some (.bool c.shared) ∧ w.cell? ⟨cp, 5, none⟩ = some (.bool false) := by
  refine ⟨?_, ?_, ?_, ?_, ?_, ?_⟩ <;> (rw [Lib.cell_of_heap h.obj]; unfold objC; rw [hf]; rfl)
/-- What is not this chain's stays: the chain, too. -/
theorem PC.kept {w w' : World} {cp ap : Nat} {hv : Value} {c : Chn} (h : PC w cp ap hv c) (h1 : w'.heap[cp]? = w.heap[cp]?) (hs : ∀ k, k < w.heap.size → hv.ownBlock = some k → w'.heap[k]? = w.heap[k]?) : PC w' cp ap hv c :=
  ⟨h1.trans h.obj, h.own.kept2 hs⟩
theorem PC.same {w w' : World} {cp ap : Nat} {hv : Value} {c : Chn} (h : PC w cp ap hv c) (hb : Below w.heap.size w w') : PC w' cp ap hv c := h.kept (hb.block _ h.lt) (fun k hk _ => hb.block k hk)
theorem PC.so {T : TypeId → Bool} {O : Nat → Prop} {w w' : World} {cp ap : Nat} {hv : Value} {c : Chn} (h : PC w cp ap hv c) (ht : So.Tn T O w w') (h1 : T 78 = false) (h2 : T 60 = false) : PC w' cp ap hv c :=
  ⟨ht.other h.obj h2, h.own.so ht h1⟩
set_option maxHeartbeats 4000000 in
theorem usable_raw (cp : Nat) (a : Addr) (fr : Bool) (w : World) (h0 : w.cell? ⟨cp, 0, none⟩ = some (.pointer (some a))) (h5 : w.cell? ⟨cp, 5, none⟩ = some (.bool fr)) :
    Calls Try.prog 31 #[.pointer (some ⟨cp, 0, none⟩)] w fun e w' => e = .returned (.int .i64 (if fr then 16 else 0)) ∧ w = w' := by
  cases fr with
  | true =>
    go_enter Try.func31, Try.ntmps31
    go_wp2_with fail
    go_ret
    exact ⟨rfl, rfl⟩
  | false =>
    go_enter Try.func31, Try.ntmps31
    go_wp2_with fail
    go_ret
    exact ⟨rfl, rfl⟩
/-- A chain that is nil, or of no arena. -/
def NoC (pv : Value) (w : World) : Prop := pv = .pointer none ∨ ∃ b, pv = .pointer (some ⟨b, 0, none⟩) ∧ w.cell? ⟨b, 0, none⟩ = some (.pointer none) ∧ b < w.heap.size
theorem NoC.next {pv : Value} {w w' : World} (h : NoC pv w) (hb : Below w.heap.size w w') : NoC pv w' := by
  rcases h with h | ⟨b, h1, h2, h3⟩
  · exact .inl h
  · exact .inr ⟨b, h1, (hb.cell (p := ⟨b, 0, none⟩) h3).trans h2, Nat.lt_of_lt_of_le h3 hb.size⟩
set_option maxHeartbeats 4000000 in
theorem no_usable (pv : Value) (w : World) (h : NoC pv w) : Calls Try.prog 31 #[pv] w fun e w' => e = .returned (.int .i64 1) ∧ w = w' := by
  rcases h with rfl | ⟨b, rfl, h2, _⟩
  all_goals
    go_enter Try.func31, Try.ntmps31
    go_wp2_with fail
    go_ret
    exact ⟨rfl, rfl⟩
theorem usable_any {w : World} {cp ap : Nat} {hv : Value} {c : Chn} (h : PC w cp ap hv c) :
    Calls Try.prog 31 #[.pointer (some ⟨cp, 0, none⟩)] w fun e w' => e = .returned (.int .i64 (if c.freed then 16 else 0)) ∧ w = w' := usable_raw cp _ _ w h.arena.1 h.arena.2
set_option maxHeartbeats 4000000 in
theorem clen_any {w : World} {cp ap : Nat} {hv : Value} {c : Chn} (h : PC w cp ap hv c) :
    Calls Try.prog 19 #[.pointer (some ⟨cp, 0, none⟩)] w fun e w' => e = .returned (.int .i64 (lenC c : Int)) ∧ w = w' := by
  have HU := Lib.hid (usable_any h)
  cases hf : c.freed with
  | true =>
    have HV := Lib.hid (show lenC c = 0 from by unfold lenC; rw [hf]; rfl)
    rw [hf] at HU
    clear hf h
    go_enter Try.func19, Try.ntmps19
    go_wp2_with fail
    refine HU.out.mono ?_
    rintro e w1 ⟨rfl, rfl⟩
    go_wp2_with fail
    go_ret
    exact ⟨by rw [HV.out]; rfl, rfl⟩
  | false =>
    have HV := Lib.hid (show lenC c = c.bytes.length from by unfold lenC; rw [hf]; rfl)
    have h2 := (h.cells hf).2.2.1
    rw [hf] at HU
    clear hf h
    go_enter Try.func19, Try.ntmps19
    go_wp2_with fail
    refine HU.out.mono ?_
    rintro e w1 ⟨rfl, rfl⟩
    go_wp2_with fail
    go_ret
    exact ⟨by rw [HV.out]; rfl, rfl⟩
set_option maxHeartbeats 4000000 in
theorem ccharge_any {w : World} {cp ap : Nat} {hv : Value} {c : Chn} (h : PC w cp ap hv c) :
    Calls Try.prog 20 #[.pointer (some ⟨cp, 0, none⟩)] w fun e w' => e = .returned (.int .i64 (chargeC c : Int)) ∧ w = w' := by
  have HU := Lib.hid (usable_any h)
  cases hf : c.freed with
  | true =>
    have HV := Lib.hid (show chargeC c = 0 from by unfold chargeC; rw [hf]; rfl)
    rw [hf] at HU
    clear hf h
    go_enter Try.func20, Try.ntmps20
    go_wp2_with fail
    refine HU.out.mono ?_
    rintro e w1 ⟨rfl, rfl⟩
    go_wp2_with fail
    go_ret
    exact ⟨by rw [HV.out]; rfl, rfl⟩
  | false =>
    have HV := Lib.hid (show chargeC c = sizesOf c.hs from by unfold chargeC; rw [hf]; rfl)
    have h3 := (h.cells hf).2.2.2.1
    rw [hf] at HU
    clear hf h
    go_enter Try.func20, Try.ntmps20
    go_wp2_with fail
    refine HU.out.mono ?_
    rintro e w1 ⟨rfl, rfl⟩
    go_wp2_with fail
    go_ret
    exact ⟨by rw [HV.out]; rfl, rfl⟩
theorem dropAll_step (A : Ar) (l : List Hd) (k : Nat) (h : k < l.length) : dropAll A (l.take (k + 1)) = (dropA (dropAll A (l.take k)) l[k]).2 := by
  rw [List.take_succ_eq_append_getElem h]
  unfold dropAll
  rw [List.foldl_append]; rfl
theorem holdAll_step (A : Ar) (l : List Hd) (k : Nat) (h : k < l.length) : holdAll A (l.take (k + 1)) = (holdA (holdAll A (l.take k)) l[k]).2 := by
  rw [List.take_succ_eq_append_getElem h]
  unfold holdAll
  rw [List.foldl_append]; rfl
/-- The object of a chain, its arena: what calls on the arena leave alone. -/
def Ob (w : World) (cp ap : Nat) : Prop := ∃ cs, w.heap[cp]? = some (.cells cs 60 (0, 0)) ∧ cs[0]? = some (.pointer (some ⟨ap, 0, none⟩))
theorem Ob.cell {w : World} {cp ap : Nat} (h : Ob w cp ap) : w.cell? ⟨cp, 0, none⟩ = some (.pointer (some ⟨ap, 0, none⟩)) := by
  obtain ⟨cs, h1, h2⟩ := h
  rw [Lib.cell_of_heap h1]; exact h2
theorem Ob.so {T : TypeId → Bool} {O : Nat → Prop} {w w' : World} {cp ap : Nat} (h : Ob w cp ap) (ht : So.Tn T O w w') (hT : T 60 = false) : Ob w' cp ap := by
  obtain ⟨cs, h1, h2⟩ := h
  exact ⟨cs, ht.other h1 hT, h2⟩
theorem Ob.next {w w' : World} {cp ap : Nat} (h : Ob w cp ap) (hb : Below w.heap.size w w') : Ob w' cp ap := by
  obtain ⟨cs, h1, h2⟩ := h
  exact ⟨cs, Bl.old hb (block_lt h1) h1, h2⟩
theorem Ob.lt {w : World} {cp ap : Nat} (h : Ob w cp ap) : cp < w.heap.size := by
  obtain ⟨cs, h1, h2⟩ := h
  exact block_lt h1
theorem PC.ob {w : World} {cp ap : Nat} {hv : Value} {c : Chn} (h : PC w cp ap hv c) : Ob w cp ap := ⟨_, h.obj, by unfold objC; cases c.freed <;> rfl⟩
/-- Blocks of the arena alone have changed. -/
def DropsP (O : Nat → Prop) (ap : Nat) (n : Nat → Nat) (A : Ar) (G : Nat) (w : World) (e : Ending) (w' : World) : Prop := e = .returned (.tuple #[]) ∧ So.PRel w' O ap n A G ∧ So.Tn TP O w w'
set_option maxHeartbeats 8000000 in
theorem drops_any {O : Nat → Prop} {ap : Nat} {n : Nat → Nat} {A : Ar} {G base : Nat} (cp : Nat) (v : Value) (l : List Hd) (w : World) (h : So.PRel w O ap n A G) (ho : Ob w cp ap) (hl : OwnH w base v l) (hll : l.length ≤ 1048576) :
    Calls Try.prog 34 #[.pointer (some ⟨cp, 0, none⟩), v] w (DropsP O ap n (dropAll A l) G w) := by
  obtain ⟨la, lc, hv⟩ := hl.form
  subst hv
  have HO := Lib.hid ho
  have HL := Lib.hid hl
  have HR := Lib.hid h
  obtain ⟨L, hL⟩ : ∃ L, L = l.length := ⟨_, rfl⟩
  have HLn := Lib.hid hL
  rw [← hL] at hll ⊢
  clear h ho hl hL
  go_enter Try.func34, Try.ntmps34
  go_wp2_with fail
  go_loopw [8] (fun j wr => ∃ k : Nat, k ≤ L ∧ j = .int .i64 (k : Int) ∧ So.PRel wr O ap n (dropAll A (l.take k)) G ∧ So.Tn TP O w wr) (fun j _ => L - (intOf j).toNat)
  case atStart => exact ⟨0, Nat.zero_le _, rfl, HR.out, So.Tn.refl _ _ _⟩
  case round =>
    obtain ⟨k, hk, rfl, hr, ht⟩ := hrel
    by_cases hlt : k < L
    · have hk2 : k < l.length := by rw [← HLn.out]; exact hlt
      obtain ⟨g, cap, hv, hg, _, d0, d1, d2, _⟩ := (HL.out.so ht rfl).entry hk2
      injection hv with e1 e2 e3
      subst e1 e3
      have HS := Lib.hid (dropAll_step A l k hk2)
      obtain ⟨⟨qc, qi, qg⟩, hq⟩ : ∃ q, q = l[k] := ⟨_, rfl⟩
      rw [← hq] at d0 d1 d2 HS
      obtain ⟨wb, hwb⟩ : ∃ wb, wb = wr.alloc (.cells #[.int .i64 qc, .int .i64 qi, .int .i64 qg] 78) := ⟨_, rfl⟩
      have hB := (Below.refl wr.heap.size wr).alloc (Nat.le_refl _) (.cells #[.int .i64 qc, .int .i64 qi, .int .i64 qg] 78)
      rw [← hwb] at hB
      have hx : Bx wr.heap.size (qc, qi, qg) wb := by rw [hwb]; exact new_block _ _
      obtain ⟨x0, x1, x2⟩ := hx.cells
      have o0 := ((HO.out.so ht rfl).next hB).cell
      have HW := Lib.hid hwb
      have HD := Lib.hid (So.pdrop_any qc qi qg _ ((hr.same hB).same (Below.drew (Below.refl _ _))))
      have HT := Lib.hid (ht.next hB)
      clear hr ht hB hx hwb hq e2
      go_upto_region 3 with fail
      rw [← HW.out]
      go_region_with (go_at_call 51; refine HD.out.mono ?_; rintro e w2 ⟨rfl, hr2, ht2⟩)
      all_goals
        have HF := Lib.hid (show So.PRel w2 O ap n (dropAll A (l.take (k + 1))) G ∧ So.Tn TP O w w2 from by rw [HS.out]; exact ⟨hr2, (HT.out.drew).trans ht2⟩)
        clear hr2 ht2
        go_wp2_with fail
        go_roundw
        case rel => exact ⟨k + 1, by omega, by go_num, HF.out⟩
        case measure => simp [intOf]; omega
    · have HF := Lib.hid (show So.PRel wr O ap n (dropAll A l) G ∧ So.Tn TP O w wr from by rw [List.take_of_length_le (by rw [← HLn.out]; omega)] at hr; exact ⟨hr, ht⟩)
      clear hr ht
      go_wp2_with fail
      go_end0
      exact ⟨rfl, HF.out⟩
end Go.Proofs.Ytbpadliiekhkjaa.Ch
