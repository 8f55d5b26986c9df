/-
  Texts that the laws' proofs stand on, 3 of them in one file; each one's head says what it proves and under which condition.
-/
import Derived.Test.YtbpadliiekhkjaaCHNP8
/-
  The program's arena as the model has it, its blocks in a set O. No condition.
-/
namespace Go.Proofs.Ytbpadliiekhkjaa.So
open Go.RowKit Go.Proofs.Ytbpadliiekhkjaa.Fd Go.Proofs.Ytbpadliiekhkjaa.Sl
set_option maxRecDepth 100000
set_option linter.unusedVariables false
set_option linter.unusedSimpArgs false

structure PAt (w : World) (O : Nat → Prop) (p : Nat) (n gs : Nat → Nat) (Q : Mp) (M : Nat → Nat → Tk.Bs) (A : Ar) : Prop where
  arena : w.heap[p]? = some (.cells (arenaV gs n) 66 (0, 0))
  row : ∀ c, c < 4 → ∃ cur, w.heap[gs c]? = some (.cells cur 92 (0, 0)) ∧ RowP cur c (Q c) (A c)
  len : ∀ c, c < 4 → (A c).length = n c
  mem : ∀ c i q, Q c i = some q → w.heap[q]? = some (.cells (u8V (M c i)) 5 (0, 0)) ∧ (M c i).length = sizeC c
  apP : O p
  apG : ∀ c, c < 4 → O (gs c) ∧ gs c ≠ p
  apGG : ∀ c d, c < 4 → d < 4 → gs c = gs d → c = d
  apQ : ∀ c i q, Q c i = some q → c < 4 ∧ O q ∧ q ≠ p ∧ ∀ d, d < 4 → q ≠ gs d
  apQQ : ∀ c i d j q, Q c i = some q → Q d j = some q → c = d ∧ i = j
theorem PAt.lt {w : World} {O : Nat → Prop} {p : Nat} {n gs : Nat → Nat} {Q : Mp} {M : Nat → Nat → Tk.Bs} {A : Ar} (h : PAt w O p n gs Q M A) : p < w.heap.size := block_lt h.arena
theorem PAt.ltG {w : World} {O : Nat → Prop} {p : Nat} {n gs : Nat → Nat} {Q : Mp} {M : Nat → Nat → Tk.Bs} {A : Ar} (h : PAt w O p n gs Q M A) {c : Nat} (hc : c < 4) : gs c < w.heap.size := by
  obtain ⟨cur, h1, _⟩ := h.row c hc
  exact block_lt h1
theorem PAt.ltQ {w : World} {O : Nat → Prop} {p : Nat} {n gs : Nat → Nat} {Q : Mp} {M : Nat → Nat → Tk.Bs} {A : Ar} (h : PAt w O p n gs Q M A) {c i q : Nat} (hq : Q c i = some q) : q < w.heap.size := block_lt (h.mem c i q hq).1
theorem PAt.same {w w' : World} {O : Nat → Prop} {p : Nat} {n gs : Nat → Nat} {Q : Mp} {M : Nat → Nat → Tk.Bs} {A : Ar} (h : PAt w O p n gs Q M A) (hb : Below w.heap.size w w') : PAt w' O p n gs Q M A := by
  refine ⟨Bl.old hb h.lt h.arena, fun c hc => ?_, h.len, fun c i q hq => ⟨Bl.old hb (h.ltQ hq) (h.mem c i q hq).1, (h.mem c i q hq).2⟩, h.apP, h.apG, h.apGG, h.apQ, h.apQQ⟩
  obtain ⟨cur, h1, h2⟩ := h.row c hc
  exact ⟨cur, Bl.old hb (block_lt h1) h1, h2⟩
/-- The arena's eight cells. -/
theorem PAt.size {w : World} {O : Nat → Prop} {p : Nat} {n gs : Nat → Nat} {Q : Mp} {M : Nat → Nat → Tk.Bs} {A : Ar} (h : PAt w O p n gs Q M A) {c : Nat} (hc : c < 4) : w.cell? ⟨p, c * 2, none⟩ = some (.int .i64 (sizeC c : Int)) := by
  rw [Lib.cell_of_heap h.arena]
  rcases (by omega : c = 0 ∨ c = 1 ∨ c = 2 ∨ c = 3) with rfl | rfl | rfl | rfl <;> rfl
theorem PAt.blocks {w : World} {O : Nat → Prop} {p : Nat} {n gs : Nat → Nat} {Q : Mp} {M : Nat → Nat → Tk.Bs} {A : Ar} (h : PAt w O p n gs Q M A) {c : Nat} (hc : c < 4) : w.cell? ⟨p, c * 2 + 1, none⟩ = some (rowV gs n c) := by
  rw [Lib.cell_of_heap h.arena]
  rcases (by omega : c = 0 ∨ c = 1 ∨ c = 2 ∨ c = 3) with rfl | rfl | rfl | rfl <;> rfl
/-- The cells of a block. -/
theorem PAt.cell {w : World} {O : Nat → Prop} {p : Nat} {n gs : Nat → Nat} {Q : Mp} {M : Nat → Nat → Tk.Bs} {A : Ar} (h : PAt w O p n gs Q M A) {c i : Nat} {b : Blk} (hc : c < 4) (hb : (A c)[i]? = some b) {t : Nat} (ht : t < 5) :
    w.cell? ⟨gs c, i * 5 + t, none⟩ = (cellsP c i b (Q c i))[t]? ∧ w.frozen? ⟨gs c, i * 5 + t, none⟩ = false := by
  obtain ⟨cur, h1, h2⟩ := h.row c hc
  refine ⟨?_, free h1 _⟩
  rw [Lib.cell_of_heap h1]
  exact h2.is i b hb t ht
/-- A class's row is changed. -/
theorem PAt.put {w w' : World} {O : Nat → Prop} {p : Nat} {n gs : Nat → Nat} {Q : Mp} {M : Nat → Nat → Tk.Bs} {A : Ar} (h : PAt w O p n gs Q M A) {c : Nat} (hc : c < 4) {cur : Array Value} {l : List Blk}
    (h1 : w'.heap[gs c]? = some (.cells cur 92 (0, 0))) (h2 : RowP cur c (Q c) l) (hl : l.length = (A c).length) (hk : ∀ b, b ≠ gs c → w'.heap[b]? = w.heap[b]?) : PAt w' O p n gs Q M (upd A c l) := by
  refine ⟨by rw [hk p (Ne.symm (h.apG c hc).2)]; exact h.arena, fun d hd => ?_, fun d hd => ?_, fun d i q hq => ⟨by rw [hk q ((h.apQ d i q hq).2.2.2 c hc)]; exact (h.mem d i q hq).1, (h.mem d i q hq).2⟩, h.apP, h.apG, h.apGG, h.apQ, h.apQQ⟩
  · by_cases e : d = c
    · subst e; rw [upd_same]; exact ⟨cur, h1, h2⟩
    · rw [upd_other _ _ e]
      obtain ⟨cu, h3, h4⟩ := h.row d hd
      exact ⟨cu, by rw [hk _ (fun q => e (h.apGG _ _ hd hc q))]; exact h3, h4⟩
  · by_cases e : d = c
    · subst e; rw [upd_same, hl]; exact h.len d hd
    · rw [upd_other _ _ e]; exact h.len d hd
/-- One number of a block is stored. -/
theorem PAt.store {w : World} {O : Nat → Prop} {p : Nat} {n gs : Nat → Nat} {Q : Mp} {M : Nat → Nat → Tk.Bs} {A : Ar} (h : PAt w O p n gs Q M A) {c i t : Nat} {b b' : Blk} {u : Value} (hc : c < 4) (hb : (A c)[i]? = some b) (ht : t < 5)
    (hu : cellsP c i b' (Q c i) = (cellsP c i b (Q c i)).set t u) : PAt (w.setCell ⟨gs c, i * 5 + t, none⟩ u) O p n gs Q M (upd A c ((A c).set i b')) := by
  obtain ⟨cur, h1, h2⟩ := h.row c hc
  exact h.put hc (heap_put h1 _ _) (h2.set hb ht hu) (by simp) (fun k hk => set_heap hk)
/-- The generation is told: three numbers. -/
theorem PAt.own {w : World} {O : Nat → Prop} {p : Nat} {n gs : Nat → Nat} {Q : Mp} {M : Nat → Nat → Tk.Bs} {A : Ar} (h : PAt w O p n gs Q M A) {c i : Nat} {b b' : Blk} (hc : c < 4) (hb : (A c)[i]? = some b) (hh : b'.held = b.held) (hg : b'.gen ≠ 0) :
    PAt (((w.setCell ⟨gs c, i * 5, none⟩ (.int .i64 (c : Int))).setCell ⟨gs c, i * 5 + 1, none⟩ (.int .i64 (i : Int))).setCell ⟨gs c, i * 5 + 2, none⟩ (.int .i64 (b'.gen : Int))) O p n gs Q M (upd A c ((A c).set i b')) := by
  obtain ⟨cur, h1, h2⟩ := h.row c hc
  exact h.put hc (heap_put (heap_put (heap_put h1 _ _) _ _) _ _) (h2.own hb hh hg) (by simp) (fun k hk => by rw [set_heap hk, set_heap hk, set_heap hk])
/-- A block's bytes are changed. -/
theorem PAt.bytes {w w' : World} {O : Nat → Prop} {p : Nat} {n gs : Nat → Nat} {Q : Mp} {M : Nat → Nat → Tk.Bs} {A : Ar} (h : PAt w O p n gs Q M A) {c i q : Nat} {m : Tk.Bs} (hq : Q c i = some q)
    (h1 : w'.heap[q]? = some (.cells (u8V m) 5 (0, 0))) (hm : m.length = sizeC c) (hk : ∀ b, b ≠ q → w'.heap[b]? = w.heap[b]?) : PAt w' O p n gs Q (updM M c i m) A := by
  obtain ⟨_, _, q3, q4⟩ := h.apQ c i q hq
  refine ⟨by rw [hk p (Ne.symm q3)]; exact h.arena, fun d hd => ?_, h.len, fun d j r hr => ?_, h.apP, h.apG, h.apGG, h.apQ, h.apQQ⟩
  · obtain ⟨cur, h3, h4⟩ := h.row d hd
    exact ⟨cur, by rw [hk _ (Ne.symm (q4 d hd))]; exact h3, h4⟩
  · by_cases e : d = c ∧ j = i
    · obtain ⟨rfl, rfl⟩ := e
      rw [hq] at hr
      injection hr with hr
      subst hr
      rw [updM_same]; exact ⟨h1, hm⟩
    · rw [updM_other _ _ e, hk r (fun q2 => e (h.apQQ d j c i q (by rw [← q2]; exact hr) hq))]
      exact h.mem d j r hr
/-- A block gets memory. -/
theorem PAt.give {w : World} {O : Nat → Prop} {p : Nat} {n gs : Nat → Nat} {Q : Mp} {M : Nat → Nat → Tk.Bs} {A : Ar} (h : PAt w O p n gs Q M A) {c i q : Nat} {m : Tk.Bs} {b : Blk} (hc : c < 4) (hb : (A c)[i]? = some b) (hq : Q c i = none)
    (h1 : w.heap[q]? = some (.cells (u8V m) 5 (0, 0))) (hm : m.length = sizeC c) (n1 : O q) (n2 : q ≠ p) (n3 : ∀ d, d < 4 → q ≠ gs d) (n4 : ∀ d j, Q d j ≠ some q) :
    PAt (w.setCell ⟨gs c, i * 5 + 4, none⟩ (.slice (some ⟨q, 0, none⟩) (sizeC c) (sizeC c))) O p n gs (updQ Q c i q) (updM M c i m) A := by
  obtain ⟨cur, h2, h3⟩ := h.row c hc
  obtain ⟨hi, hbi⟩ := List.getElem?_eq_some_iff.1 hb
  have hne : ∀ k, k ≠ gs c → (w.setCell ⟨gs c, i * 5 + 4, none⟩ (.slice (some ⟨q, 0, none⟩) (sizeC c) (sizeC c))).heap[k]? = w.heap[k]? := fun k hk => set_heap hk
  refine ⟨by rw [hne p (Ne.symm (h.apG c hc).2)]; exact h.arena, fun d hd => ?_, h.len, fun d j r hr => ?_, h.apP, h.apG, h.apGG, fun d j r hr => ?_, fun d j e k r hr hs => ?_⟩
  · by_cases e : d = c
    · subst e
      refine ⟨_, heap_put h2 _ _, ⟨by rw [Array.size_setIfInBounds]; exact h3.size, fun j x hx s hs => ?_⟩⟩
      rw [Array.getElem?_setIfInBounds]
      by_cases hj : i = j
      · subst hj
        rw [updQ_same]
        have h0 := h3.is i x hx s hs
        rcases (by omega : s = 0 ∨ s = 1 ∨ s = 2 ∨ s = 3 ∨ s = 4) with rfl | rfl | rfl | rfl | rfl
        iterate 4 (rw [if_neg (by omega), h0]; rfl)
        rw [if_pos rfl, if_pos (by rw [h3.size]; omega)]; rfl
      · rw [if_neg (by omega), updQ_other _ _ (fun q => hj q.2.symm)]
        exact h3.is j x hx s hs
    · obtain ⟨cu, h4, h5⟩ := h.row d hd
      refine ⟨cu, by rw [hne _ (fun q => e (h.apGG _ _ hd hc q))]; exact h4, h5.size, fun j x hx s hs => ?_⟩
      rw [updQ_other _ _ (fun q => e q.1)]
      exact h5.is j x hx s hs
  · by_cases e : d = c ∧ j = i
    · obtain ⟨rfl, rfl⟩ := e
      rw [updQ_same] at hr
      injection hr with hr
      subst hr
      rw [updM_same, hne q (n3 d hc)]; exact ⟨h1, hm⟩
    · rw [updQ_other _ _ e] at hr
      rw [updM_other _ _ e, hne r ((h.apQ d j r hr).2.2.2 c hc)]
      exact h.mem d j r hr
  · by_cases e : d = c ∧ j = i
    · obtain ⟨rfl, rfl⟩ := e
      rw [updQ_same] at hr
      injection hr with hr
      subst hr
      exact ⟨hc, n1, n2, n3⟩
    · rw [updQ_other _ _ e] at hr
      exact h.apQ d j r hr
  · by_cases e1 : d = c ∧ j = i
    · obtain ⟨rfl, rfl⟩ := e1
      rw [updQ_same] at hr
      injection hr with hr
      subst hr
      by_cases e2 : e = d ∧ k = j
      · exact ⟨e2.1.symm, e2.2.symm⟩
      · rw [updQ_other _ _ e2] at hs
        exact absurd hs (n4 e k)
    · rw [updQ_other _ _ e1] at hr
      by_cases e2 : e = c ∧ k = i
      · obtain ⟨rfl, rfl⟩ := e2
        rw [updQ_same] at hs
        injection hs with hs
        subst hs
        exact absurd hr (n4 d j)
      · rw [updQ_other _ _ e2] at hs
        exact h.apQQ d j e k r hr hs
theorem PAt.toSl {w : World} {O : Nat → Prop} {p : Nat} {n gs : Nat → Nat} {Q : Mp} {M : Nat → Nat → Tk.Bs} {A : Ar} (h : PAt w O p n gs Q M A) : Sl.PAt w 0 p n gs Q M A :=
  ⟨h.arena, h.row, h.len, h.mem, Nat.zero_le _, fun c hc => ⟨Nat.zero_le _, (h.apG c hc).2⟩, h.apGG, fun c i q hq => ⟨(h.apQ c i q hq).1, Nat.zero_le _, (h.apQ c i q hq).2.2⟩, h.apQQ⟩
end Go.Proofs.Ytbpadliiekhkjaa.So
/-
  The program's arena beside the plain one, its blocks in a set. No condition.
-/
namespace Go.Proofs.Ytbpadliiekhkjaa.So
open Go.RowKit Go.Proofs.Ytbpadliiekhkjaa.Fd Go.Proofs.Ytbpadliiekhkjaa.Sl
set_option maxRecDepth 100000
set_option linter.unusedVariables false
set_option linter.unusedSimpArgs false

theorem PAt.tn {T : TypeId → Bool} {O2 : Nat → Prop} {w w' : World} {O : Nat → Prop} {p : Nat} {n gs : Nat → Nat} {Q : Mp} {M : Nat → Nat → Tk.Bs} {A : Ar} (h : PAt w O p n gs Q M A) (ht : Tn T O2 w w') (hT : ∀ t, TP t = true → T t = false) : PAt w' O p n gs Q M A := by
  refine ⟨ht.other h.arena (hT _ rfl), fun c hc => ?_, h.len, fun c i q hq => ⟨ht.other (h.mem c i q hq).1 (hT _ rfl), (h.mem c i q hq).2⟩, h.apP, h.apG, h.apGG, h.apQ, h.apQQ⟩
  obtain ⟨cur, h1, h2⟩ := h.row c hc
  exact ⟨cur, ht.other h1 (hT _ rfl), h2⟩
theorem PAt.rowIs {w : World} {O : Nat → Prop} {p : Nat} {n gs : Nat → Nat} {Q : Mp} {M : Nat → Nat → Tk.Bs} {A : Ar} (h : PAt w O p n gs Q M A) {c : Nat} (hc : c < 4) : IsT TP w (gs c) ∧ O (gs c) := by
  obtain ⟨cur, h1, h2⟩ := h.row c hc
  exact ⟨⟨_, _, _, h1, rfl⟩, (h.apG c hc).1⟩
theorem PAt.memIs {w : World} {O : Nat → Prop} {p : Nat} {n gs : Nat → Nat} {Q : Mp} {M : Nat → Nat → Tk.Bs} {A : Ar} (h : PAt w O p n gs Q M A) {c i q : Nat} (hq : Q c i = some q) : IsT TP w q ∧ O q :=
  ⟨⟨_, _, _, (h.mem c i q hq).1, rfl⟩, (h.apQ c i q hq).2.1⟩
structure PRel (w : World) (O : Nat → Prop) (p : Nat) (n : Nat → Nat) (A : Ar) (G : Nat) : Prop where
  it : ∃ gs Q M, PAt w O p n gs Q M A ∧ PGood Q M A G
  few : ∀ c, c < 4 → n c ≤ 4096
  small : G ≤ 1099511627776
theorem PRel.same {w w' : World} {O : Nat → Prop} {p : Nat} {n : Nat → Nat} {A : Ar} {G : Nat} (h : PRel w O p n A G) (hb : Below w.heap.size w w') : PRel w' O p n A G := by
  obtain ⟨gs, Q, M, h1, h2⟩ := h.it
  exact ⟨⟨gs, Q, M, h1.same hb, h2⟩, h.few, h.small⟩
theorem PRel.tn {T : TypeId → Bool} {O2 : Nat → Prop} {w w' : World} {O : Nat → Prop} {p : Nat} {n : Nat → Nat} {A : Ar} {G : Nat} (h : PRel w O p n A G) (ht : Tn T O2 w w') (hT : ∀ t, TP t = true → T t = false) : PRel w' O p n A G := by
  obtain ⟨gs, Q, M, h1, h2⟩ := h.it
  exact ⟨⟨gs, Q, M, h1.tn ht hT, h2⟩, h.few, h.small⟩
theorem PRel.lt {w : World} {O : Nat → Prop} {p : Nat} {n : Nat → Nat} {A : Ar} {G : Nat} (h : PRel w O p n A G) : O p ∧ p < w.heap.size := by
  obtain ⟨gs, Q, M, h1, h2⟩ := h.it
  exact ⟨h1.apP, h1.lt⟩
theorem PRel.more {w : World} {O : Nat → Prop} {p : Nat} {n : Nat → Nat} {A : Ar} {G G' : Nat} (h : PRel w O p n A G) (hg : G ≤ G') (hs : G' ≤ 1099511627776) : PRel w O p n A G' := by
  obtain ⟨gs, Q, M, h1, h2⟩ := h.it
  exact ⟨⟨gs, Q, M, h1, ⟨h2.busy, h2.idle, fun c i b hc hb => by obtain ⟨h4, h5⟩ := h2.small c i b hc hb; exact ⟨by omega, h5⟩⟩⟩, h.few, hs⟩
/-- What a call leaves: an error, the two related, nothing else changed. -/
def DoneP (O : Nat → Prop) (p : Nat) (n : Nat → Nat) (r : Int × Ar) (G : Nat) (w : World) (e : Ending) (w' : World) : Prop := e = .returned (.int .i64 r.1) ∧ PRel w' O p n r.2 G ∧ Tn TP O w w'
/-- A held number is stored. -/
theorem PAt.setHeld {w : World} {O : Nat → Prop} {p : Nat} {n gs : Nat → Nat} {Q : Mp} {M : Nat → Nat → Tk.Bs} {A : Ar} (h : PAt w O p n gs Q M A) {c i : Nat} {b : Blk} (hc : c < 4) (hb : (A c)[i]? = some b) (h' : Nat) :
    PAt (w.setCell ⟨gs c, i * 5 + 3, none⟩ (.int .i64 (h' : Int))) O p n gs Q M (upd A c ((A c).set i { b with held := h' })) ∧ Tn TP O w (w.setCell ⟨gs c, i * 5 + 3, none⟩ (.int .i64 (h' : Int))) :=
  ⟨h.store hc hb (t := 3) (by decide) (b' := { b with held := h' }) rfl, Tn.set (h.rowIs hc).1 (h.rowIs hc).2 _⟩
end Go.Proofs.Ytbpadliiekhkjaa.So
/-
  The program's Drop beside the plain arena. Condition: they are related ahead.
-/
namespace Go.Proofs.Ytbpadliiekhkjaa.Sl
open Go.RowKit Go.Proofs.Ytbpadliiekhkjaa.Fd
set_option maxRecDepth 100000
set_option linter.unusedVariables false
set_option linter.unusedSimpArgs false

theorem infoU8 : (Try.prog.info? 5).map (fun i => (i.zero, i.size, i.bytes)) = some (some (.int .u8 0), 1, 1) := by kernel_rfl
theorem info_parts8 {e : TypeId} {z : Value} {n b : Nat} (h : (Try.prog.info? e).map (fun i => (i.zero, i.size, i.bytes)) = some (some z, n, b)) : ∃ i, Try.prog.info? e = some i ∧ i.zero = some z ∧ i.size = n ∧ i.bytes = b := by
  cases hi : Try.prog.info? e with
  | none => rw [hi] at h; simp at h
  | some i =>
    rw [hi] at h
    simp at h
    exact ⟨i, rfl, h.1, h.2.1, h.2.2⟩
theorem zero_bytes (n : Nat) : Builtin.zeroCells (Value.int .u8 0).cells n = u8V (List.replicate n 0) := by
  unfold Builtin.zeroCells u8V
  apply Array.ext
  · simp [Value.cells]
  · intro i h1 h2
    simp [Value.cells, Nat.mod_one]
theorem run_clear (w : World) (ty : TypeId) (q s : Nat) (m : Tk.Bs) (hg : w.heap[q]? = some (.cells (u8V m) 5 (0, 0))) (hm : m.length = s + 1) :
    (Builtin.clear_ #[36] ty #[.slice (some ⟨q, 0, none⟩) (s + 1) (s + 1)]).run Try.prog w = .ok (.tuple #[]) (w.setRow q (u8V (List.replicate (s + 1) 0))) := by
  obtain ⟨i0, hi, hz0, hz1, hz2⟩ := info_parts8 infoU8
  have hl : (u8V (List.replicate (s + 1) 0)).toList.length = s + 1 := by simp [u8V]
  have hst := run_storeCells_at Try.prog q 0 5 (u8V (List.replicate (s + 1) 0)).toList 0 (u8V m) w hg (by rw [hl, u8V_size]; omega) (by
    intro v hv
    simp [u8V] at hv
    obtain ⟨_, rfl⟩ := hv
    rfl)
  rw [hl] at hst
  have e : ((u8V m).toList.take (0 + 0) ++ (u8V (List.replicate (s + 1) 0)).toList ++ (u8V m).toList.drop (0 + 0 + (s + 1))).toArray = u8V (List.replicate (s + 1) 0) := by
    rw [List.drop_of_length_le (by rw [Array.length_toList, u8V_size]; omega)]
    simp
  rw [e] at hst
  simp [Builtin.clear_, run_underlying Try.underlying36, zeroValue, typeInfo, hi, hz0, zero_bytes, hst]
set_option maxHeartbeats 4000000 in
theorem pdrop_any {base p : Nat} {n : Nat → Nat} {A : Ar} {G : Nat} (c i g : Int) (w : World) (h : PRel w base p n A G) :
    Calls Try.prog 51 #[.pointer (some ⟨p, 0, none⟩), .agg #[.int .i64 c, .int .i64 i, .int .i64 g]] w (DoneP base p n (dropA A (c, i, g)) G w) := by
  obtain ⟨gs, Q, M, hP, hG⟩ := h.it
  have hB1 := (Below.refl w.heap.size w).alloc (Nat.le_refl _) (.cells #[.int .i64 c, .int .i64 i, .int .i64 g] 78)
  have HR := Lib.hid (pright_any c i g _ (hP.same hB1) hG.aged h.few)
  rcases right_ways (A := A) gs c i g with ⟨h1, h2⟩ | ⟨c, i, b, rfl, rfl, c4, hb, hh, rfl, h1, h2⟩
  · have HV := Lib.hid (show dropA A (c, i, g) = (15, A) from by unfold dropA; rw [h1])
    have HH := Lib.hid h
    rw [h2] at HR
    clear h1 h2 hP hG h
    go_enter Try.func51, Try.ntmps51
    go_wp2_with fail
    refine HR.out.mono ?_
    rintro e w2 ⟨rfl, hb2⟩
    have HB := Lib.hid (Bl.next hB1 hb2)
    clear hb2 hB1 HR
    go_wp2_with fail
    go_ret
    exact ⟨by rw [HV.out]; rfl, by rw [HV.out]; exact HH.out.same HB.out, Tn.of_below HB.out⟩
  · obtain ⟨hsm1, hsm2⟩ := hG.small c i b c4 hb
    have hgl := hP.ltG c4
    obtain ⟨hge, ⟨q, hq⟩, hmem⟩ := hG.busy c i b c4 hb hh
    rw [h2] at HR
    have HV := Lib.hid (show dropA A ((c : Int), (i : Int), (b.gen : Int)) = (0, upd A c ((A c).set i { b with held := b.held - 1 })) from by unfold dropA; rw [h1]; rfl)
    have HP := Lib.hid hP
    have HHb := Lib.hid hb
    have bi : 1 ≤ (b.held : Int) := by omega
    have bj : (b.held : Int) ≤ 1048576 := by omega
    have hsub : ((b.held - 1 : Nat) : Int) = (b.held : Int) - 1 := by omega
    by_cases hone : b.held = 1
    · have HF := Lib.hid (show ∀ W : World, PAt W base p n gs Q (updM M c i (List.replicate (sizeC c) 0)) (upd A c ((A c).set i { b with held := b.held - 1 })) → PRel W base p n (upd A c ((A c).set i { b with held := b.held - 1 })) G from fun W hW =>
        ⟨⟨gs, Q, _, hW, hG.put (fun _ _ _ => rfl) (fun d j hn => updM_other _ _ hn) (Nat.le_refl _) (fun q => absurd (show b.held - 1 = 0 by omega) q) (fun _ _ _ => updM_same _ _ _ _) ⟨hsm1, by show b.held - 1 ≤ _; omega⟩⟩, h.few, h.small⟩)
      have be : ((b.held : Int) - 1 == 0) = true := by rw [hone]; rfl
      obtain ⟨s, hs⟩ : ∃ s, sizeC c = s + 1 := by
        rcases (by omega : c = 0 ∨ c = 1 ∨ c = 2 ∨ c = 3) with rfl | rfl | rfl | rfl <;> exact ⟨_, rfl⟩
      have HHq := Lib.hid hq
      have HHs := Lib.hid hs
      clear h1 h2 hG h hb hh hone hsm1 hsm2 hP hge hmem hq hs
      go_enter Try.func51, Try.ntmps51
      go_wp2_with fail
      refine HR.out.mono ?_
      rintro e w2 ⟨rfl, hb2⟩
      have hB2 := Bl.next hB1 hb2
      have hP2 := HP.out.same hB2
      obtain ⟨d3, f3⟩ := hP2.cell c4 HHb.out (t := 3) (by decide)
      replace d3 : w2.cell? ⟨gs c, i * 5 + 3, none⟩ = some (.int .i64 (b.held : Int)) := d3
      have hS := hP2.setHeld c4 HHb.out (b.held - 1)
      rw [hsub] at hS
      have hA3 : ((upd A c ((A c).set i { b with held := b.held - 1 })) c)[i]? = some { b with held := b.held - 1 } := by
        rw [upd_same, List.getElem?_set_self (List.getElem?_eq_some_iff.1 HHb.out).1]
      have d4 := (hS.1.cell c4 hA3 (t := 4) (by decide)).1
      replace d4 : (w2.setCell ⟨gs c, i * 5 + 3, none⟩ (.int .i64 ((b.held : Int) - 1))).cell? ⟨gs c, i * 5 + 4, none⟩ = some (bytV c (Q c i)) := d4
      rw [HHq.out] at d4
      replace d4 : (w2.setCell ⟨gs c, i * 5 + 3, none⟩ (.int .i64 ((b.held : Int) - 1))).cell? ⟨gs c, i * 5 + 4, none⟩ = some (.slice (some ⟨q, 0, none⟩) (sizeC c) (sizeC c)) := d4
      obtain ⟨m1, m2⟩ := hS.1.mem c i q HHq.out
      rw [HHs.out] at d4 m2
      have hcl := run_clear _ 0 q s _ m1 m2
      have HE := Lib.hid (show PAt _ base p n gs Q (updM M c i (List.replicate (sizeC c) 0)) _ from hS.1.bytes (w' := (w2.setCell ⟨gs c, i * 5 + 3, none⟩ (.int .i64 ((b.held : Int) - 1))).setRow q (u8V (List.replicate (s + 1) 0))) HHq.out (by rw [HHs.out]; exact setRow_heap _ _ _ _ _ _ m1) (by simp) (fun k hk => setRow_other _ _ _ _ hk))
      have HT := Lib.hid (((Tn.of_below hB2).trans hS.2).trans (Tn.row (hS.1.memIs HHq.out).1 (hS.1.memIs HHq.out).2 (u8V (List.replicate (s + 1) 0))))
      clear hb2 hB1 HR hB2 hP2 hS m1 m2 hA3 hsub
      go_wp2_with fail
      go_ret
      exact ⟨by rw [HV.out]; rfl, by rw [HV.out]; exact HF.out _ HE.out, HT.out⟩
    · have HF := Lib.hid (show ∀ W : World, PAt W base p n gs Q M (upd A c ((A c).set i { b with held := b.held - 1 })) → PRel W base p n (upd A c ((A c).set i { b with held := b.held - 1 })) G from fun W hW =>
        ⟨⟨gs, Q, M, hW, hG.put (fun _ _ _ => rfl) (fun _ _ _ => rfl) (Nat.le_refl _) (fun _ => ⟨hge, ⟨q, hq⟩, hmem⟩) (fun z => by replace z : b.held - 1 = 0 := z; omega) ⟨hsm1, by show b.held - 1 ≤ _; omega⟩⟩, h.few, h.small⟩)
      have be : ((b.held : Int) - 1 == 0) = false := by rw [beq_eq_false_iff_ne]; omega
      clear h1 h2 hG h hb hh hone hsm1 hsm2 hP hge hmem hq
      go_enter Try.func51, Try.ntmps51
      go_wp2_with fail
      refine HR.out.mono ?_
      rintro e w2 ⟨rfl, hb2⟩
      have hB2 := Bl.next hB1 hb2
      have hP2 := HP.out.same hB2
      obtain ⟨d3, f3⟩ := hP2.cell c4 HHb.out (t := 3) (by decide)
      replace d3 : w2.cell? ⟨gs c, i * 5 + 3, none⟩ = some (.int .i64 (b.held : Int)) := d3
      have hS := hP2.setHeld c4 HHb.out (b.held - 1)
      rw [hsub] at hS
      have HS := Lib.hid hS
      have HB := Lib.hid hB2
      clear hb2 hB1 HR hB2 hP2 hS hsub
      go_wp2_with fail
      go_ret
      exact ⟨by rw [HV.out]; rfl, by rw [HV.out]; exact HF.out _ HS.out.1, (Tn.of_below HB.out).trans HS.out.2⟩
end Go.Proofs.Ytbpadliiekhkjaa.Sl
