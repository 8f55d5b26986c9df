/-
  The program's arena as the model has it: an object of eight cells, a row of blocks for each class, each block's bytes in a block of memory of its own. No condition.
-/
import Derived.Test.YtheljldoboiekaaSlOps
namespace Go.Proofs.Ytheljldoboiekaa.Sl
open Go.RowKit Go.Proofs.Ytheljldoboiekaa.Fd
set_option maxRecDepth 100000
set_option linter.unusedVariables false
set_option linter.unusedSimpArgs false

/-- Where a block's bytes lie. -/
abbrev Mp := Nat → Nat → Option Nat
def bytV (c : Nat) : Option Nat → Value
  | none => .slice none 0 0
  | some q => .slice (some ⟨q, 0, none⟩) (sizeC c) (sizeC c)
def ownI (x g : Nat) : Int := if g = 0 then 0 else (x : Int)
def cellsP (c i : Nat) (b : Blk) (q : Option Nat) : List Value := [.int .i64 (ownI c b.gen), .int .i64 (ownI i b.gen), .int .i64 (b.gen : Int), .int .i64 (b.held : Int), bytV c q]
structure RowP (cur : Array Value) (c : Nat) (q : Nat → Option Nat) (l : List Blk) : Prop where
  size : cur.size = l.length * 5
  is : ∀ (j : Nat) (b : Blk), l[j]? = some b → ∀ t, t < 5 → cur[j * 5 + t]? = (cellsP c j b (q j))[t]?
def u8V (m : Tk.Bs) : Array Value := (m.map fun b => Value.int .u8 (b.toNat : Int)).toArray
theorem u8V_size (m : Tk.Bs) : (u8V m).size = m.length := by simp [u8V]
def rowV (gs n : Nat → Nat) (c : Nat) : Value := .slice (some ⟨gs c, 0, none⟩) (n c) (n c)
def arenaV (gs n : Nat → Nat) : Array Value := #[.int .i64 64, rowV gs n 0, .int .i64 256, rowV gs n 1, .int .i64 1024, rowV gs n 2, .int .i64 4096, rowV gs n 3]
structure PAt (w : World) (base p : Nat) (n gs : Nat → Nat) (Q : Mp) (M : Nat → Nat → Tk.Bs) (A : Ar) : Prop where
  arena : w.heap[p]? = some (.cells (arenaV gs n) 59 (0, 0))
  row : ∀ c, c < 4 → ∃ cur, w.heap[gs c]? = some (.cells cur 77 (0, 0)) ∧ RowP cur c (Q c) (A c)
  len : ∀ c, c < 4 → (A c).length = n c
  mem : ∀ c i q, Q c i = some q → w.heap[q]? = some (.cells (u8V (M c i)) 5 (0, 0)) ∧ (M c i).length = sizeC c
  apP : base ≤ p
  apG : ∀ c, c < 4 → base ≤ gs c ∧ gs c ≠ p
  apGG : ∀ c d, c < 4 → d < 4 → gs c = gs d → c = d
  apQ : ∀ c i q, Q c i = some q → c < 4 ∧ base ≤ q ∧ q ≠ p ∧ ∀ d, d < 4 → q ≠ gs d
  apQQ : ∀ c i d j q, Q c i = some q → Q d j = some q → c = d ∧ i = j
theorem PAt.lt {w : World} {base p : Nat} {n gs : Nat → Nat} {Q : Mp} {M : Nat → Nat → Tk.Bs} {A : Ar} (h : PAt w base p n gs Q M A) : p < w.heap.size := block_lt h.arena
theorem PAt.ltG {w : World} {base p : Nat} {n gs : Nat → Nat} {Q : Mp} {M : Nat → Nat → Tk.Bs} {A : Ar} (h : PAt w base p n gs Q M A) {c : Nat} (hc : c < 4) : gs c < w.heap.size := by
  obtain ⟨cur, h1, _⟩ := h.row c hc
  exact block_lt h1
theorem PAt.ltQ {w : World} {base p : Nat} {n gs : Nat → Nat} {Q : Mp} {M : Nat → Nat → Tk.Bs} {A : Ar} (h : PAt w base p n gs Q M A) {c i q : Nat} (hq : Q c i = some q) : q < w.heap.size := block_lt (h.mem c i q hq).1
theorem PAt.same {w w' : World} {base p : Nat} {n gs : Nat → Nat} {Q : Mp} {M : Nat → Nat → Tk.Bs} {A : Ar} (h : PAt w base p n gs Q M A) (hb : Below w.heap.size w w') : PAt w' base p n gs Q M A := by
  refine ⟨Bl.old hb h.lt h.arena, fun c hc => ?_, h.len, fun c i q hq => ⟨Bl.old hb (h.ltQ hq) (h.mem c i q hq).1, (h.mem c i q hq).2⟩, h.apP, h.apG, h.apGG, h.apQ, h.apQQ⟩
  obtain ⟨cur, h1, h2⟩ := h.row c hc
  exact ⟨cur, Bl.old hb (block_lt h1) h1, h2⟩
/-- The arena's eight cells. -/
theorem PAt.size {w : World} {base p : Nat} {n gs : Nat → Nat} {Q : Mp} {M : Nat → Nat → Tk.Bs} {A : Ar} (h : PAt w base p n gs Q M A) {c : Nat} (hc : c < 4) : w.cell? ⟨p, c * 2, none⟩ = some (.int .i64 (sizeC c : Int)) := by
  rw [Lib.cell_of_heap h.arena]
  rcases (by omega : c = 0 ∨ c = 1 ∨ c = 2 ∨ c = 3) with rfl | rfl | rfl | rfl <;> rfl
theorem PAt.blocks {w : World} {base p : Nat} {n gs : Nat → Nat} {Q : Mp} {M : Nat → Nat → Tk.Bs} {A : Ar} (h : PAt w base p n gs Q M A) {c : Nat} (hc : c < 4) : w.cell? ⟨p, c * 2 + 1, none⟩ = some (rowV gs n c) := by
  rw [Lib.cell_of_heap h.arena]
  rcases (by omega : c = 0 ∨ c = 1 ∨ c = 2 ∨ c = 3) with rfl | rfl | rfl | rfl <;> rfl
/-- The cells of a block. -/
theorem PAt.cell {w : World} {base p : Nat} {n gs : Nat → Nat} {Q : Mp} {M : Nat → Nat → Tk.Bs} {A : Ar} (h : PAt w base p n gs Q M A) {c i : Nat} {b : Blk} (hc : c < 4) (hb : (A c)[i]? = some b) {t : Nat} (ht : t < 5) :
    w.cell? ⟨gs c, i * 5 + t, none⟩ = (cellsP c i b (Q c i))[t]? ∧ w.frozen? ⟨gs c, i * 5 + t, none⟩ = false := by
  obtain ⟨cur, h1, h2⟩ := h.row c hc
  refine ⟨?_, free h1 _⟩
  rw [Lib.cell_of_heap h1]
  exact h2.is i b hb t ht
/-- A class's row is changed. -/
theorem PAt.put {w w' : World} {base p : Nat} {n gs : Nat → Nat} {Q : Mp} {M : Nat → Nat → Tk.Bs} {A : Ar} (h : PAt w base p n gs Q M A) {c : Nat} (hc : c < 4) {cur : Array Value} {l : List Blk}
    (h1 : w'.heap[gs c]? = some (.cells cur 77 (0, 0))) (h2 : RowP cur c (Q c) l) (hl : l.length = (A c).length) (hk : ∀ b, b ≠ gs c → w'.heap[b]? = w.heap[b]?) : PAt w' base p n gs Q M (upd A c l) := by
  refine ⟨by rw [hk p (Ne.symm (h.apG c hc).2)]; exact h.arena, fun d hd => ?_, fun d hd => ?_, fun d i q hq => ⟨by rw [hk q ((h.apQ d i q hq).2.2.2 c hc)]; exact (h.mem d i q hq).1, (h.mem d i q hq).2⟩, h.apP, h.apG, h.apGG, h.apQ, h.apQQ⟩
  · by_cases e : d = c
    · subst e; rw [upd_same]; exact ⟨cur, h1, h2⟩
    · rw [upd_other _ _ e]
      obtain ⟨cu, h3, h4⟩ := h.row d hd
      exact ⟨cu, by rw [hk _ (fun q => e (h.apGG _ _ hd hc q))]; exact h3, h4⟩
  · by_cases e : d = c
    · subst e; rw [upd_same, hl]; exact h.len d hd
    · rw [upd_other _ _ e]; exact h.len d hd
theorem cellsP_len (c i : Nat) (b : Blk) (q : Option Nat) : (cellsP c i b q).length = 5 := rfl
/-- One cell of a block is set. -/
theorem RowP.set {cur : Array Value} {c : Nat} {q : Nat → Option Nat} {l : List Blk} (h : RowP cur c q l) {i t : Nat} {b b' : Blk} {u : Value} (hb : l[i]? = some b) (ht : t < 5) (hu : cellsP c i b' (q i) = (cellsP c i b (q i)).set t u) :
    RowP (cur.setIfInBounds (i * 5 + t) u) c q (l.set i b') := by
  obtain ⟨hi, _⟩ := List.getElem?_eq_some_iff.1 hb
  refine ⟨by rw [Array.size_setIfInBounds, List.length_set]; exact h.size, fun j x hx s hs => ?_⟩
  rw [Array.getElem?_setIfInBounds]
  by_cases hj : i = j
  · subst hj
    rw [List.getElem?_set_self hi] at hx
    injection hx with hx
    subst hx
    rw [hu]
    by_cases hst : t = s
    · subst hst
      rw [if_pos rfl, if_pos (by rw [h.size]; omega), List.getElem?_set_self (by rw [cellsP_len]; exact ht)]
    · rw [if_neg (by omega), List.getElem?_set_ne hst]
      exact h.is i b hb s hs
  · rw [List.getElem?_set_ne hj] at hx
    rw [if_neg (by omega)]
    exact h.is j x hx s hs
theorem set_heap {w : World} {g j : Nat} {u : Value} {b : Nat} (hb : b ≠ g) : (w.setCell ⟨g, j, none⟩ u).heap[b]? = w.heap[b]? := by simp [World.setCell, Array.getElem?_modify, Ne.symm hb]
/-- One number of a block is stored. -/
theorem PAt.store {w : World} {base p : Nat} {n gs : Nat → Nat} {Q : Mp} {M : Nat → Nat → Tk.Bs} {A : Ar} (h : PAt w base p n gs Q M A) {c i t : Nat} {b b' : Blk} {u : Value} (hc : c < 4) (hb : (A c)[i]? = some b) (ht : t < 5)
    (hu : cellsP c i b' (Q c i) = (cellsP c i b (Q c i)).set t u) : PAt (w.setCell ⟨gs c, i * 5 + t, none⟩ u) base p n gs Q M (upd A c ((A c).set i b')) := by
  obtain ⟨cur, h1, h2⟩ := h.row c hc
  exact h.put hc (heap_put h1 _ _) (h2.set hb ht hu) (by simp) (fun k hk => set_heap hk)
/-- The generation is told: three numbers. -/
theorem RowP.own {cur : Array Value} {c : Nat} {q : Nat → Option Nat} {l : List Blk} (h : RowP cur c q l) {i : Nat} {b b' : Blk} (hb : l[i]? = some b) (hh : b'.held = b.held) (hg : b'.gen ≠ 0) :
    RowP (((cur.setIfInBounds (i * 5) (.int .i64 (c : Int))).setIfInBounds (i * 5 + 1) (.int .i64 (i : Int))).setIfInBounds (i * 5 + 2) (.int .i64 (b'.gen : Int))) c q (l.set i b') := by
  obtain ⟨hi, _⟩ := List.getElem?_eq_some_iff.1 hb
  have e1 : ownI c b'.gen = (c : Int) := by unfold ownI; rw [if_neg hg]
  have e2 : ownI i b'.gen = (i : Int) := by unfold ownI; rw [if_neg hg]
  refine ⟨by rw [Array.size_setIfInBounds, Array.size_setIfInBounds, Array.size_setIfInBounds, List.length_set]; exact h.size, fun j x hx s hs => ?_⟩
  have hsz := h.size
  simp only [Array.getElem?_setIfInBounds, Array.size_setIfInBounds]
  by_cases hj : i = j
  · subst hj
    rw [List.getElem?_set_self hi] at hx
    injection hx with hx
    subst hx
    have h0 := h.is i b hb s hs
    rcases (by omega : s = 0 ∨ s = 1 ∨ s = 2 ∨ s = 3 ∨ s = 4) with rfl | rfl | rfl | rfl | rfl
    · rw [if_neg (by omega), if_neg (by omega), if_pos (by omega), if_pos (by omega)]
      show _ = some (Value.int .i64 (ownI c b'.gen)); rw [e1]
    · rw [if_neg (by omega), if_pos (by omega), if_pos (by omega)]
      show _ = some (Value.int .i64 (ownI i b'.gen)); rw [e2]
    · rw [if_pos (by omega), if_pos (by omega)]; rfl
    · rw [if_neg (by omega), if_neg (by omega), if_neg (by omega), h0]
      show some (Value.int .i64 (b.held : Int)) = some (Value.int .i64 (b'.held : Int)); rw [hh]
    · rw [if_neg (by omega), if_neg (by omega), if_neg (by omega), h0]; rfl
  · rw [List.getElem?_set_ne hj] at hx
    rw [if_neg (by omega), if_neg (by omega), if_neg (by omega)]
    exact h.is j x hx s hs
theorem PAt.own {w : World} {base p : Nat} {n gs : Nat → Nat} {Q : Mp} {M : Nat → Nat → Tk.Bs} {A : Ar} (h : PAt w base p n gs Q M A) {c i : Nat} {b b' : Blk} (hc : c < 4) (hb : (A c)[i]? = some b) (hh : b'.held = b.held) (hg : b'.gen ≠ 0) :
    PAt (((w.setCell ⟨gs c, i * 5, none⟩ (.int .i64 (c : Int))).setCell ⟨gs c, i * 5 + 1, none⟩ (.int .i64 (i : Int))).setCell ⟨gs c, i * 5 + 2, none⟩ (.int .i64 (b'.gen : Int))) base p n gs Q M (upd A c ((A c).set i b')) := by
  obtain ⟨cur, h1, h2⟩ := h.row c hc
  exact h.put hc (heap_put (heap_put (heap_put h1 _ _) _ _) _ _) (h2.own hb hh hg) (by simp) (fun k hk => by rw [set_heap hk, set_heap hk, set_heap hk])
def updQ (Q : Mp) (c i q : Nat) : Mp := fun d j => if d = c ∧ j = i then some q else Q d j
def updM (M : Nat → Nat → Tk.Bs) (c i : Nat) (m : Tk.Bs) : Nat → Nat → Tk.Bs := fun d j => if d = c ∧ j = i then m else M d j
theorem updM_same (M : Nat → Nat → Tk.Bs) (c i : Nat) (m : Tk.Bs) : updM M c i m c i = m := by unfold updM; rw [if_pos ⟨rfl, rfl⟩]
theorem updM_other (M : Nat → Nat → Tk.Bs) {c i d j : Nat} (m : Tk.Bs) (h : ¬ (d = c ∧ j = i)) : updM M c i m d j = M d j := by unfold updM; rw [if_neg h]
theorem updQ_same (Q : Mp) (c i q : Nat) : updQ Q c i q c i = some q := by unfold updQ; rw [if_pos ⟨rfl, rfl⟩]
theorem updQ_other (Q : Mp) {c i d j : Nat} (q : Nat) (h : ¬ (d = c ∧ j = i)) : updQ Q c i q d j = Q d j := by unfold updQ; rw [if_neg h]
/-- A block's bytes are changed. -/
theorem PAt.bytes {w w' : World} {base p : Nat} {n gs : Nat → Nat} {Q : Mp} {M : Nat → Nat → Tk.Bs} {A : Ar} (h : PAt w base p n gs Q M A) {c i q : Nat} {m : Tk.Bs} (hq : Q c i = some q)
    (h1 : w'.heap[q]? = some (.cells (u8V m) 5 (0, 0))) (hm : m.length = sizeC c) (hk : ∀ b, b ≠ q → w'.heap[b]? = w.heap[b]?) : PAt w' base p n gs Q (updM M c i m) A := by
  obtain ⟨_, _, q3, q4⟩ := h.apQ c i q hq
  refine ⟨by rw [hk p (Ne.symm q3)]; exact h.arena, fun d hd => ?_, h.len, fun d j r hr => ?_, h.apP, h.apG, h.apGG, h.apQ, h.apQQ⟩
  · obtain ⟨cur, h3, h4⟩ := h.row d hd
    exact ⟨cur, by rw [hk _ (Ne.symm (q4 d hd))]; exact h3, h4⟩
  · by_cases e : d = c ∧ j = i
    · obtain ⟨rfl, rfl⟩ := e
      rw [hq] at hr
      injection hr with hr
      subst hr
      rw [updM_same]; exact ⟨h1, hm⟩
    · rw [updM_other _ _ e, hk r (fun q2 => e (h.apQQ d j c i q (by rw [← q2]; exact hr) hq))]
      exact h.mem d j r hr
/-- A block gets memory. -/
theorem PAt.give {w : World} {base p : Nat} {n gs : Nat → Nat} {Q : Mp} {M : Nat → Nat → Tk.Bs} {A : Ar} (h : PAt w base p n gs Q M A) {c i q : Nat} {m : Tk.Bs} {b : Blk} (hc : c < 4) (hb : (A c)[i]? = some b) (hq : Q c i = none)
    (h1 : w.heap[q]? = some (.cells (u8V m) 5 (0, 0))) (hm : m.length = sizeC c) (n1 : base ≤ q) (n2 : q ≠ p) (n3 : ∀ d, d < 4 → q ≠ gs d) (n4 : ∀ d j, Q d j ≠ some q) :
    PAt (w.setCell ⟨gs c, i * 5 + 4, none⟩ (.slice (some ⟨q, 0, none⟩) (sizeC c) (sizeC c))) base p n gs (updQ Q c i q) (updM M c i m) A := by
  obtain ⟨cur, h2, h3⟩ := h.row c hc
  obtain ⟨hi, hbi⟩ := List.getElem?_eq_some_iff.1 hb
  have hne : ∀ k, k ≠ gs c → (w.setCell ⟨gs c, i * 5 + 4, none⟩ (.slice (some ⟨q, 0, none⟩) (sizeC c) (sizeC c))).heap[k]? = w.heap[k]? := fun k hk => set_heap hk
  refine ⟨by rw [hne p (Ne.symm (h.apG c hc).2)]; exact h.arena, fun d hd => ?_, h.len, fun d j r hr => ?_, h.apP, h.apG, h.apGG, fun d j r hr => ?_, fun d j e k r hr hs => ?_⟩
  · by_cases e : d = c
    · subst e
      refine ⟨_, heap_put h2 _ _, ⟨by rw [Array.size_setIfInBounds]; exact h3.size, fun j x hx s hs => ?_⟩⟩
      rw [Array.getElem?_setIfInBounds]
      by_cases hj : i = j
      · subst hj
        rw [updQ_same]
        have h0 := h3.is i x hx s hs
        rcases (by omega : s = 0 ∨ s = 1 ∨ s = 2 ∨ s = 3 ∨ s = 4) with rfl | rfl | rfl | rfl | rfl
        iterate 4 (rw [if_neg (by omega), h0]; rfl)
        rw [if_pos rfl, if_pos (by rw [h3.size]; omega)]; rfl
      · rw [if_neg (by omega), updQ_other _ _ (fun q => hj q.2.symm)]
        exact h3.is j x hx s hs
    · obtain ⟨cu, h4, h5⟩ := h.row d hd
      refine ⟨cu, by rw [hne _ (fun q => e (h.apGG _ _ hd hc q))]; exact h4, h5.size, fun j x hx s hs => ?_⟩
      rw [updQ_other _ _ (fun q => e q.1)]
      exact h5.is j x hx s hs
  · by_cases e : d = c ∧ j = i
    · obtain ⟨rfl, rfl⟩ := e
      rw [updQ_same] at hr
      injection hr with hr
      subst hr
      rw [updM_same, hne q (n3 d hc)]; exact ⟨h1, hm⟩
    · rw [updQ_other _ _ e] at hr
      rw [updM_other _ _ e, hne r ((h.apQ d j r hr).2.2.2 c hc)]
      exact h.mem d j r hr
  · by_cases e : d = c ∧ j = i
    · obtain ⟨rfl, rfl⟩ := e
      rw [updQ_same] at hr
      injection hr with hr
      subst hr
      exact ⟨hc, n1, n2, n3⟩
    · rw [updQ_other _ _ e] at hr
      exact h.apQ d j r hr
  · by_cases e1 : d = c ∧ j = i
    · obtain ⟨rfl, rfl⟩ := e1
      rw [updQ_same] at hr
      injection hr with hr
      subst hr
      by_cases e2 : e = d ∧ k = j
      · exact ⟨e2.1.symm, e2.2.symm⟩
      · rw [updQ_other _ _ e2] at hs
        exact absurd hs (n4 e k)
    · rw [updQ_other _ _ e1] at hr
      by_cases e2 : e = c ∧ k = i
      · obtain ⟨rfl, rfl⟩ := e2
        rw [updQ_same] at hs
        injection hs with hs
        subst hs
        exact absurd hr (n4 d j)
      · rw [updQ_other _ _ e2] at hs
        exact h.apQQ d j e k r hr hs
end Go.Proofs.Ytheljldoboiekaa.Sl
