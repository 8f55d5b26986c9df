/-
  Texts that the laws' proofs stand on, 3 of them in one file; each one's head says what it proves and under which condition.
-/
import Derived.Test.YtbpadliiekhkjaaCHNP5
import Derived.Laws.EntriesVeiled
import Derived.Laws.ResultCell
/-
  The reference's Sizes, Held, Hold and Drop beside the plain arena: what each returns, and that the two stay related. Condition: they are related ahead.
-/
-- cut by strips.py
namespace Go.Proofs.Ytbpadliiekhkjaa.Sl
open Go.RowKit Go.Proofs.Ytbpadliiekhkjaa.Fd
set_option maxRecDepth 100000
set_option linter.unusedVariables false
set_option linter.unusedSimpArgs false

theorem flatR_set (u : Value) (t : Nat) (ht : t < 5) : ∀ (L : List RQ) (k : Nat) (x : RQ), (hk : k < L.length) → five x = (five L[k]).set t u → flatR (L.set k x) = (flatR L).set (k * 5 + t) u
  | [], k, x, hk, _ => absurd hk (by simp)
  | y :: r, 0, x, _, h => by
    have h : five x = (five y).set t u := h
    show five x ++ flatR r = (five y ++ flatR r).set _ u
    rw [Nat.zero_mul, Nat.zero_add, List.set_append_left _ _ (by show t < 5; exact ht), h]
  | y :: r, k + 1, x, hk, h => by
    show five y ++ flatR (r.set k x) = (five y ++ flatR r).set _ u
    rw [List.set_append_right _ _ (by show 5 ≤ _; omega), flatR_set u t ht r k x (by simpa using hk) (by simpa using h)]
    congr 2
    show _ = _ - 5
    omega
theorem rbs_set (L : List RQ) (k : Nat) (x : RQ) : rbs (L.set k x) = (rbs L).set k x.1 := by unfold rbs; rw [List.map_set]
/-- One number of an entry is stored. -/
theorem RAt.store {w : World} {base p : Nat} {n : Nat → Nat} {L : List RQ} {v : Value} (h : RAt w base p n L v) {k : Nat} (hk : k < L.length) {g cap : Nat} (hv : v = .slice (some ⟨g, 0, none⟩) L.length cap) {t : Nat} (ht : t < 5) {u : Value} {x : RQ}
    (hx : five x = (five L[k]).set t u) (hq : x.2 = L[k].2) (hm : x.1.mem = L[k].1.mem) (hc : x.1.c = L[k].1.c) : RAt (w.setCell ⟨g, k * 5 + t, none⟩ u) base p n (L.set k x) v := by
  have hg : v.ownBlock = some g := by rw [hv]; rfl
  have hne : ∀ b, b ≠ g → (w.setCell ⟨g, k * 5 + t, none⟩ u).heap[b]? = w.heap[b]? := fun b hb => by simp [World.setCell, Array.getElem?_modify, Ne.symm hb]
  have hmem : ∀ y ∈ L.set k x, ∃ z ∈ L, y.2 = z.2 ∧ y.1.mem = z.1.mem ∧ y.1.c = z.1.c := by
    intro y hy
    rcases List.mem_or_eq_of_mem_set hy with hy | rfl
    · exact ⟨y, hy, rfl, rfl, rfl⟩
    · exact ⟨L[k], List.getElem_mem hk, hq, hm, hc⟩
  have hmap : (L.set k x).map (fun x => x.2) = L.map fun x => x.2 := by
    rw [List.map_set, hq]
    apply List.ext_getElem?
    intro j
    by_cases hj : k = j
    · subst hj; rw [List.getElem?_set_self (by simpa using hk)]; simp [hk]
    · rw [List.getElem?_set_ne hj]
  refine ⟨?_, ?_, ?_, ?_, by rw [hmap]; exact h.nodup, h.out⟩
  · rw [hne p (fun e => h.out.2 (by rw [hg, e]))]; exact h.arena
  · rw [flatR_set u t ht L k x hk hx, List.length_set]
    have hr := h.row
    rw [hv] at hr ⊢
    exact (World.ownsRow.stored hr (k * 5 + t) u).1
  · intro y hy
    obtain ⟨z, hz, e1, e2, e3⟩ := hmem y hy
    rw [e1, e2, e3, hne z.2 (fun e => (h.apart z hz).2.2 (by rw [hg, e]))]
    exact h.mem z hz
  · intro y hy
    obtain ⟨z, hz, e1, _, _⟩ := hmem y hy
    rw [e1]; exact h.apart z hz
/-- The reference's arena and the plain one; G bounds how many blocks were taken, and how often. -/
structure RRel (w : World) (base p : Nat) (n : Nat → Nat) (A : Ar) (G : Nat) : Prop where
  it : ∃ L v, RAt w base p n L v ∧ RelR A n (rbs L) ∧ L.length ≤ G ∧ (∀ x ∈ L, x.1.gen ≤ G ∧ x.1.held ≤ 1048576)
  small : G ≤ 1099511627776
theorem RRel.same {w w' : World} {base p : Nat} {n : Nat → Nat} {A : Ar} {G : Nat} (h : RRel w base p n A G) (hb : Below w.heap.size w w') : RRel w' base p n A G := by
  obtain ⟨L, v, h1, h2⟩ := h.it
  exact ⟨⟨L, v, h1.same hb, h2⟩, h.small⟩
/-- The types of the reference's blocks. -/
def TR (t : TypeId) : Bool := t == 76 || t == 94 || t == 3
theorem RAt.rowIs {w : World} {base p : Nat} {n : Nat → Nat} {L : List RQ} {v : Value} (h : RAt w base p n L v) {g a c : Nat} (hv : v = .slice (some ⟨g, 0, none⟩) a c) : IsT TR w g ∧ base ≤ g := by
  refine ⟨?_, (World.ownsRow.lt h.row g (by rw [hv]; rfl)).1⟩
  rcases h.row.2 with ⟨h1, _⟩ | ⟨b, cap, cur, h1, _, h3, _⟩
  · rw [hv] at h1; cases h1
  · rw [hv] at h1
    injection h1 with e
    injection e with e
    injection e with e
    subst e
    exact ⟨_, _, _, h3, rfl⟩
theorem RAt.tn {T : TypeId → Bool} {b0 : Nat} {w w' : World} {base p : Nat} {n : Nat → Nat} {L : List RQ} {v : Value} (h : RAt w base p n L v) (ht : Tn T b0 w w') (hT : ∀ t, TR t = true → T t = false) : RAt w' base p n L v := by
  refine ⟨ht.other h.arena (hT _ rfl), ?_, fun x hx => ⟨ht.other (h.mem x hx).1 (hT _ rfl), (h.mem x hx).2⟩, h.apart, h.nodup, h.out⟩
  have hr := h.row
  refine ⟨hr.1, ?_⟩
  rcases hr.2 with ⟨h1, h2⟩ | ⟨g, cap, cur, h1, h2, h3, h4⟩
  · exact .inl ⟨h1, h2⟩
  · exact .inr ⟨g, cap, cur, h1, h2, ht.other h3 (hT _ rfl), h4⟩
theorem RRel.tn {T : TypeId → Bool} {b0 : Nat} {w w' : World} {base p : Nat} {n : Nat → Nat} {A : Ar} {G : Nat} (h : RRel w base p n A G) (ht : Tn T b0 w w') (hT : ∀ t, TR t = true → T t = false) : RRel w' base p n A G := by
  obtain ⟨L, v, h1, h2⟩ := h.it
  exact ⟨⟨L, v, h1.tn ht hT, h2⟩, h.small⟩
/-- What a handle is to both. -/
theorem right_rel {A : Ar} {n : Nat → Nat} {L : List RQ} (h : RelR A n (rbs L)) (c i g : Int) :
    (rightA A (c, i, g) = none ∧ rightI c i g L = -1) ∨
    ∃ b, ∃ hk : findR c i (rbs L) < L.length, rightA A (c, i, g) = some b ∧ rightI c i g L = findR c i (rbs L) ∧ L[findR c i (rbs L)].1.held = b.held ∧ L[findR c i (rbs L)].1.gen = b.gen ∧ L[findR c i (rbs L)].1.mem = b.mem ∧
      b.held ≠ 0 ∧ (b.gen : Int) = g ∧ 0 ≤ c ∧ c < 4 ∧ 0 ≤ i ∧ (A c.toNat)[i.toNat]? = some b := by
  rcases h.right c i g with ⟨h1, h2⟩ | ⟨b, r, h1, h2, h3, h4, h5, h6⟩
  · left
    refine ⟨h1, ?_⟩
    unfold rightI
    split
    · rename_i hlt
      have hr : (rbs L)[findR c i (rbs L)]? = some L[findR c i (rbs L)].1 := by
        rw [List.getElem?_eq_getElem (by rw [rbs_length]; exact hlt), rbs_at L _ hlt]
      rw [if_pos (h2 _ hr)]
    · rfl
  · right
    obtain ⟨hlr, e⟩ := List.getElem?_eq_some_iff.1 h2
    have hlt : findR c i (rbs L) < L.length := by rw [← rbs_length]; exact hlr
    rw [rbs_at L _ hlt] at e
    refine ⟨b, hlt, h1, ?_, by rw [e]; exact h3, by rw [e]; exact h4, by rw [e]; exact h5, h6⟩
    unfold rightI
    rw [dif_pos hlt, if_neg (by rw [e]; rintro (q | q); exact h6.1 (by omega); exact q (by omega))]
set_option maxHeartbeats 4000000 in
theorem sizes_any (c : Int) (w : World) : Calls Try.prog 38 #[.int .i64 c] w fun e w' => e = .returned (.int .i64 (sizesI c)) ∧ Below w.heap.size w w' := by
  have HB := Lib.hid ((Below.refl w.heap.size w).alloc (Nat.le_refl _) (.cells #[.int .i64 64, .int .i64 256, .int .i64 1024, .int .i64 4096] 3))
  by_cases hc : 0 ≤ c ∧ c ≤ 3
  · rcases (by omega : c = 0 ∨ c = 1 ∨ c = 2 ∨ c = 3) with rfl | rfl | rfl | rfl
    all_goals
      go_enter Try.func38, Try.ntmps38
      go_wp2_with fail
      go_ret
      exact ⟨rfl, HB.out⟩
  · have HV := Lib.hid (show sizesI c = 0 from by unfold sizesI; rw [if_neg hc])
    rcases (by omega : c < 0 ∨ 3 < c) with hc | hc
    all_goals
      go_enter Try.func38, Try.ntmps38
      go_wp2_with fail
      go_ret
      exact ⟨by rw [HV.out]; rfl, Below.refl _ _⟩
end Go.Proofs.Ytbpadliiekhkjaa.Sl
/-
  The program's arena as the model has it: an object of eight cells, a row of blocks for each class, each block's bytes in a block of memory of its own. No condition.
-/
namespace Go.Proofs.Ytbpadliiekhkjaa.Sl
open Go.RowKit Go.Proofs.Ytbpadliiekhkjaa.Fd
set_option maxRecDepth 100000
set_option linter.unusedVariables false
set_option linter.unusedSimpArgs false

/-- Where a block's bytes lie. -/
abbrev Mp := Nat → Nat → Option Nat
def bytV (c : Nat) : Option Nat → Value
  | none => .slice none 0 0
  | some q => .slice (some ⟨q, 0, none⟩) (sizeC c) (sizeC c)
def ownI (x g : Nat) : Int := if g = 0 then 0 else (x : Int)
def cellsP (c i : Nat) (b : Blk) (q : Option Nat) : List Value := [.int .i64 (ownI c b.gen), .int .i64 (ownI i b.gen), .int .i64 (b.gen : Int), .int .i64 (b.held : Int), bytV c q]
structure RowP (cur : Array Value) (c : Nat) (q : Nat → Option Nat) (l : List Blk) : Prop where
  size : cur.size = l.length * 5
  is : ∀ (j : Nat) (b : Blk), l[j]? = some b → ∀ t, t < 5 → cur[j * 5 + t]? = (cellsP c j b (q j))[t]?
def u8V (m : Tk.Bs) : Array Value := (m.map fun b => Value.int .u8 (b.toNat : Int)).toArray
theorem u8V_size (m : Tk.Bs) : (u8V m).size = m.length := by simp [u8V]
def rowV (gs n : Nat → Nat) (c : Nat) : Value := .slice (some ⟨gs c, 0, none⟩) (n c) (n c)
def arenaV (gs n : Nat → Nat) : Array Value := #[.int .i64 64, rowV gs n 0, .int .i64 256, rowV gs n 1, .int .i64 1024, rowV gs n 2, .int .i64 4096, rowV gs n 3]
structure PAt (w : World) (base p : Nat) (n gs : Nat → Nat) (Q : Mp) (M : Nat → Nat → Tk.Bs) (A : Ar) : Prop where
  arena : w.heap[p]? = some (.cells (arenaV gs n) 66 (0, 0))
  row : ∀ c, c < 4 → ∃ cur, w.heap[gs c]? = some (.cells cur 92 (0, 0)) ∧ RowP cur c (Q c) (A c)
  len : ∀ c, c < 4 → (A c).length = n c
  mem : ∀ c i q, Q c i = some q → w.heap[q]? = some (.cells (u8V (M c i)) 5 (0, 0)) ∧ (M c i).length = sizeC c
  apP : base ≤ p
  apG : ∀ c, c < 4 → base ≤ gs c ∧ gs c ≠ p
  apGG : ∀ c d, c < 4 → d < 4 → gs c = gs d → c = d
  apQ : ∀ c i q, Q c i = some q → c < 4 ∧ base ≤ q ∧ q ≠ p ∧ ∀ d, d < 4 → q ≠ gs d
  apQQ : ∀ c i d j q, Q c i = some q → Q d j = some q → c = d ∧ i = j
theorem PAt.lt {w : World} {base p : Nat} {n gs : Nat → Nat} {Q : Mp} {M : Nat → Nat → Tk.Bs} {A : Ar} (h : PAt w base p n gs Q M A) : p < w.heap.size := block_lt h.arena
theorem PAt.ltG {w : World} {base p : Nat} {n gs : Nat → Nat} {Q : Mp} {M : Nat → Nat → Tk.Bs} {A : Ar} (h : PAt w base p n gs Q M A) {c : Nat} (hc : c < 4) : gs c < w.heap.size := by
  obtain ⟨cur, h1, _⟩ := h.row c hc
  exact block_lt h1
theorem PAt.ltQ {w : World} {base p : Nat} {n gs : Nat → Nat} {Q : Mp} {M : Nat → Nat → Tk.Bs} {A : Ar} (h : PAt w base p n gs Q M A) {c i q : Nat} (hq : Q c i = some q) : q < w.heap.size := block_lt (h.mem c i q hq).1
theorem PAt.same {w w' : World} {base p : Nat} {n gs : Nat → Nat} {Q : Mp} {M : Nat → Nat → Tk.Bs} {A : Ar} (h : PAt w base p n gs Q M A) (hb : Below w.heap.size w w') : PAt w' base p n gs Q M A := by
  refine ⟨Bl.old hb h.lt h.arena, fun c hc => ?_, h.len, fun c i q hq => ⟨Bl.old hb (h.ltQ hq) (h.mem c i q hq).1, (h.mem c i q hq).2⟩, h.apP, h.apG, h.apGG, h.apQ, h.apQQ⟩
  obtain ⟨cur, h1, h2⟩ := h.row c hc
  exact ⟨cur, Bl.old hb (block_lt h1) h1, h2⟩
/-- The arena's eight cells. -/
theorem PAt.size {w : World} {base p : Nat} {n gs : Nat → Nat} {Q : Mp} {M : Nat → Nat → Tk.Bs} {A : Ar} (h : PAt w base p n gs Q M A) {c : Nat} (hc : c < 4) : w.cell? ⟨p, c * 2, none⟩ = some (.int .i64 (sizeC c : Int)) := by
  rw [Lib.cell_of_heap h.arena]
  rcases (by omega : c = 0 ∨ c = 1 ∨ c = 2 ∨ c = 3) with rfl | rfl | rfl | rfl <;> rfl
theorem PAt.blocks {w : World} {base p : Nat} {n gs : Nat → Nat} {Q : Mp} {M : Nat → Nat → Tk.Bs} {A : Ar} (h : PAt w base p n gs Q M A) {c : Nat} (hc : c < 4) : w.cell? ⟨p, c * 2 + 1, none⟩ = some (rowV gs n c) := by
  rw [Lib.cell_of_heap h.arena]
  rcases (by omega : c = 0 ∨ c = 1 ∨ c = 2 ∨ c = 3) with rfl | rfl | rfl | rfl <;> rfl
/-- The cells of a block. -/
theorem PAt.cell {w : World} {base p : Nat} {n gs : Nat → Nat} {Q : Mp} {M : Nat → Nat → Tk.Bs} {A : Ar} (h : PAt w base p n gs Q M A) {c i : Nat} {b : Blk} (hc : c < 4) (hb : (A c)[i]? = some b) {t : Nat} (ht : t < 5) :
    w.cell? ⟨gs c, i * 5 + t, none⟩ = (cellsP c i b (Q c i))[t]? ∧ w.frozen? ⟨gs c, i * 5 + t, none⟩ = false := by
  obtain ⟨cur, h1, h2⟩ := h.row c hc
  refine ⟨?_, free h1 _⟩
  rw [Lib.cell_of_heap h1]
  exact h2.is i b hb t ht
/-- A class's row is changed. -/
theorem PAt.put {w w' : World} {base p : Nat} {n gs : Nat → Nat} {Q : Mp} {M : Nat → Nat → Tk.Bs} {A : Ar} (h : PAt w base p n gs Q M A) {c : Nat} (hc : c < 4) {cur : Array Value} {l : List Blk}
    (h1 : w'.heap[gs c]? = some (.cells cur 92 (0, 0))) (h2 : RowP cur c (Q c) l) (hl : l.length = (A c).length) (hk : ∀ b, b ≠ gs c → w'.heap[b]? = w.heap[b]?) : PAt w' base p n gs Q M (upd A c l) := by
  refine ⟨by rw [hk p (Ne.symm (h.apG c hc).2)]; exact h.arena, fun d hd => ?_, fun d hd => ?_, fun d i q hq => ⟨by rw [hk q ((h.apQ d i q hq).2.2.2 c hc)]; exact (h.mem d i q hq).1, (h.mem d i q hq).2⟩, h.apP, h.apG, h.apGG, h.apQ, h.apQQ⟩
  · by_cases e : d = c
    · subst e; rw [upd_same]; exact ⟨cur, h1, h2⟩
    · rw [upd_other _ _ e]
      obtain ⟨cu, h3, h4⟩ := h.row d hd
      exact ⟨cu, by rw [hk _ (fun q => e (h.apGG _ _ hd hc q))]; exact h3, h4⟩
  · by_cases e : d = c
    · subst e; rw [upd_same, hl]; exact h.len d hd
    · rw [upd_other _ _ e]; exact h.len d hd
theorem cellsP_len (c i : Nat) (b : Blk) (q : Option Nat) : (cellsP c i b q).length = 5 := rfl
/-- One cell of a block is set. -/
theorem RowP.set {cur : Array Value} {c : Nat} {q : Nat → Option Nat} {l : List Blk} (h : RowP cur c q l) {i t : Nat} {b b' : Blk} {u : Value} (hb : l[i]? = some b) (ht : t < 5) (hu : cellsP c i b' (q i) = (cellsP c i b (q i)).set t u) :
    RowP (cur.setIfInBounds (i * 5 + t) u) c q (l.set i b') := by
  obtain ⟨hi, _⟩ := List.getElem?_eq_some_iff.1 hb
  refine ⟨by rw [Array.size_setIfInBounds, List.length_set]; exact h.size, fun j x hx s hs => ?_⟩
  rw [Array.getElem?_setIfInBounds]
  by_cases hj : i = j
  · subst hj
    rw [List.getElem?_set_self hi] at hx
    injection hx with hx
    subst hx
    rw [hu]
    by_cases hst : t = s
    · subst hst
      rw [if_pos rfl, if_pos (by rw [h.size]; omega), List.getElem?_set_self (by rw [cellsP_len]; exact ht)]
    · rw [if_neg (by omega), List.getElem?_set_ne hst]
      exact h.is i b hb s hs
  · rw [List.getElem?_set_ne hj] at hx
    rw [if_neg (by omega)]
    exact h.is j x hx s hs
theorem set_heap {w : World} {g j : Nat} {u : Value} {b : Nat} (hb : b ≠ g) : (w.setCell ⟨g, j, none⟩ u).heap[b]? = w.heap[b]? := by simp [World.setCell, Array.getElem?_modify, Ne.symm hb]
/-- One number of a block is stored. -/
theorem PAt.store {w : World} {base p : Nat} {n gs : Nat → Nat} {Q : Mp} {M : Nat → Nat → Tk.Bs} {A : Ar} (h : PAt w base p n gs Q M A) {c i t : Nat} {b b' : Blk} {u : Value} (hc : c < 4) (hb : (A c)[i]? = some b) (ht : t < 5)
    (hu : cellsP c i b' (Q c i) = (cellsP c i b (Q c i)).set t u) : PAt (w.setCell ⟨gs c, i * 5 + t, none⟩ u) base p n gs Q M (upd A c ((A c).set i b')) := by
  obtain ⟨cur, h1, h2⟩ := h.row c hc
  exact h.put hc (heap_put h1 _ _) (h2.set hb ht hu) (by simp) (fun k hk => set_heap hk)
/-- The generation is told: three numbers. -/
theorem RowP.own {cur : Array Value} {c : Nat} {q : Nat → Option Nat} {l : List Blk} (h : RowP cur c q l) {i : Nat} {b b' : Blk} (hb : l[i]? = some b) (hh : b'.held = b.held) (hg : b'.gen ≠ 0) :
    RowP (((cur.setIfInBounds (i * 5) (.int .i64 (c : Int))).setIfInBounds (i * 5 + 1) (.int .i64 (i : Int))).setIfInBounds (i * 5 + 2) (.int .i64 (b'.gen : Int))) c q (l.set i b') := by
  obtain ⟨hi, _⟩ := List.getElem?_eq_some_iff.1 hb
  have e1 : ownI c b'.gen = (c : Int) := by unfold ownI; rw [if_neg hg]
  have e2 : ownI i b'.gen = (i : Int) := by unfold ownI; rw [if_neg hg]
  refine ⟨by rw [Array.size_setIfInBounds, Array.size_setIfInBounds, Array.size_setIfInBounds, List.length_set]; exact h.size, fun j x hx s hs => ?_⟩
  have hsz := h.size
  simp only [Array.getElem?_setIfInBounds, Array.size_setIfInBounds]
  by_cases hj : i = j
  · subst hj
    rw [List.getElem?_set_self hi] at hx
    injection hx with hx
    subst hx
    have h0 := h.is i b hb s hs
    rcases (by omega : s = 0 ∨ s = 1 ∨ s = 2 ∨ s = 3 ∨ s = 4) with rfl | rfl | rfl | rfl | rfl
    · rw [if_neg (by omega), if_neg (by omega), if_pos (by omega), if_pos (by omega)]
      show _ = some (Value.int .i64 (ownI c b'.gen)); rw [e1]
    · rw [if_neg (by omega), if_pos (by omega), if_pos (by omega)]
      show _ = some (Value.int .i64 (ownI i b'.gen)); rw [e2]
    · rw [if_pos (by omega), if_pos (by omega)]; rfl
    · rw [if_neg (by omega), if_neg (by omega), if_neg (by omega), h0]
      show some (Value.int .i64 (b.held : Int)) = some (Value.int .i64 (b'.held : Int)); rw [hh]
    · rw [if_neg (by omega), if_neg (by omega), if_neg (by omega), h0]; rfl
  · rw [List.getElem?_set_ne hj] at hx
    rw [if_neg (by omega), if_neg (by omega), if_neg (by omega)]
    exact h.is j x hx s hs
theorem PAt.own {w : World} {base p : Nat} {n gs : Nat → Nat} {Q : Mp} {M : Nat → Nat → Tk.Bs} {A : Ar} (h : PAt w base p n gs Q M A) {c i : Nat} {b b' : Blk} (hc : c < 4) (hb : (A c)[i]? = some b) (hh : b'.held = b.held) (hg : b'.gen ≠ 0) :
    PAt (((w.setCell ⟨gs c, i * 5, none⟩ (.int .i64 (c : Int))).setCell ⟨gs c, i * 5 + 1, none⟩ (.int .i64 (i : Int))).setCell ⟨gs c, i * 5 + 2, none⟩ (.int .i64 (b'.gen : Int))) base p n gs Q M (upd A c ((A c).set i b')) := by
  obtain ⟨cur, h1, h2⟩ := h.row c hc
  exact h.put hc (heap_put (heap_put (heap_put h1 _ _) _ _) _ _) (h2.own hb hh hg) (by simp) (fun k hk => by rw [set_heap hk, set_heap hk, set_heap hk])
def updQ (Q : Mp) (c i q : Nat) : Mp := fun d j => if d = c ∧ j = i then some q else Q d j
def updM (M : Nat → Nat → Tk.Bs) (c i : Nat) (m : Tk.Bs) : Nat → Nat → Tk.Bs := fun d j => if d = c ∧ j = i then m else M d j
theorem updM_same (M : Nat → Nat → Tk.Bs) (c i : Nat) (m : Tk.Bs) : updM M c i m c i = m := by unfold updM; rw [if_pos ⟨rfl, rfl⟩]
theorem updM_other (M : Nat → Nat → Tk.Bs) {c i d j : Nat} (m : Tk.Bs) (h : ¬ (d = c ∧ j = i)) : updM M c i m d j = M d j := by unfold updM; rw [if_neg h]
theorem updQ_same (Q : Mp) (c i q : Nat) : updQ Q c i q c i = some q := by unfold updQ; rw [if_pos ⟨rfl, rfl⟩]
theorem updQ_other (Q : Mp) {c i d j : Nat} (q : Nat) (h : ¬ (d = c ∧ j = i)) : updQ Q c i q d j = Q d j := by unfold updQ; rw [if_neg h]
/-- A block's bytes are changed. -/
theorem PAt.bytes {w w' : World} {base p : Nat} {n gs : Nat → Nat} {Q : Mp} {M : Nat → Nat → Tk.Bs} {A : Ar} (h : PAt w base p n gs Q M A) {c i q : Nat} {m : Tk.Bs} (hq : Q c i = some q)
    (h1 : w'.heap[q]? = some (.cells (u8V m) 5 (0, 0))) (hm : m.length = sizeC c) (hk : ∀ b, b ≠ q → w'.heap[b]? = w.heap[b]?) : PAt w' base p n gs Q (updM M c i m) A := by
  obtain ⟨_, _, q3, q4⟩ := h.apQ c i q hq
  refine ⟨by rw [hk p (Ne.symm q3)]; exact h.arena, fun d hd => ?_, h.len, fun d j r hr => ?_, h.apP, h.apG, h.apGG, h.apQ, h.apQQ⟩
  · obtain ⟨cur, h3, h4⟩ := h.row d hd
    exact ⟨cur, by rw [hk _ (Ne.symm (q4 d hd))]; exact h3, h4⟩
  · by_cases e : d = c ∧ j = i
    · obtain ⟨rfl, rfl⟩ := e
      rw [hq] at hr
      injection hr with hr
      subst hr
      rw [updM_same]; exact ⟨h1, hm⟩
    · rw [updM_other _ _ e, hk r (fun q2 => e (h.apQQ d j c i q (by rw [← q2]; exact hr) hq))]
      exact h.mem d j r hr
/-- A block gets memory. -/
theorem PAt.give {w : World} {base p : Nat} {n gs : Nat → Nat} {Q : Mp} {M : Nat → Nat → Tk.Bs} {A : Ar} (h : PAt w base p n gs Q M A) {c i q : Nat} {m : Tk.Bs} {b : Blk} (hc : c < 4) (hb : (A c)[i]? = some b) (hq : Q c i = none)
    (h1 : w.heap[q]? = some (.cells (u8V m) 5 (0, 0))) (hm : m.length = sizeC c) (n1 : base ≤ q) (n2 : q ≠ p) (n3 : ∀ d, d < 4 → q ≠ gs d) (n4 : ∀ d j, Q d j ≠ some q) :
    PAt (w.setCell ⟨gs c, i * 5 + 4, none⟩ (.slice (some ⟨q, 0, none⟩) (sizeC c) (sizeC c))) base p n gs (updQ Q c i q) (updM M c i m) A := by
  obtain ⟨cur, h2, h3⟩ := h.row c hc
  obtain ⟨hi, hbi⟩ := List.getElem?_eq_some_iff.1 hb
  have hne : ∀ k, k ≠ gs c → (w.setCell ⟨gs c, i * 5 + 4, none⟩ (.slice (some ⟨q, 0, none⟩) (sizeC c) (sizeC c))).heap[k]? = w.heap[k]? := fun k hk => set_heap hk
  refine ⟨by rw [hne p (Ne.symm (h.apG c hc).2)]; exact h.arena, fun d hd => ?_, h.len, fun d j r hr => ?_, h.apP, h.apG, h.apGG, fun d j r hr => ?_, fun d j e k r hr hs => ?_⟩
  · by_cases e : d = c
    · subst e
      refine ⟨_, heap_put h2 _ _, ⟨by rw [Array.size_setIfInBounds]; exact h3.size, fun j x hx s hs => ?_⟩⟩
      rw [Array.getElem?_setIfInBounds]
      by_cases hj : i = j
      · subst hj
        rw [updQ_same]
        have h0 := h3.is i x hx s hs
        rcases (by omega : s = 0 ∨ s = 1 ∨ s = 2 ∨ s = 3 ∨ s = 4) with rfl | rfl | rfl | rfl | rfl
        iterate 4 (rw [if_neg (by omega), h0]; rfl)
        rw [if_pos rfl, if_pos (by rw [h3.size]; omega)]; rfl
      · rw [if_neg (by omega), updQ_other _ _ (fun q => hj q.2.symm)]
        exact h3.is j x hx s hs
    · obtain ⟨cu, h4, h5⟩ := h.row d hd
      refine ⟨cu, by rw [hne _ (fun q => e (h.apGG _ _ hd hc q))]; exact h4, h5.size, fun j x hx s hs => ?_⟩
      rw [updQ_other _ _ (fun q => e q.1)]
      exact h5.is j x hx s hs
  · by_cases e : d = c ∧ j = i
    · obtain ⟨rfl, rfl⟩ := e
      rw [updQ_same] at hr
      injection hr with hr
      subst hr
      rw [updM_same, hne q (n3 d hc)]; exact ⟨h1, hm⟩
    · rw [updQ_other _ _ e] at hr
      rw [updM_other _ _ e, hne r ((h.apQ d j r hr).2.2.2 c hc)]
      exact h.mem d j r hr
  · by_cases e : d = c ∧ j = i
    · obtain ⟨rfl, rfl⟩ := e
      rw [updQ_same] at hr
      injection hr with hr
      subst hr
      exact ⟨hc, n1, n2, n3⟩
    · rw [updQ_other _ _ e] at hr
      exact h.apQ d j r hr
  · by_cases e1 : d = c ∧ j = i
    · obtain ⟨rfl, rfl⟩ := e1
      rw [updQ_same] at hr
      injection hr with hr
      subst hr
      by_cases e2 : e = d ∧ k = j
      · exact ⟨e2.1.symm, e2.2.symm⟩
      · rw [updQ_other _ _ e2] at hs
        exact absurd hs (n4 e k)
    · rw [updQ_other _ _ e1] at hr
      by_cases e2 : e = c ∧ k = i
      · obtain ⟨rfl, rfl⟩ := e2
        rw [updQ_same] at hs
        injection hs with hs
        subst hs
        exact absurd hr (n4 d j)
      · rw [updQ_other _ _ e2] at hs
        exact h.apQQ d j e k r hr hs
end Go.Proofs.Ytbpadliiekhkjaa.Sl
/-
  The program's made, isClass, sizes, Sizes, and its closures of Alloc: what each returns. No condition.
-/
namespace Go.Proofs.Ytbpadliiekhkjaa.Sl
open Go.RowKit Go.Proofs.Ytbpadliiekhkjaa.Fd
set_option maxRecDepth 100000
set_option linter.unusedVariables false
set_option linter.unusedSimpArgs false

theorem made_yes (p : Nat) (w : World) (h : w.cell? ⟨p, 0, none⟩ = some (.int .i64 64)) : Calls Try.prog 43 #[.pointer (some ⟨p, 0, none⟩)] w fun e w' => e = .returned (.bool true) ∧ w = w' := by
  go_enter Try.func43, Try.ntmps43
  go_wp2_with fail
  go_ret
  exact ⟨rfl, rfl⟩
theorem made_zero (p : Nat) (w : World) (h : w.cell? ⟨p, 0, none⟩ = some (.int .i64 0)) : Calls Try.prog 43 #[.pointer (some ⟨p, 0, none⟩)] w fun e w' => e = .returned (.bool false) ∧ w = w' := by
  go_enter Try.func43, Try.ntmps43
  go_wp2_with fail
  go_ret
  exact ⟨rfl, rfl⟩
theorem made_nil (w : World) : Calls Try.prog 43 #[.pointer none] w fun e w' => e = .returned (.bool false) ∧ w = w' := by
  go_enter Try.func43, Try.ntmps43
  go_wp2_with fail
  go_ret
  exact ⟨rfl, rfl⟩
def inB (c : Int) : Bool := decide (0 ≤ c ∧ c ≤ 3)
theorem isClass_any (c : Int) (w : World) : Calls Try.prog 44 #[.int .i64 c] w fun e w' => e = .returned (.bool (inB c)) ∧ w = w' := by
  by_cases h1 : 0 ≤ c
  · by_cases h2 : c < 4
    · have HR := Lib.hid (show inB c = true from by simp [inB]; omega)
      go_enter Try.func44, Try.ntmps44
      go_wp2_with fail
      go_ret
      exact ⟨by rw [HR.out]; rfl, rfl⟩
    · have HR := Lib.hid (show inB c = false from by simp [inB]; omega)
      go_enter Try.func44, Try.ntmps44
      go_wp2_with fail
      go_ret
      exact ⟨by rw [HR.out]; rfl, rfl⟩
  · have HR := Lib.hid (show inB c = false from by simp [inB]; omega)
    go_enter Try.func44, Try.ntmps44
    go_wp2_with fail
    go_ret
    exact ⟨by rw [HR.out]; rfl, rfl⟩
def sizesV : Value := .agg #[.int .i64 64, .int .i64 256, .int .i64 1024, .int .i64 4096]
theorem infoArr : (Try.prog.info? 22).map (·.size) = some 4 := by kernel_rfl
theorem sizesV_any (w : World) : Calls Try.prog 29 #[] w fun e w' => e = .returned sizesV ∧ Below w.heap.size w w' := by
  go_enter Try.func29, Try.ntmps29
  go_wp2_with fail
  exact bodyPost_ret (results_one rfl _ _ w.heap.size 22 _ (0, 0) _ rfl (new_block w _) Try.underlying22 rfl infoArr) rfl ⟨rfl, (Below.refl _ _).alloc (Nat.le_refl _) _⟩
theorem idx0 (w : World) : (Instr.index 22 (.agg #[.int .i64 64, .int .i64 256, .int .i64 1024, .int .i64 4096]) (.int .i64 0)).run Try.prog w = .ok (.int .i64 64) w := by kernel_rfl
theorem idx1 (w : World) : (Instr.index 22 (.agg #[.int .i64 64, .int .i64 256, .int .i64 1024, .int .i64 4096]) (.int .i64 1)).run Try.prog w = .ok (.int .i64 256) w := by kernel_rfl
theorem idx2 (w : World) : (Instr.index 22 (.agg #[.int .i64 64, .int .i64 256, .int .i64 1024, .int .i64 4096]) (.int .i64 2)).run Try.prog w = .ok (.int .i64 1024) w := by kernel_rfl
theorem idx3 (w : World) : (Instr.index 22 (.agg #[.int .i64 64, .int .i64 256, .int .i64 1024, .int .i64 4096]) (.int .i64 3)).run Try.prog w = .ok (.int .i64 4096) w := by kernel_rfl
theorem sizesP_any (c : Int) (w : World) : Calls Try.prog 25 #[.int .i64 c] w fun e w' => e = .returned (.int .i64 (sizesI c)) ∧ Below w.heap.size w w' := by
  by_cases hc : 0 ≤ c ∧ c ≤ 3
  · have HI := Lib.hid (show inB c = true from by unfold inB; rw [decide_eq_true hc])
    rcases (by omega : c = 0 ∨ c = 1 ∨ c = 2 ∨ c = 3) with rfl | rfl | rfl | rfl
    all_goals
      go_enter Try.func25, Try.ntmps25
      go_wp2_with fail
      refine (isClass_any _ _).mono ?_
      rintro e w1 ⟨rfl, rfl⟩
      rw [HI.out]
      go_wp2_with fail
      refine (sizesV_any _).mono ?_
      rintro e w1 ⟨rfl, hb⟩
      unfold sizesV
      have x0 := idx0
      have x1 := idx1
      have x2 := idx2
      have x3 := idx3
      go_wp2_with fail
      go_ret
      exact ⟨rfl, hb⟩
  · have HI := Lib.hid (show inB c = false from by unfold inB; rw [decide_eq_false hc])
    have HV := Lib.hid (show sizesI c = 0 from by unfold sizesI; rw [if_neg hc])
    go_enter Try.func25, Try.ntmps25
    go_wp2_with fail
    refine (isClass_any _ _).mono ?_
    rintro e w1 ⟨rfl, rfl⟩
    rw [HI.out]
    go_wp2_with fail
    go_ret
    exact ⟨by rw [HV.out]; rfl, Below.refl _ _⟩
/-- The search's closures. -/
theorem free_any (x y z v : Value) (h : Int) (w : World) : Calls Try.prog 48 #[.agg #[x, y, z, .int .i64 h, v]] w fun e w' => e = .returned (.bool (h == 0)) ∧ Below w.heap.size w w' := by
  have HB := Lib.hid ((Below.refl w.heap.size w).alloc (Nat.le_refl _) (.cells #[x, y, z, .int .i64 h, v] 92))
  go_enter Try.func48, Try.ntmps48
  go_wp2_with fail
  go_ret
  exact ⟨rfl, HB.out⟩
theorem fitc_any (g : Nat) (n s : Int) (v : Value) (w : World) (hl : g < w.heap.size) (hg : w.cell? ⟨g, 0, none⟩ = some (.int .i64 n)) : Calls Try.prog 46 #[.agg #[.int .i64 s, v], .pointer (some ⟨g, 0, none⟩)] w fun e w' => e = .returned (.bool (decide (n ≤ s))) ∧ Below w.heap.size w w' := by
  have hB := (Below.refl w.heap.size w).alloc (Nat.le_refl _) (.cells #[.int .i64 s, v] 63)
  have hg2 := (hB.cell (p := ⟨g, 0, none⟩) hl).trans hg
  have HB := Lib.hid hB
  clear hB
  by_cases h : n ≤ s
  · have HR := Lib.hid (decide_eq_true h)
    go_enter Try.func46, Try.ntmps46
    go_wp2_with fail
    go_ret
    exact ⟨by rw [HR.out]; rfl, HB.out⟩
  · have HR := Lib.hid (decide_eq_false h)
    go_enter Try.func46, Try.ntmps46
    go_wp2_with fail
    go_ret
    exact ⟨by rw [HR.out]; rfl, HB.out⟩
end Go.Proofs.Ytbpadliiekhkjaa.Sl
