/-
  Texts that the laws' proofs stand on, 3 of them in one file; each one's head says what it proves and under which condition.
-/
import Derived.Test.YtbpadliiekhkjaaCHNP6
import Derived.Test.YtbpadliiekhkjaaRows
import Derived.Orders
import Derived.WalkKit
import Derived.Deep.RegionHeld3
/-
  The program's searches in Alloc: what each returns. Condition: rows of at most 4096 blocks.
-/
namespace Go.Proofs.Ytbpadliiekhkjaa.Sl
open Go.RowKit Go.Proofs.Ytbpadliiekhkjaa.Fd
set_option maxRecDepth 100000
set_option linter.unusedVariables false
set_option linter.unusedSimpArgs false

theorem freeAt_step : ∀ (l : List Blk) (k : Nat), k ≤ freeAt l → ∀ h : k < l.length, l[k].held ≠ 0 → k + 1 ≤ freeAt l
  | [], k, _, h, _ => absurd h (by simp)
  | r :: l, 0, _, _, hc => by
    have hc : r.held ≠ 0 := hc
    unfold freeAt; rw [if_neg hc]; omega
  | r :: l, k + 1, h0, h, hc => by
    unfold freeAt at h0 ⊢
    split at h0
    · omega
    · rename_i hd
      rw [if_neg hd]
      have := freeAt_step l k (by omega) (by simpa using h) hc
      omega
theorem freeAt_here (l : List Blk) (k : Nat) (hk : k ≤ freeAt l) (h : k < l.length) (h0 : l[k].held = 0) : freeAt l = k := by
  rcases Nat.lt_or_ge k (freeAt l) with h1 | h1
  · exact absurd h0 (freeAt_below l k h1)
  · omega
/-- The first free place, or -1. -/
def freeI (l : List Blk) : Int := if freeAt l < l.length then freeAt l else -1
def cloF : Value := .func (.func 48) #[] #[]
set_option maxHeartbeats 4000000 in
theorem firstB_any (g c : Nat) (q : Nat → Option Nat) (l : List Blk) (cur : Array Value) (w : World) (hg : w.heap[g]? = some (.cells cur 92 (0, 0))) (hr : RowP cur c q l) (hl : l.length ≤ 4096) :
    Calls Try.prog 47 #[.slice (some ⟨g, 0, none⟩) l.length l.length, .func (.func 48) #[] #[]] w fun e w' => e = .returned (.int .i64 (freeI l)) ∧ Below w.heap.size w w' := by
  have hgl := block_lt hg
  have HC := Lib.hid (show ∀ j b, l[j]? = some b → ∀ t, t < 5 → w.cell? ⟨g, j * 5 + t, none⟩ = (cellsP c j b (q j))[t]? from fun j b hb t ht => by rw [Lib.cell_of_heap hg]; exact hr.is j b hb t ht)
  clear hr hg
  go_enter Try.func47, Try.ntmps47
  go_wp2_with fail
  go_loopw [9] (fun j wr => ∃ k : Nat, k ≤ l.length ∧ j = .int .i64 (k : Int) ∧ k ≤ freeAt l ∧ Below w.heap.size w wr) (fun j _ => l.length - (intOf j).toNat)
  case atStart => exact ⟨0, Nat.zero_le _, rfl, Nat.zero_le _, Below.refl _ _⟩
  case round =>
    obtain ⟨k, hk, rfl, hf, hB⟩ := hrel
    by_cases hlt : k < l.length
    · obtain ⟨b, hb⟩ : ∃ b, l[k] = b := ⟨_, rfl⟩
      have hb2 : l[k]? = some b := by rw [List.getElem?_eq_getElem hlt, hb]
      have hd := fun t ht => (hB.cell (p := ⟨g, k * 5 + t, none⟩) hgl).trans (HC.out k b hb2 t ht)
      have d0 := hd 0 (by decide)
      have d1 := hd 1 (by decide)
      have d2 := hd 2 (by decide)
      have d3 := hd 3 (by decide)
      have d4 := hd 4 (by decide)
      replace d0 : wr.cell? ⟨g, k * 5, none⟩ = some (.int .i64 (ownI c b.gen)) := d0
      replace d1 : wr.cell? ⟨g, k * 5 + 1, none⟩ = some (.int .i64 (ownI k b.gen)) := d1
      replace d2 : wr.cell? ⟨g, k * 5 + 2, none⟩ = some (.int .i64 (b.gen : Int)) := d2
      replace d3 : wr.cell? ⟨g, k * 5 + 3, none⟩ = some (.int .i64 (b.held : Int)) := d3
      replace d4 : wr.cell? ⟨g, k * 5 + 4, none⟩ = some (bytV c (q k)) := d4
      clear hd
      generalize ownI c b.gen = x0 at d0
      generalize ownI k b.gen = x1 at d1
      obtain ⟨a4, n4, hv4⟩ : ∃ a n, bytV c (q k) = .slice a n n := by
        cases q k with
        | none => exact ⟨_, _, rfl⟩
        | some z => exact ⟨_, _, rfl⟩
      rw [hv4] at d4
      clear hv4
      have HBn := Lib.hid (hB.alloc hB.size (.cells #[.int .i64 x0, .int .i64 x1, .int .i64 (b.gen : Int), .int .i64 (b.held : Int), .slice a4 n4 n4] 92))
      have hkl : k < l.length := hlt
      by_cases h0 : b.held = 0
      · have hi := freeAt_here l k hf hlt (by rw [hb]; exact h0)
        have HP := Lib.hid (show freeI l = (k : Int) from by unfold freeI; rw [hi, if_pos hlt])
        have HT := Lib.hid (show ((b.held : Int) == 0) = true from by rw [h0]; rfl)
        clear h0 hi hf hb hb2
        go_wp2_with fail
        refine (free_any _ _ _ _ _ _).mono ?_
        rintro e w2 ⟨rfl, hb2⟩
        have HB2 := Lib.hid (HBn.out.trans (hb2.mono HBn.out.size))
        rw [HT.out]
        clear hb2
        go_wp2_with fail
        go_ret
        exact ⟨by rw [HP.out]; rfl, HB2.out⟩
      · have hi := freeAt_step l k hf hlt (by rw [hb]; exact h0)
        have HT := Lib.hid (show ((b.held : Int) == 0) = false from by rw [beq_eq_false_iff_ne]; omega)
        clear h0 hf hb hb2
        go_wp2_with fail
        refine (free_any _ _ _ _ _ _).mono ?_
        rintro e w2 ⟨rfl, hb2⟩
        have HB2 := Lib.hid (HBn.out.trans (hb2.mono HBn.out.size))
        rw [HT.out]
        clear hb2
        go_wp2_with fail
        go_roundw
        case rel => exact ⟨k + 1, by omega, by go_num, hi, HB2.out⟩
        case measure => simp [intOf]; omega
    · have HP := Lib.hid (show freeI l = -1 from by unfold freeI; rw [if_neg (by omega)])
      clear hf
      go_wp2_with fail
      go_ret
      exact ⟨by rw [HP.out]; rfl, hB⟩
/-- The least class that has so many bytes, or -1. -/
def classI (n : Int) : Int := if n ≤ 64 then 0 else if n ≤ 256 then 1 else if n ≤ 1024 then 2 else if n ≤ 4096 then 3 else -1
set_option maxHeartbeats 4000000 in
theorem firstC_any (p g : Nat) (gs ns : Nat → Nat) (n : Int) (w : World) (hp : w.heap[p]? = some (.cells (arenaV gs ns) 66 (0, 0))) (hg : w.cell? ⟨g, 0, none⟩ = some (.int .i64 n)) (hgl : g < w.heap.size) :
    Calls Try.prog 45 #[.slice (some ⟨p, 0, none⟩) 4 4, .func (.func 46) #[] #[.pointer (some ⟨g, 0, none⟩)]] w fun e w' => e = .returned (.int .i64 (classI n)) ∧ Below w.heap.size w w' := by
  have hpl := block_lt hp
  have HC := Lib.hid (show ∀ k, k < 4 → ∃ a n, w.cell? ⟨p, k * 2, none⟩ = some (.int .i64 (sizeC k : Int)) ∧ w.cell? ⟨p, k * 2 + 1, none⟩ = some (.slice a n n) from fun k hk => by
    rw [Lib.cell_of_heap hp, Lib.cell_of_heap hp]
    rcases (by omega : k = 0 ∨ k = 1 ∨ k = 2 ∨ k = 3) with rfl | rfl | rfl | rfl <;> exact ⟨_, _, rfl, rfl⟩)
  have HG := Lib.hid hg
  clear hp hg
  go_enter Try.func45, Try.ntmps45
  go_wp2_with fail
  go_loopw [9] (fun j wr => ∃ k : Nat, k ≤ 4 ∧ j = .int .i64 (k : Int) ∧ (∀ i, i < k → (sizeC i : Int) < n) ∧ Below w.heap.size w wr) (fun j _ => 4 - (intOf j).toNat)
  case atStart => exact ⟨0, Nat.zero_le _, rfl, fun i hi => by omega, Below.refl _ _⟩
  case round =>
    obtain ⟨k, hk, rfl, hf, hB⟩ := hrel
    by_cases hlt : k < 4
    · obtain ⟨a4, n4, d0, d1⟩ := HC.out k hlt
      replace d0 := (hB.cell (p := ⟨p, k * 2, none⟩) hpl).trans d0
      replace d1 := (hB.cell (p := ⟨p, k * 2 + 1, none⟩) hpl).trans d1
      have HBn := Lib.hid (hB.alloc hB.size (.cells #[.int .i64 (sizeC k : Int), .slice a4 n4 n4] 63))
      have HGn := Lib.hid ((HBn.out.cell (p := ⟨g, 0, none⟩) hgl).trans HG.out)
      have HGl := Lib.hid (Nat.lt_of_lt_of_le hgl HBn.out.size)
      have HS : ∃ S, S = sizeC k := ⟨_, rfl⟩
      obtain ⟨S, hS⟩ := HS
      rw [← hS] at d0 HBn HGn HGl
      by_cases h0 : n ≤ (S : Int)
      · have HP := Lib.hid (show classI n = (k : Int) from by
          have h1 := hf
          unfold classI
          rcases (by omega : k = 0 ∨ k = 1 ∨ k = 2 ∨ k = 3) with rfl | rfl | rfl | rfl
          · simp only [sizeC] at hS; rw [if_pos (by omega)]; rfl
          · have := h1 0 (by omega); simp only [sizeC] at hS this; rw [if_neg (by omega), if_pos (by omega)]; rfl
          · have := h1 1 (by omega); simp only [sizeC] at hS this; rw [if_neg (by omega), if_neg (by omega), if_pos (by omega)]; rfl
          · have := h1 2 (by omega); simp only [sizeC] at hS this; rw [if_neg (by omega), if_neg (by omega), if_neg (by omega), if_pos (by omega)]; rfl)
        have HT := Lib.hid (decide_eq_true h0)
        clear h0 hf hS
        go_wp2_with fail
        refine (fitc_any _ n _ _ _ HGl.out HGn.out).mono ?_
        rintro e w2 ⟨rfl, hb2⟩
        have HB2 := Lib.hid (HBn.out.trans (hb2.mono HBn.out.size))
        rw [HT.out]
        clear hb2
        go_wp2_with fail
        go_ret
        exact ⟨by rw [HP.out]; rfl, HB2.out⟩
      · have hi : ∀ i, i < k + 1 → (sizeC i : Int) < n := fun i hi => by
          by_cases e : i = k
          · subst e; rw [← hS]; omega
          · exact hf i (by omega)
        have HI := Lib.hid hi
        have HT := Lib.hid (decide_eq_false h0)
        clear h0 hf hS hi
        go_wp2_with fail
        refine (fitc_any _ n _ _ _ HGl.out HGn.out).mono ?_
        rintro e w2 ⟨rfl, hb2⟩
        have HB2 := Lib.hid (HBn.out.trans (hb2.mono HBn.out.size))
        rw [HT.out]
        clear hb2
        go_wp2_with fail
        go_roundw
        case rel => exact ⟨k + 1, by omega, by go_num, HI.out, HB2.out⟩
        case measure => simp [intOf]; omega
    · have HP := Lib.hid (show classI n = -1 from by
        have := hf 0 (by omega); have := hf 1 (by omega); have := hf 2 (by omega); have := hf 3 (by omega)
        simp only [sizeC] at *
        unfold classI
        rw [if_neg (by omega), if_neg (by omega), if_neg (by omega), if_neg (by omega)])
      clear hf
      go_wp2_with fail
      go_ret
      exact ⟨by rw [HP.out]; rfl, hB⟩
end Go.Proofs.Ytbpadliiekhkjaa.Sl
/-
  A region that draws its order, by what holds whatever has come up. No condition.
-/
namespace Go.Proofs.Ytbpadliiekhkjaa.Rg
open Go.RowKit
set_option linter.unusedVariables false

section
variable {P : Program} {ops : Array Oper} {Q : Exit → Act → World → Prop} {md : Region.Mode}

theorem count_drop {listed : Array Bool} {n i : Nat} (hi : i < n) (h : listed.getD i true = false) (f : Nat) (hc : (List.range n).countP (fun j => !listed.getD j true) ≤ f + 1) :
    (List.range n).countP (fun j => !(listed.setIfInBounds i true).getD j true) ≤ f := by
  have hlt : i < listed.size := by
    rcases Nat.lt_or_ge i listed.size with h' | h'
    · exact h'
    · simp [Array.getElem?_eq_none h'] at h
  have h1 : ∀ l : List Nat, l.countP (fun j => !(listed.setIfInBounds i true).getD j true) + (if i ∈ l then 1 else 0) ≤ l.countP (fun j => !listed.getD j true) := by
    intro l
    induction l with
    | nil => simp
    | cons x r ih =>
      rw [List.countP_cons, List.countP_cons]
      by_cases hx : x = i
      · subst hx
        have e1 : (listed.setIfInBounds x true).getD x true = true := by simp [hlt]
        rw [e1, h]
        simp only [List.mem_cons, true_or, if_true, Bool.not_true, Bool.not_false, Bool.false_eq_true, if_false]
        split at ih <;> omega
      · have e1 : (listed.setIfInBounds i true).getD x true = listed.getD x true := getD_set_ne true (Ne.symm hx)
        rw [e1]
        have e2 : (i ∈ x :: r) ↔ i ∈ r := by simp [Ne.symm hx]
        simp only [e2]
        omega
  have h2 := h1 (List.range n)
  rw [if_pos (List.mem_range.2 hi)] at h2
  omega
/-- What holds ahead of an operation holds behind it, whichever may come up; so it holds at the end. The number tells how many have still to come. -/
theorem any_inv {I : Nat → Array Bool → Act → World → Prop}
    (hstep : ∀ f listed a w i, I (f + 1) listed a w → i ∈ Region.ready md ops listed → wpOp P ops Q i (fun a' w' => I f (listed.setIfInBounds i true) a' w') a w)
    (hdone : ∀ f listed a w, I f listed a w → Region.ready md ops listed = [] → Q .normal a w) :
    ∀ fuel listed a w, (List.range ops.size).countP (fun j => !listed.getD j true) ≤ fuel → I fuel listed a w → wpAny P md ops Q fuel listed a w
  | 0, listed, a, w, hc, h => by
    have hr : Region.ready md ops listed = [] := by
      cases hr : Region.ready md ops listed with
      | nil => rfl
      | cons i r =>
        have hi : i ∈ Region.ready md ops listed := by rw [hr]; simp
        obtain ⟨h0, o, ho, _⟩ := mem_ready.1 hi
        have hlt := (Array.getElem?_eq_some_iff.1 ho).1
        have : 0 < (List.range ops.size).countP (fun j => !listed.getD j true) := List.countP_pos_iff.2 ⟨i, List.mem_range.2 hlt, by rw [h0]; rfl⟩
        omega
    exact ⟨hr, hdone _ _ _ _ h hr⟩
  | fuel + 1, listed, a, w, hc, h => by
    refine ⟨fun hr => hdone _ _ _ _ h hr, fun i hi => ?_⟩
    obtain ⟨h0, o, ho, _⟩ := mem_ready.1 hi
    have hlt := (Array.getElem?_eq_some_iff.1 ho).1
    exact wpOp_mono (fun a' w' h' => any_inv hstep hdone fuel _ a' w' (count_drop hlt h0 fuel hc) h') (hstep _ _ _ _ _ h hi)
/-- Where no more may come up, and each waits for earlier ones alone, all have come up. -/
theorem all_listed {listed : Array Bool} (hfwd : ∀ (i : Nat) (o : Oper), ops[i]? = some o → ∀ e ∈ o.after, e.on < i) (hsz : listed.size = ops.size) (hr : Region.ready md ops listed = []) : ∀ i, i < ops.size → listed.getD i false = true := by
  intro i
  induction i using Nat.strongRecOn with
  | ind i ih =>
    intro hi
    cases hl : listed.getD i false with
    | true => rfl
    | false =>
      exfalso
      have h1 : listed.getD i true = false := by
        have hlt : i < listed.size := by omega
        simp [hlt] at hl ⊢
        exact hl
      have h2 : i ∈ Region.ready md ops listed := mem_ready.2 ⟨h1, ops[i], Array.getElem?_eq_getElem hi, fun e he _ => ih e.on (hfwd i ops[i] (Array.getElem?_eq_getElem hi) e he) (by have := hfwd i ops[i] (Array.getElem?_eq_getElem hi) e he; omega)⟩
      rw [hr] at h2
      cases h2
theorem all_unlisted (n : Nat) : (List.range n).countP (fun j => !(Array.replicate n false).getD j true) ≤ n := by
  have := List.countP_le_length (p := fun j => !(Array.replicate n false).getD j true) (l := List.range n)
  simpa using this

/-- An operation that leaves a value. -/
theorem op_value {i : Nat} {o : Oper} {a : Act} {w w' : World} {v : Value} {K : Act → World → Prop} (hi : ops[i]? = some o) (hg : o.guard = none) (hrun : (execOp a.eval o).run P w = .ok (.value v) w') (hK : K (a.put o.dst v) w') : wpOp P ops Q i K a w := by
  unfold wpOp
  simp only [hi, Region.wanted, hg, if_true]
  refine .inl ?_
  unfold Oper.wp
  rw [hrun]
  exact hK
theorem op_skip {i : Nat} {o : Oper} {a : Act} {w w' : World} {K : Act → World → Prop} (hi : ops[i]? = some o) (hg : o.guard = none) (hrun : (execOp a.eval o).run P w = .ok .skip w') (hK : K (a.put o.dst undef) w') : wpOp P ops Q i K a w := by
  unfold wpOp
  simp only [hi, Region.wanted, hg, if_true]
  refine .inl ?_
  unfold Oper.wp
  rw [hrun]
  exact hK
theorem op_call {i : Nat} {o : Oper} {a : Act} {w : World} {f : FuncId} {args : Array Value} {R : Ending → World → Prop} {K : Act → World → Prop} (hi : ops[i]? = some o) (hg : o.guard = none) (hrun : (execOp a.eval o).run P w = .ok (.enter f args) w)
    (hc : Calls P f args w R) (hK : ∀ e w', R e w' → ∃ v, e = .returned v ∧ K (a.put o.dst v) w') : wpOp P ops Q i K a w := by
  unfold wpOp
  simp only [hi, Region.wanted, hg, if_true]
  refine .inl ?_
  unfold Oper.wp
  rw [hrun]
  show Calls P f args w _
  refine hc.mono fun e w' he => ?_
  obtain ⟨v, rfl, h⟩ := hK e w' he
  exact h
theorem put_same (a : Act) (d : Nat) (v : Value) (h : d < a.tmps.size) : (a.put (some d) v).tmps.getD d undef = v := by simp [Act.put, h]
theorem put_other (a : Act) {d e : Nat} (v : Value) (h : e ≠ d) : (a.put (some d) v).tmps.getD e undef = a.tmps.getD e undef := by simp [Act.put, Array.getElem?_setIfInBounds_ne (Ne.symm h)]
theorem put_size (a : Act) (d : Nat) (v : Value) : (a.put (some d) v).tmps.size = a.tmps.size := by simp [Act.put]
theorem set_old {listed : Array Bool} {i j : Nat} (h : (listed.setIfInBounds i true).getD j false = true) (hne : j ≠ i) : listed.getD j false = true := by rwa [getD_set_ne false (Ne.symm hne)] at h
end
end Go.Proofs.Ytbpadliiekhkjaa.Rg
/-
  A region that draws its order and whose operations each leave a value that is told ahead (or are not wanted): its frame behind it. No condition.
-/
namespace Go.Proofs.Ytbpadliiekhkjaa.Rg
open Go.RowKit
set_option linter.unusedVariables false

def dstOf (ops : Array Oper) (i : Nat) : Option Nat := (ops[i]?).bind (·.dst)
/-- A frame with these values put into these slots. -/
def fill (a : Array Value) : List (Nat × Value) → Array Value
  | [] => a
  | p :: r => fill (a.setIfInBounds p.1 p.2) r
def isSel : Op → Bool
  | .select _ _ => true
  | _ => false
/-- Each operation waits for those whose slots it looks at; each slot has one operation. -/
def fine (ops : Array Oper) (n : Nat) : Bool := (List.range ops.size).all fun i => match ops[i]? with
  | none => false
  | some o =>
    (o.after.all fun e => decide (e.on < i) || !Region.binds .any e) &&
    (match o.dst with | some d => decide (d < n) && (List.range ops.size).all (fun j => j == i || !(dstOf ops j == some d)) | none => true) &&
    (o.op.operands.all fun x => match x with | .tmp s => (List.range ops.size).all (fun j => !(dstOf ops j == some s) || o.after.any (fun e => e.on == j && Region.binds .any e)) | _ => true) &&
    (match o.guard with | some (g, _) => o.after.any (fun e => e.on == g && Region.binds .any e) | none => true) &&
    !(isSel o.op)
/-- The slots that are filled are those of operations. -/
def filled (ops : Array Oper) (L : List (Nat × Value)) : Bool := L.all fun p => (List.range ops.size).any fun j => dstOf ops j == some p.1
theorem fill_size (L : List (Nat × Value)) : ∀ a : Array Value, (fill a L).size = a.size := by
  induction L with
  | nil => intro a; rfl
  | cons p r ih => intro a; unfold fill; rw [ih, Array.size_setIfInBounds]
theorem fill_other {s : Nat} (L : List (Nat × Value)) (h : ∀ p ∈ L, p.1 ≠ s) : ∀ a : Array Value, (fill a L).getD s undef = a.getD s undef := by
  induction L with
  | nil => intro a; rfl
  | cons p r ih =>
    intro a
    unfold fill
    rw [ih (fun q hq => h q (List.mem_cons_of_mem _ hq))]
    exact put_other (⟨a, []⟩ : Act) p.2 (Ne.symm (h p (by simp)))
section
variable {P : Program} {ops : Array Oper} {Q : Exit → Act → World → Prop} {F : Array Value} {ds : List Deferred} {J : World → Prop}
structure Fine1 (ops : Array Oper) (n i : Nat) (o : Oper) : Prop where
  fwd : ∀ e ∈ o.after, Region.binds .any e = true → e.on < i
  lt : ∀ d, o.dst = some d → d < n
  one : ∀ d, o.dst = some d → ∀ j, j ≠ i → dstOf ops j ≠ some d
  looks : ∀ s, Operand.tmp s ∈ o.op.operands → ∀ j, dstOf ops j = some s → ∃ e ∈ o.after, e.on = j ∧ Region.binds .any e = true
  guard : ∀ g b, o.guard = some (g, b) → ∃ e ∈ o.after, e.on = g ∧ Region.binds .any e = true
  sel : ∀ cs b, o.op ≠ .select cs b
theorem dst_lt {j d : Nat} (h : dstOf ops j = some d) : j < ops.size := by
  unfold dstOf at h
  rcases Nat.lt_or_ge j ops.size with h' | h'
  · exact h'
  · rw [Array.getElem?_eq_none h'] at h; cases h
theorem fine_at {n i : Nat} {o : Oper} (h : fine ops n = true) (ho : ops[i]? = some o) : Fine1 ops n i o := by
  have hi := (Array.getElem?_eq_some_iff.1 ho).1
  have h1 := List.all_eq_true.1 h i (List.mem_range.2 hi)
  rw [ho] at h1
  simp only [Bool.and_eq_true] at h1
  obtain ⟨⟨⟨⟨a1, a2⟩, a3⟩, a4⟩, a5⟩ := h1
  refine ⟨?_, ?_, ?_, ?_, ?_, ?_⟩
  · intro e he hb
    have := Array.all_eq_true_iff_forall_mem.1 a1 e he
    rw [hb] at this
    simpa using this
  · intro d hd
    rw [hd] at a2
    simp only [Bool.and_eq_true, decide_eq_true_eq] at a2
    exact a2.1
  · intro d hd j hj e
    rw [hd] at a2
    simp only [Bool.and_eq_true] at a2
    have := List.all_eq_true.1 a2.2 j (List.mem_range.2 (dst_lt e))
    rw [e] at this
    simp [hj] at this
  · intro s hs j hj
    have h2 := Array.all_eq_true_iff_forall_mem.1 a3 _ hs
    have h3 := List.all_eq_true.1 h2 j (List.mem_range.2 (dst_lt hj))
    rw [hj] at h3
    have h4 : o.after.any (fun e => e.on == j && Region.binds .any e) = true := by simpa using h3
    obtain ⟨e, he, h5⟩ := Array.any_eq_true'.1 h4
    simp only [Bool.and_eq_true, beq_iff_eq] at h5
    exact ⟨e, he, h5⟩
  · intro g b hg
    rw [hg] at a4
    obtain ⟨e, he, h5⟩ := Array.any_eq_true'.1 a4
    simp only [Bool.and_eq_true, beq_iff_eq] at h5
    exact ⟨e, he, h5⟩
  · intro cs b e
    rw [e] at a5
    simp [isSel] at a5
/-- Where no more may come up, and each waits for earlier ones alone, all have come up. -/
theorem all_listed2 {listed : Array Bool} (hfwd : ∀ (i : Nat) (o : Oper), ops[i]? = some o → ∀ e ∈ o.after, Region.binds .any e = true → e.on < i) (hsz : listed.size = ops.size) (hr : Region.ready .any ops listed = []) : ∀ i, i < ops.size → listed.getD i false = true := by
  intro i
  induction i using Nat.strongRecOn with
  | ind i ih =>
    intro hi
    cases hl : listed.getD i false with
    | true => rfl
    | false =>
      exfalso
      have h1 : listed.getD i true = false := by
        have hlt : i < listed.size := by omega
        simp [hlt] at hl ⊢
        exact hl
      have h2 : i ∈ Region.ready .any ops listed := mem_ready.2 ⟨h1, ops[i], Array.getElem?_eq_getElem hi, fun e he hb => ih e.on (hfwd i ops[i] (Array.getElem?_eq_getElem hi) e he hb) (by have := hfwd i ops[i] (Array.getElem?_eq_getElem hi) e he hb; omega)⟩
      rw [hr] at h2
      cases h2
/-- What holds whatever has come up. -/
structure VInv (ops : Array Oper) (F : Array Value) (ds : List Deferred) (J : World → Prop) (listed : Array Bool) (a : Act) (W : World) : Prop where
  lsz : listed.size = ops.size
  tsz : a.tmps.size = F.size
  dfr : a.defers = ds
  held : J W
  old : ∀ s, (∀ j, dstOf ops j ≠ some s) → a.tmps.getD s undef = F.getD s undef
  new : ∀ j s, listed.getD j false = true → dstOf ops j = some s → a.tmps.getD s undef = F.getD s undef
/-- What is asked of an operation: at the frame behind the region it leaves that frame, or it is not wanted there. -/
def StepOK (P : Program) (ops : Array Oper) (Q : Exit → Act → World → Prop) (F : Array Value) (ds : List Deferred) (J : World → Prop) (i : Nat) : Prop :=
  ∀ o, ops[i]? = some o → (Region.wanted o (yielded ops F) = false ∧ ∀ d, o.dst = some d → F.getD d undef = undef) ∨
    (Region.wanted o (yielded ops F) = true ∧ ∀ W, J W → o.wp P ⟨F, ds⟩ W (fun a' W' => a' = ⟨F, ds⟩ ∧ J W') (NoPanic Q))
theorem val_step {n : Nat} {listed : Array Bool} {a : Act} {W : World} {i : Nat} (hn : F.size = n) (hf : fine ops n = true) (hS : StepOK P ops Q F ds J i) (I : VInv ops F ds J listed a W) (hr : i ∈ Region.ready .any ops listed) :
    wpOp P ops (NoPanic Q) i (fun a' W' => VInv ops F ds J (listed.setIfInBounds i true) a' W') a W := by
  obtain ⟨h0, o, ho, hw⟩ := mem_ready.1 hr
  have f1 := fine_at hf ho
  -- what it looks at is as it will be
  have he : ∀ x ∈ o.op.operands, a.eval x = (⟨F, ds⟩ : Act).eval x := by
    intro x hx
    cases x with
    | tmp s =>
      show a.tmps.getD s undef = F.getD s undef
      by_cases h : ∃ j, dstOf ops j = some s
      · obtain ⟨j, hj⟩ := h
        obtain ⟨e, he, e1, e2⟩ := f1.looks s hx j hj
        exact I.new j s (by rw [← e1]; exact hw e he e2) hj
      · exact I.old s (fun j hj => h ⟨j, hj⟩)
    | const v => rfl
    | global g => rfl
    | func f => rfl
  have hx : execOp a.eval o = execOp (⟨F, ds⟩ : Act).eval o := execOp_congr o f1.sel he
  have hwant : Region.wanted o (yielded ops a.tmps) = Region.wanted o (yielded ops F) := by
    unfold Region.wanted
    cases hg : o.guard with
    | none => rfl
    | some gb =>
      obtain ⟨g, b⟩ := gb
      obtain ⟨e, he, e1, e2⟩ := f1.guard g b hg
      have hl : listed.getD g false = true := by rw [← e1]; exact hw e he e2
      have hy : yielded ops a.tmps g = yielded ops F g := by
        unfold yielded
        cases hd : (ops[g]?).bind (·.dst) with
        | none => rfl
        | some d =>
          have e3 := I.new g d hl hd
          have e4 : a.tmps[d]? = F[d]? := by
            rcases Nat.lt_or_ge d F.size with h' | h'
            · have h2 : d < a.tmps.size := by rw [I.tsz]; exact h'
              rw [Array.getElem?_eq_getElem h', Array.getElem?_eq_getElem h2]
              simp [h', h2] at e3
              rw [e3]
            · rw [Array.getElem?_eq_none h', Array.getElem?_eq_none (by rw [I.tsz]; exact h')]
          simp only [Option.bind_some]
          rw [e4]
      show (yielded ops a.tmps g == some b) = (yielded ops F g == some b)
      rw [hy]
  have hput : ∀ (v : Value) (W' : World), (∀ d, o.dst = some d → F.getD d undef = v) → J W' → VInv ops F ds J (listed.setIfInBounds i true) (a.put o.dst v) W' := by
    intro v W' hv hJ
    have hd : dstOf ops i = o.dst := by unfold dstOf; rw [ho]; rfl
    cases hds : o.dst with
    | none =>
      refine ⟨by rw [Array.size_setIfInBounds]; exact I.lsz, I.tsz, I.dfr, hJ, I.old, ?_⟩
      intro j s hl hj
      have hne : j ≠ i := by rintro rfl; rw [hd, hds] at hj; cases hj
      exact I.new j s (set_old hl hne) hj
    | some d =>
      refine ⟨by rw [Array.size_setIfInBounds]; exact I.lsz, by rw [put_size]; exact I.tsz, I.dfr, hJ, ?_, ?_⟩
      · intro s hs
        have : s ≠ d := fun e => hs i (by rw [hd, hds, e])
        rw [put_other _ _ this]
        exact I.old s hs
      · intro j s hl hj
        by_cases e : j = i
        · subst e
          rw [hd, hds] at hj
          injection hj with hj
          subst hj
          rw [put_same _ _ _ (by rw [I.tsz, hn]; exact f1.lt d hds)]
          exact (hv d hds).symm
        · have : s ≠ d := by
            rintro rfl
            exact f1.one s hds j e hj
          rw [put_other _ _ this]
          exact I.new j s (set_old hl e) hj
  have hback : ∀ (v : Value), (⟨F, ds⟩ : Act).put o.dst v = ⟨F, ds⟩ → ∀ d, o.dst = some d → F.getD d undef = v := by
    intro v h d hd
    rw [hd] at h
    have h2 : F.setIfInBounds d v = F := by injection h
    have h3 : d < F.size := by rw [hn]; exact f1.lt d hd
    have h4 := congrArg (fun A : Array Value => A.getD d undef) h2
    simp [h3] at h4
    simp [h3]
    exact h4.symm
  unfold wpOp
  simp only [ho, hwant]
  rcases hS o ho with ⟨w1, w2⟩ | ⟨w1, w2⟩
  · rw [w1, if_neg (by simp)]
    exact hput undef W w2 I.held
  · rw [w1, if_pos rfl]
    left
    have h := w2 W I.held
    unfold Oper.wp at h ⊢
    rw [hx]
    generalize (execOp (⟨F, ds⟩ : Act).eval o).run P W = r at h ⊢
    cases r with
    | ok nx w' =>
      cases nx <;> simp only [Oper.upon] at h ⊢
      case value v => exact hput v w' (hback v h.1) h.2
      case skip => exact hput undef w' (hback undef h.1) h.2
      case defer d =>
        exfalso
        have h2 := congrArg Act.defers h.1
        have h3 : d :: ds = ds := by
          cases hds : o.dst <;> simp [hds, Act.put] at h2
        have := congrArg List.length h3
        simp at this
      case enter f args =>
        refine Calls.mono h (fun e w'' he => ?_)
        cases e with
        | returned v => exact hput v w'' (hback v he.1) he.2
        | panicked c => exact (he : False).elim
        | outgrown => exact he
      case row row args => exact Rows.mono h (fun v w'' he => hput v w'' (hback v he.1) he.2)
      all_goals exact h.elim
    | halt x w' =>
      cases x <;> simp only [Oper.upon] at h ⊢
      all_goals exact (h : False).elim
theorem StepOK.of {i : Nat} {o : Oper} (ho : ops[i]? = some o) (h : (Region.wanted o (yielded ops F) = false ∧ ∀ d, o.dst = some d → F.getD d undef = undef) ∨
    (Region.wanted o (yielded ops F) = true ∧ ∀ W, J W → ∀ K : Act → World → Prop, (∀ W', J W' → K ⟨F, ds⟩ W') → o.wp P ⟨F, ds⟩ W K (NoPanic Q))) : StepOK P ops Q F ds J i := by
  intro o' ho'
  rw [ho] at ho'
  injection ho' with ho'
  subst ho'
  rcases h with h | ⟨h1, h2⟩
  · exact .inl h
  · exact .inr ⟨h1, fun W hJ => h2 W hJ _ (fun W' hJ' => ⟨rfl, hJ'⟩)⟩
theorem below_zero {p : Nat → Prop} : ∀ i, i < 0 → p i := fun i hi => absurd hi (by omega)
theorem below_succ {p : Nat → Prop} {n : Nat} (h0 : p n) (h : ∀ i, i < n → p i) : ∀ i, i < n + 1 → p i := fun i hi => by
  rcases Nat.lt_or_ge i n with h' | h'
  · exact h i h'
  · rw [show i = n by omega]; exact h0
theorem val_region {n id : Nat} {a0 : Array Value} {W : World} (L : List (Nat × Value)) (hn : a0.size = n) (hm : P.follows .mixedOrders = true) (hf : fine ops n = true) (hL : filled ops L = true)
    (hJ : J W.drew) (hS : ∀ F, F = fill a0 L → (∀ i, i < ops.size → StepOK P ops Q F ds J i) ∧ ∀ W', J W' → Q .normal ⟨F, ds⟩ W') : (Code.region id ops true).wp P Q ⟨a0, ds⟩ W := by
  obtain ⟨F, hF⟩ : ∃ F, F = fill a0 L := ⟨_, rfl⟩
  obtain ⟨hS, hQ⟩ := hS F hF
  replace hn : F.size = n := by rw [hF, fill_size]; exact hn
  refine wp_region_noPanic (wp_region_any hm ?_)
  have hnl : ∀ i, (Array.replicate ops.size false).getD i false = false := fun i => by
    rcases Nat.lt_or_ge i ops.size with h | h
    · simp [h]
    · simp [h]
  refine any_inv (P := P) (ops := ops) (Q := NoPanic Q) (md := .any) (I := fun f listed a' w' => VInv ops F ds J listed a' w')
    (fun f listed a' w' i hI hr => by
      obtain ⟨_, o, ho, _⟩ := mem_ready.1 hr
      exact val_step hn hf (hS i (Array.getElem?_eq_some_iff.1 ho).1) hI hr)
    (fun f listed a' w' hI hr => ?_)
    ops.size (Array.replicate ops.size false) ⟨a0, ds⟩ W.drew (all_unlisted ops.size)
    ⟨by simp, by rw [hF, fill_size], rfl, hJ, ?_, fun j s h _ => by rw [hnl] at h; cases h⟩
  · have h2 := all_listed2 (fun i o ho => (fine_at hf ho).fwd) hI.lsz hr
    have e : a' = ⟨F, ds⟩ := by
      obtain ⟨ts, df⟩ := a'
      have h3 : df = ds := hI.dfr
      subst h3
      congr 1
      have hsz : ts.size = F.size := hI.tsz
      apply Array.ext hsz
      intro s hs1 hs2
      have h4 : ts.getD s undef = F.getD s undef := by
        by_cases h : ∃ j, dstOf ops j = some s
        · obtain ⟨j, hj⟩ := h
          exact hI.new j s (h2 j (dst_lt hj)) hj
        · exact hI.old s (fun j hj => h ⟨j, hj⟩)
      simp [hs1, hs2] at h4
      exact h4
    rw [e]
    exact NoPanic.normal (hQ w' hI.held)
  · intro s hs
    rw [hF]
    refine (fill_other L (fun p hp e => ?_) a0).symm
    have h3 := List.all_eq_true.1 hL p hp
    obtain ⟨j, _, h4⟩ := List.any_eq_true.1 h3
    rw [e] at h4
    exact hs j (by simpa using h4)
end
end Go.Proofs.Ytbpadliiekhkjaa.Rg
