/-
  Texts that the laws' proofs stand on, 3 of them in one file; each one's head says what it proves and under which condition.
-/
import Derived.Test.YtbpadliiekhkjaaCHNP4
import Derived.Test.YtbpadliiekhkjaaCHNP2
import Derived.Laws.AppendOwn
import Derived.Laws.OwnMore
import Derived.WalkKit
import Derived.WalkLawsBesides
import Derived.Outline
import Derived.Lib.Hide
import Derived.Deep.QuietTactic
import Derived.BigQuiet
import Derived.Laws.CopyOwn
import Derived.Deep.AppendLies
/-
  The reference's arena as the model has it. No condition.
-/
namespace Go.Proofs.Ytbpadliiekhkjaa.Sl
open Go.RowKit Go.Proofs.Ytbpadliiekhkjaa.Fd
set_option maxRecDepth 100000
set_option linter.unusedVariables false
set_option linter.unusedSimpArgs false

/-- A block, and where its bytes lie. -/
abbrev RQ := RB × Nat
def five (x : RQ) : List Value := [.int .i64 (x.1.c : Int), .int .i64 (x.1.i : Int), .int .i64 (x.1.gen : Int), .int .i64 (x.1.held : Int), .slice (some ⟨x.2, 0, none⟩) (sizeC x.1.c) (sizeC x.1.c)]
def flatR (L : List RQ) : List Value := L.flatMap five
theorem flatR_length (L : List RQ) : (flatR L).length = L.length * 5 := by
  induction L with
  | nil => rfl
  | cons x r ih => show (five x ++ flatR r).length = _; rw [List.length_append, ih, List.length_cons]; show 5 + _ = _; omega
theorem flatR_at (L : List RQ) : ∀ (j : Nat) (h : j < L.length) (t : Nat), t < 5 → (flatR L)[j * 5 + t]? = (five L[j])[t]? := by
  induction L with
  | nil => intro j h; simp at h
  | cons x r ih =>
    intro j h t ht
    show (five x ++ flatR r)[_]? = _
    cases j with
    | zero => rw [Nat.zero_mul, Nat.zero_add, List.getElem?_append_left (by show t < 5; exact ht)]; rfl
    | succ j =>
      rw [List.getElem?_append_right (by show 5 ≤ _; omega), List.getElem_cons_succ, ← ih j (by simpa using h) t ht]
      congr 1
      show _ - 5 = _
      omega
def memV (m : Tk.Bs) : Array Value := (m.map fun b => Value.int .i64 (b.toNat : Int)).toArray
structure RAt (w : World) (base p : Nat) (n : Nat → Nat) (L : List RQ) (v : Value) : Prop where
  arena : w.heap[p]? = some (.cells #[.int .i64 (n 0 : Int), .int .i64 (n 1 : Int), .int .i64 (n 2 : Int), .int .i64 (n 3 : Int), v] 76 (0, 0))
  row : w.ownsRow base 94 5 v L.length (flatR L)
  mem : ∀ x ∈ L, w.heap[x.2]? = some (.cells (memV x.1.mem) 3 (0, 0)) ∧ x.1.mem.length = sizeC x.1.c
  apart : ∀ x ∈ L, base ≤ x.2 ∧ x.2 ≠ p ∧ v.ownBlock ≠ some x.2
  nodup : (L.map fun x => x.2).Nodup
  out : base ≤ p ∧ v.ownBlock ≠ some p
theorem RAt.lt {w : World} {base p : Nat} {n : Nat → Nat} {L : List RQ} {v : Value} (h : RAt w base p n L v) : p < w.heap.size := block_lt h.arena
theorem RAt.arenaV {w : World} {base p : Nat} {n : Nat → Nat} {L : List RQ} {v : Value} (h : RAt w base p n L v) : w.cell? ⟨p, 4, none⟩ = some v := by rw [Lib.cell_of_heap h.arena]; rfl
theorem RAt.same {w w' : World} {base p : Nat} {n : Nat → Nat} {L : List RQ} {v : Value} (h : RAt w base p n L v) (hb : Below w.heap.size w w') : RAt w' base p n L v := by
  refine ⟨Bl.old hb h.lt h.arena, ?_, fun x hx => ⟨Bl.old hb (block_lt (h.mem x hx).1) (h.mem x hx).1, (h.mem x hx).2⟩, h.apart, h.nodup, h.out⟩
  have hr := h.row
  refine ⟨hr.1, ?_⟩
  rcases hr.2 with ⟨h1, h2⟩ | ⟨g, cap, cur, h1, h2, h3, h4⟩
  · exact .inl ⟨h1, h2⟩
  · exact .inr ⟨g, cap, cur, h1, h2, Bl.old hb (block_lt h3) h3, h4⟩
theorem RAt.form {w : World} {base p : Nat} {n : Nat → Nat} {L : List RQ} {v : Value} (h : RAt w base p n L v) : ∃ a cap, v = .slice a L.length cap := by
  rcases h.row.2 with ⟨h1, h2⟩ | ⟨g, cap, cur, h1, _⟩
  · exact ⟨none, 0, by rw [h1, h2]⟩
  · exact ⟨_, _, h1⟩
/-- The cells of an entry. -/
theorem RAt.entry {w : World} {base p : Nat} {n : Nat → Nat} {L : List RQ} {v : Value} (h : RAt w base p n L v) {k : Nat} (hk : k < L.length) : ∃ g cap, v = .slice (some ⟨g, 0, none⟩) L.length cap ∧ g < w.heap.size ∧ g ≠ p ∧
    (∀ t (ht : t < 5), w.cell? ⟨g, k * 5 + t, none⟩ = (five L[k])[t]?) ∧ ∀ j, w.frozen? ⟨g, j, none⟩ = false := by
  have hr := h.row
  rcases hr.2 with ⟨h1, h2⟩ | ⟨g, cap, cur, h1, h2, h3, h4, h5, h6, h7⟩
  · omega
  · refine ⟨g, cap, h1, block_lt h3, fun e => h.out.2 (by rw [h1, e]; rfl), fun t ht => ?_, free h3⟩
    subst h1
    rw [hr.cellAt (k * 5 + t) (by omega)]
    exact flatR_at L k hk t ht
end Go.Proofs.Ytbpadliiekhkjaa.Sl
/-
  The reference's Sizes, find, right, Held and Live: what each returns. Condition: fewer than 2^40 blocks were taken.
-/
namespace Go.Proofs.Ytbpadliiekhkjaa.Sl
open Go.RowKit Go.Proofs.Ytbpadliiekhkjaa.Fd
set_option maxRecDepth 100000
set_option linter.unusedVariables false
set_option linter.unusedSimpArgs false

theorem findR_step (c i : Int) : ∀ (L : List RB) (k : Nat), k ≤ findR c i L → ∀ h : k < L.length, isKey c i L[k] = false → k + 1 ≤ findR c i L
  | [], k, _, h, _ => absurd h (by simp)
  | r :: l, 0, _, _, hc => by
    have hc : isKey c i r = false := hc
    unfold findR; rw [hc]; simp
  | r :: l, k + 1, h0, h, hc => by
    unfold findR at h0 ⊢
    split at h0
    · omega
    · rename_i hd
      rw [if_neg hd]
      have := findR_step c i l k (by omega) (by simpa using h) hc
      omega
theorem findR_here (c i : Int) : ∀ (L : List RB) (k : Nat), k ≤ findR c i L → ∀ h : k < L.length, isKey c i L[k] = true → findR c i L = k
  | [], k, _, h, _ => absurd h (by simp)
  | r :: l, 0, _, _, hc => by
    have hc : isKey c i r = true := hc
    unfold findR; rw [if_pos hc]
  | r :: l, k + 1, h0, h, hc => by
    unfold findR at h0 ⊢
    split at h0
    · omega
    · rename_i hd
      rw [if_neg hd]
      have := findR_here c i l k (by omega) (by simpa using h) hc
      omega
def rbs (L : List RQ) : List RB := L.map fun x => x.1
/-- A place, or -1. -/
def placeI (c i : Int) (L : List RQ) : Int := if findR c i (rbs L) < L.length then findR c i (rbs L) else -1
theorem rbs_length (L : List RQ) : (rbs L).length = L.length := by simp [rbs]
theorem rbs_at (L : List RQ) (k : Nat) (h : k < L.length) : (rbs L)[k]'(by rw [rbs_length]; exact h) = L[k].1 := by simp [rbs]
set_option maxHeartbeats 4000000 in
theorem find_any {base p : Nat} {n : Nat → Nat} {L : List RQ} {v : Value} (c i : Int) (w : World) (h : RAt w base p n L v) (hl : L.length ≤ 1099511627776) :
    Calls Try.prog 58 #[.pointer (some ⟨p, 0, none⟩), .int .i64 c, .int .i64 i] w fun e w' => e = .returned (.int .i64 (placeI c i L)) ∧ w = w' := by
  obtain ⟨a, cap, hv⟩ := h.form
  have hc4 := h.arenaV
  rw [hv] at hc4
  have HE := Lib.hid (fun k hk => RAt.entry h (k := k) hk)
  have HV := Lib.hid hv
  clear h hv
  go_enter Try.func58, Try.ntmps58
  go_wp2_with fail
  go_loop [7] (fun v => ∃ k : Nat, k ≤ L.length ∧ v = .int .i64 (k : Int) ∧ k ≤ findR c i (rbs L)) (fun v => L.length - (intOf v).toNat)
  case atStart => exact ⟨0, Nat.zero_le _, rfl, Nat.zero_le _⟩
  case round =>
    obtain ⟨k, hk, rfl, hf⟩ := hrel
    by_cases hlt : k < L.length
    · obtain ⟨g, cap', hv', _, _, hcell, _⟩ := HE.out k hlt
      rw [HV.out] at hv'
      injection hv' with e1 e2 e3
      subst e1 e3
      have d0 := hcell 0 (by decide)
      have d1 := hcell 1 (by decide)
      obtain ⟨x, hx⟩ : ∃ x, L[k] = x := ⟨_, rfl⟩
      rw [hx] at d0 d1
      replace d0 : w.cell? ⟨g, k * 5, none⟩ = some (.int .i64 (x.1.c : Int)) := d0
      replace d1 : w.cell? ⟨g, k * 5 + 1, none⟩ = some (.int .i64 (x.1.i : Int)) := d1
      have hat := rbs_at L k hlt
      rw [hx] at hat
      have hlr : k < (rbs L).length := by rw [rbs_length]; exact hlt
      clear hcell
      by_cases h1 : (x.1.c : Int) = c
      · by_cases h2 : (x.1.i : Int) = i
        · have hi := findR_here c i (rbs L) k hf hlr (by rw [hat]; unfold isKey; rw [decide_eq_true ⟨h1, h2⟩])
          have HP := Lib.hid (show placeI c i L = (k : Int) from by unfold placeI; rw [hi, if_pos hlt])
          have b1 : ((x.1.c : Int) == c) = true := by rw [beq_iff_eq]; exact h1
          have b2 : ((x.1.i : Int) == i) = true := by rw [beq_iff_eq]; exact h2
          clear h1 h2 hi hf hat hx hlr
          go_wp2_with fail
          go_ret
          exact ⟨by rw [HP.out]; rfl, rfl⟩
        · have hi := findR_step c i (rbs L) k hf hlr (by rw [hat]; unfold isKey; rw [decide_eq_false (fun q => h2 q.2)])
          have b1 : ((x.1.c : Int) == c) = true := by rw [beq_iff_eq]; exact h1
          have b2 : ((x.1.i : Int) == i) = false := by rw [beq_eq_false_iff_ne]; exact h2
          clear h1 h2 hf hat hx hlr
          go_wp2_with fail
          go_round
          case rel => exact ⟨k + 1, by omega, by go_num, hi⟩
          case measure => simp [intOf]; omega
      · have hi := findR_step c i (rbs L) k hf hlr (by rw [hat]; unfold isKey; rw [decide_eq_false (fun q => h1 q.1)])
        have b1 : ((x.1.c : Int) == c) = false := by rw [beq_eq_false_iff_ne]; exact h1
        clear h1 hf hat hx hlr
        go_wp2_with fail
        go_round
        case rel => exact ⟨k + 1, by omega, by go_num, hi⟩
        case measure => simp [intOf]; omega
    · have HP := Lib.hid (show placeI c i L = -1 from by unfold placeI; rw [if_neg (by omega)])
      clear hf HE
      go_wp2_with fail
      go_ret
      exact ⟨by rw [HP.out]; rfl, rfl⟩
/-- A right handle's place, or -1. -/
def rightI (c i g : Int) (L : List RQ) : Int := if h : findR c i (rbs L) < L.length then (if L[findR c i (rbs L)].1.held = 0 ∨ (L[findR c i (rbs L)].1.gen : Int) ≠ g then -1 else findR c i (rbs L)) else -1
set_option maxHeartbeats 4000000 in
theorem right_any {base p : Nat} {n : Nat → Nat} {L : List RQ} {v : Value} (c i g : Int) (w : World) (h : RAt w base p n L v) (hl : L.length ≤ 1099511627776) :
    Calls Try.prog 53 #[.pointer (some ⟨p, 0, none⟩), .int .i64 c, .int .i64 i, .int .i64 g] w fun e w' => e = .returned (.int .i64 (rightI c i g L)) ∧ w = w' := by
  obtain ⟨a, cap, hv⟩ := h.form
  have hc4 := h.arenaV
  rw [hv] at hc4
  have HF := Lib.hid (find_any c i w h hl)
  by_cases hlt : findR c i (rbs L) < L.length
  · obtain ⟨b, cap', hv', _, _, hcell, _⟩ := h.entry hlt
    rw [hv] at hv'
    injection hv' with e1 e2 e3
    subst e1 e3
    have HP := Lib.hid (show placeI c i L = (findR c i (rbs L) : Int) from by unfold placeI; rw [if_pos hlt])
    have HR := Lib.hid (show rightI c i g L = if L[findR c i (rbs L)].1.held = 0 ∨ (L[findR c i (rbs L)].1.gen : Int) ≠ g then -1 else (findR c i (rbs L) : Int) from by unfold rightI; rw [dif_pos hlt])
    generalize findR c i (rbs L) = k at hlt hcell HP HR
    have d2 := hcell 2 (by decide)
    have d3 := hcell 3 (by decide)
    generalize L[k] = x at d2 d3 HR
    replace d2 : w.cell? ⟨b, k * 5 + 2, none⟩ = some (.int .i64 (x.1.gen : Int)) := d2
    replace d3 : w.cell? ⟨b, k * 5 + 3, none⟩ = some (.int .i64 (x.1.held : Int)) := d3
    rw [HP.out] at HF
    clear hcell h hv HP
    by_cases h0 : x.1.held = 0
    · have b1 : ((x.1.held : Int) == 0) = true := by rw [h0]; rfl
      replace HR := Lib.hid (show rightI c i g L = -1 from by rw [HR.out, if_pos (.inl h0)])
      clear h0
      go_enter Try.func53, Try.ntmps53
      go_wp2_with fail
      refine HF.out.mono ?_
      rintro e w1 ⟨rfl, rfl⟩
      go_wp2_with fail
      go_ret
      exact ⟨by rw [HR.out]; rfl, rfl⟩
    · have b1 : ((x.1.held : Int) == 0) = false := by rw [beq_eq_false_iff_ne]; omega
      by_cases hg : (x.1.gen : Int) = g
      · have b2 : ((x.1.gen : Int) != g) = false := by rw [hg]; simp
        replace HR := Lib.hid (show rightI c i g L = k from by rw [HR.out, if_neg (by rintro (q | q); exact h0 q; exact q hg)])
        clear h0 hg
        go_enter Try.func53, Try.ntmps53
        go_wp2_with fail
        refine HF.out.mono ?_
        rintro e w1 ⟨rfl, rfl⟩
        go_wp2_with fail
        go_ret
        exact ⟨by rw [HR.out]; rfl, rfl⟩
      · have b2 : ((x.1.gen : Int) != g) = true := by rw [bne_iff_ne]; exact hg
        replace HR := Lib.hid (show rightI c i g L = -1 from by rw [HR.out, if_pos (.inr hg)])
        clear h0 hg
        go_enter Try.func53, Try.ntmps53
        go_wp2_with fail
        refine HF.out.mono ?_
        rintro e w1 ⟨rfl, rfl⟩
        go_wp2_with fail
        go_ret
        exact ⟨by rw [HR.out]; rfl, rfl⟩
  · have HP := Lib.hid (show placeI c i L = -1 from by unfold placeI; rw [if_neg hlt])
    have HR := Lib.hid (show rightI c i g L = -1 from by unfold rightI; rw [dif_neg hlt])
    rw [HP.out] at HF
    clear h hv hlt
    go_enter Try.func53, Try.ntmps53
    go_wp2_with fail
    refine HF.out.mono ?_
    rintro e w1 ⟨rfl, rfl⟩
    go_wp2_with fail
    go_ret
    exact ⟨by rw [HR.out]; rfl, rfl⟩
end Go.Proofs.Ytbpadliiekhkjaa.Sl
/-
  Worlds that turned within blocks of some types alone, none older than a base. No condition.
-/
namespace Go.Proofs.Ytbpadliiekhkjaa.Sl
open Go.RowKit Go.Proofs.Ytbpadliiekhkjaa.Fd
set_option linter.unusedVariables false

/-- A block of one of these types. -/
def IsT (T : TypeId → Bool) (w : World) (k : Nat) : Prop := ∃ cs t fr, w.heap[k]? = some (.cells cs t fr) ∧ T t = true
structure Tn (T : TypeId → Bool) (base : Nat) (w w' : World) : Prop where
  os : w'.os = w.os
  tape : w'.tape = w.tape
  output : w'.output = w.output
  size : w.heap.size ≤ w'.heap.size
  block : ∀ k, k < w.heap.size → (k < base ∨ ¬ IsT T w k) → w'.heap[k]? = w.heap[k]?
theorem Tn.refl (T : TypeId → Bool) (base : Nat) (w : World) : Tn T base w w := ⟨rfl, rfl, rfl, Nat.le_refl _, fun _ _ _ => rfl⟩
theorem Tn.of_below {T : TypeId → Bool} {base : Nat} {w w' : World} (h : Below w.heap.size w w') : Tn T base w w' := ⟨h.os, h.tape, h.output, h.size, fun k hk _ => h.block k hk⟩
theorem Tn.trans {T : TypeId → Bool} {base : Nat} {a b c : World} (h : Tn T base a b) (k : Tn T base b c) : Tn T base a c :=
  ⟨k.os.trans h.os, k.tape.trans h.tape, k.output.trans h.output, Nat.le_trans h.size k.size, fun i hi hn => by
    have e := h.block i hi hn
    refine (k.block i (Nat.lt_of_lt_of_le hi h.size) ?_).trans e
    rcases hn with hn | hn
    · exact .inl hn
    · right
      rintro ⟨cs, t, fr, h1, h2⟩
      exact hn ⟨cs, t, fr, by rw [← e]; exact h1, h2⟩⟩
theorem Tn.next {T : TypeId → Bool} {base : Nat} {a b c : World} (h : Tn T base a b) (k : Below b.heap.size b c) : Tn T base a c := h.trans (.of_below k)
theorem Tn.one {T : TypeId → Bool} {base : Nat} {w w' : World} {g : Nat} (h : IsT T w g) (hb : base ≤ g) (h1 : w'.os = w.os) (h2 : w'.tape = w.tape) (h3 : w'.output = w.output) (h4 : w.heap.size ≤ w'.heap.size) (h5 : ∀ k, k < w.heap.size → k ≠ g → w'.heap[k]? = w.heap[k]?) : Tn T base w w' :=
  ⟨h1, h2, h3, h4, fun k hk hn => h5 k hk (fun e => by
    subst e
    rcases hn with hn | hn
    · omega
    · exact hn h)⟩
theorem Tn.set {T : TypeId → Bool} {base : Nat} {w : World} {g j : Nat} (h : IsT T w g) (hb : base ≤ g) (v : Value) : Tn T base w (w.setCell ⟨g, j, none⟩ v) :=
  .one h hb rfl rfl rfl (by simp [World.setCell]) (fun k _ hk => Below.heap_setCell _ _ _ _ hk)
theorem Tn.row {T : TypeId → Bool} {base : Nat} {w : World} {g : Nat} (h : IsT T w g) (hb : base ≤ g) (cs : Array Value) : Tn T base w (w.setRow g cs) :=
  .one h hb rfl rfl rfl (by simp [World.setRow]) (fun k _ hk => setRow_other w g k cs hk)
theorem Tn.grown {T : TypeId → Bool} {base : Nat} {w w' : World} {row : Option Nat} (hg : w.grownBy w' row) (h : ∀ k, row = some k → IsT T w k ∧ base ≤ k) : Tn T base w w' := by
  refine ⟨hg.os, hg.tape, hg.output, hg.size, fun k hk hn => hg.block k hk (fun e => ?_)⟩
  obtain ⟨h1, h2⟩ := h k e.symm
  rcases hn with hn | hn
  · omega
  · exact hn h1
theorem Tn.below {T : TypeId → Bool} {base : Nat} {w w' : World} (h : Tn T base w w') (hb : base ≤ w.heap.size) : Below base w w' :=
  ⟨h.os, h.tape, h.output, h.size, fun k hk => h.block k (by omega) (.inl hk)⟩
theorem Tn.drew {T : TypeId → Bool} {base : Nat} {a w : World} (h : Tn T base a w) : Tn T base a w.drew := ⟨h.os, h.tape, h.output, h.size, h.block⟩
theorem Tn.mono {T : TypeId → Bool} {base b : Nat} {a w : World} (h : Tn T base a w) (hb : b ≤ base) : Tn T b a w := ⟨h.os, h.tape, h.output, h.size, fun k hk hn => h.block k hk (by
  rcases hn with hn | hn
  · exact .inl (by omega)
  · exact .inr hn)⟩
/-- A block of another type stays. -/
theorem Tn.other {T : TypeId → Bool} {base : Nat} {w w' : World} (h : Tn T base w w') {k : Nat} {cs : Array Value} {t : TypeId} {fr : Nat × Nat} (e : w.heap[k]? = some (.cells cs t fr)) (ht : T t = false) : w'.heap[k]? = some (.cells cs t fr) := by
  rw [h.block k (block_lt e) (.inr ?_)]
  · exact e
  · rintro ⟨cs2, t2, fr2, h1, h2⟩
    rw [e] at h1
    injection h1 with h1
    injection h1 with _ h3
    subst h3
    rw [ht] at h2
    cases h2
theorem Tn.old {T : TypeId → Bool} {base : Nat} {w w' : World} (h : Tn T base w w') {k : Nat} (hk : k < base) {o : Obj} (e : w.heap[k]? = some o) : w'.heap[k]? = some o := (h.block k (block_lt e) (.inl hk)).trans e
theorem Tn.cell {T : TypeId → Bool} {base : Nat} {w w' : World} (h : Tn T base w w') {p : Addr} (hp : p.block < base) (hs : base ≤ w.heap.size) : w'.cell? p = w.cell? p := (h.below hs).cell hp
end Go.Proofs.Ytbpadliiekhkjaa.Sl
