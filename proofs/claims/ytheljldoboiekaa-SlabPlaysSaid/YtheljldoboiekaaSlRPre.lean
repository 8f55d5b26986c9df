/-
  The reference's row of entries while one entry is being told. No condition.
-/
import Derived.Test.YtheljldoboiekaaSlHold
import Derived.Test.YtheljldoboiekaaSlRead
namespace Go.Proofs.Ytheljldoboiekaa.Sl
open Go.RowKit Go.Proofs.Ytheljldoboiekaa.Fd
set_option maxRecDepth 100000
set_option linter.unusedVariables false
set_option linter.unusedSimpArgs false

theorem flatR_app (P S : List RQ) : flatR (P ++ S) = flatR P ++ flatR S := by simp [flatR]
theorem flatR_mid (P S : List RQ) (x : RQ) : flatR (P ++ x :: S) = flatR P ++ (five x ++ flatR S) := by rw [flatR_app]; rfl
/-- Entries P, one of these cells, entries S. -/
structure RPre (w : World) (base p : Nat) (n : Nat → Nat) (P S : List RQ) (blk : List Value) (v : Value) : Prop where
  arena : w.heap[p]? = some (.cells #[.int .i64 (n 0 : Int), .int .i64 (n 1 : Int), .int .i64 (n 2 : Int), .int .i64 (n 3 : Int), v] 70 (0, 0))
  row : w.ownsRow base 82 5 v (P.length + (1 + S.length)) (flatR P ++ (blk ++ flatR S))
  five : blk.length = 5
  mem : ∀ x ∈ P ++ S, w.heap[x.2]? = some (.cells (memV x.1.mem) 3 (0, 0)) ∧ x.1.mem.length = sizeC x.1.c
  apart : ∀ x ∈ P ++ S, base ≤ x.2 ∧ x.2 ≠ p ∧ v.ownBlock ≠ some x.2
  nodup : ((P ++ S).map fun x => x.2).Nodup
  out : base ≤ p ∧ v.ownBlock ≠ some p
theorem RPre.of {w : World} {base p : Nat} {n : Nat → Nat} {P S : List RQ} {x : RQ} {v : Value} (h : RAt w base p n (P ++ x :: S) v) : RPre w base p n P S (Sl.five x) v := by
  refine ⟨h.arena, ?_, rfl, fun y hy => h.mem y ?_, fun y hy => h.apart y ?_, ?_, h.out⟩
  · have hr := h.row
    rw [flatR_mid, List.length_append, List.length_cons] at hr
    rw [Nat.add_comm 1 S.length]
    exact hr
  · rw [List.mem_append] at hy ⊢
    rcases hy with hy | hy
    · exact .inl hy
    · exact .inr (List.mem_cons_of_mem _ hy)
  · rw [List.mem_append] at hy ⊢
    rcases hy with hy | hy
    · exact .inl hy
    · exact .inr (List.mem_cons_of_mem _ hy)
  · have hn := h.nodup
    rw [List.map_append, List.map_cons] at hn
    rw [List.map_append]
    exact hn.sublist (List.Sublist.append (List.Sublist.refl _) (List.sublist_cons_self _ _))
theorem RPre.lt {w : World} {base p : Nat} {n : Nat → Nat} {P S : List RQ} {blk : List Value} {v : Value} (h : RPre w base p n P S blk v) : p < w.heap.size := block_lt h.arena
theorem RPre.arenaV {w : World} {base p : Nat} {n : Nat → Nat} {P S : List RQ} {blk : List Value} {v : Value} (h : RPre w base p n P S blk v) : w.cell? ⟨p, 4, none⟩ = some v := by rw [Lib.cell_of_heap h.arena]; rfl
theorem RPre.form {w : World} {base p : Nat} {n : Nat → Nat} {P S : List RQ} {blk : List Value} {v : Value} (h : RPre w base p n P S blk v) :
    ∃ g cap, v = .slice (some ⟨g, 0, none⟩) (P.length + (1 + S.length)) cap ∧ g < w.heap.size ∧ base ≤ g ∧ IsT TR w g ∧ (∀ t, t < 5 → w.cell? ⟨g, P.length * 5 + t, none⟩ = blk[t]?) ∧ ∀ j, w.frozen? ⟨g, j, none⟩ = false := by
  have hr := h.row
  rcases hr.2 with ⟨h1, h2⟩ | ⟨g, cap, cur, h1, h2, h3, h4, h5, h6, h7⟩
  · omega
  · refine ⟨g, cap, h1, block_lt h3, h2, ⟨_, _, _, h3, rfl⟩, fun t ht => ?_, free h3⟩
    subst h1
    have h8 := h.five
    rw [hr.cellAt (P.length * 5 + t) (by omega), List.getElem?_append_right (by rw [flatR_length]; omega), flatR_length]
    rw [show P.length * 5 + t - P.length * 5 = t by omega, List.getElem?_append_left (by omega)]
theorem RPre.same {w w' : World} {base p : Nat} {n : Nat → Nat} {P S : List RQ} {blk : List Value} {v : Value} (h : RPre w base p n P S blk v) (hb : Below w.heap.size w w') : RPre w' base p n P S blk v := by
  refine ⟨Bl.old hb h.lt h.arena, ?_, h.five, fun x hx => ⟨Bl.old hb (block_lt (h.mem x hx).1) (h.mem x hx).1, (h.mem x hx).2⟩, h.apart, h.nodup, h.out⟩
  have hr := h.row
  refine ⟨hr.1, ?_⟩
  rcases hr.2 with ⟨h1, h2⟩ | ⟨g, cap, cur, h1, h2, h3, h4⟩
  · exact .inl ⟨h1, h2⟩
  · exact .inr ⟨g, cap, cur, h1, h2, Bl.old hb (block_lt h3) h3, h4⟩
/-- A cell of the entry is stored. -/
theorem RPre.store {w : World} {base p : Nat} {n : Nat → Nat} {P S : List RQ} {blk : List Value} {v : Value} (h : RPre w base p n P S blk v) {g a cap : Nat} (hv : v = .slice (some ⟨g, 0, none⟩) a cap) {t : Nat} (ht : t < 5) (u : Value) :
    RPre (w.setCell ⟨g, P.length * 5 + t, none⟩ u) base p n P S (blk.set t u) v ∧ Tn TR base w (w.setCell ⟨g, P.length * 5 + t, none⟩ u) := by
  have hg : v.ownBlock = some g := by rw [hv]; rfl
  have hne : ∀ b, b ≠ g → (w.setCell ⟨g, P.length * 5 + t, none⟩ u).heap[b]? = w.heap[b]? := fun b hb => by simp [World.setCell, Array.getElem?_modify, Ne.symm hb]
  obtain ⟨g2, cap2, hv2, hlt, hb, hT, _, _⟩ := h.form
  rw [hv] at hv2
  injection hv2 with e1 e2 e3
  injection e1 with e1
  injection e1 with e1
  subst e1
  refine ⟨⟨?_, ?_, by rw [List.length_set]; exact h.five, ?_, h.apart, h.nodup, h.out⟩, Tn.set hT hb _⟩
  · rw [hne p (fun e => h.out.2 (by rw [hg, e]))]; exact h.arena
  · have hr := h.row
    rw [hv, e2] at hr ⊢
    have h2 := (World.ownsRow.stored hr (P.length * 5 + t) u).1
    have h8 := h.five
    rw [List.set_append_right _ _ (by rw [flatR_length]; omega), flatR_length, show P.length * 5 + t - P.length * 5 = t by omega, List.set_append_left _ _ (by omega)] at h2
    exact h2
  · intro y hy
    rw [hne y.2 (fun e => (h.apart y hy).2.2 (by rw [hg, e]))]
    exact h.mem y hy
/-- The entry is told. -/
theorem RPre.done {w : World} {base p : Nat} {n : Nat → Nat} {P S : List RQ} {x : RQ} {v : Value} (h : RPre w base p n P S (Sl.five x) v) (hm : w.heap[x.2]? = some (.cells (memV x.1.mem) 3 (0, 0))) (hl : x.1.mem.length = sizeC x.1.c)
    (h1 : base ≤ x.2) (h2 : x.2 ≠ p) (h3 : v.ownBlock ≠ some x.2) (h4 : ∀ y ∈ P ++ S, y.2 ≠ x.2) : RAt w base p n (P ++ x :: S) v := by
  refine ⟨h.arena, ?_, fun y hy => ?_, fun y hy => ?_, ?_, h.out⟩
  · have hr := h.row
    rw [flatR_mid, List.length_append, List.length_cons]
    rw [Nat.add_comm 1 S.length] at hr
    exact hr
  · rcases List.mem_append.1 hy with hy | hy
    · exact h.mem y (List.mem_append.2 (.inl hy))
    · rcases List.mem_cons.1 hy with rfl | hy
      · exact ⟨hm, hl⟩
      · exact h.mem y (List.mem_append.2 (.inr hy))
  · rcases List.mem_append.1 hy with hy | hy
    · exact h.apart y (List.mem_append.2 (.inl hy))
    · rcases List.mem_cons.1 hy with rfl | hy
      · exact ⟨h1, h2, h3⟩
      · exact h.apart y (List.mem_append.2 (.inr hy))
  · have hn := h.nodup
    have hp : List.Perm ((P ++ x :: S).map fun x => x.2) (x.2 :: (P ++ S).map fun x => x.2) := by
      rw [← List.map_cons (f := fun x : RQ => x.2)]
      exact List.Perm.map _ List.perm_middle
    rw [hp.nodup_iff, List.nodup_cons]
    refine ⟨fun hx => ?_, hn⟩
    obtain ⟨y, hy, e⟩ := List.mem_map.1 hx
    exact h4 y hy e
/-- An entry is put behind. -/
theorem RPre.app {w w' : World} {base p : Nat} {n : Nat → Nat} {L : List RQ} {v v' : Value} {blk : List Value} (h : RAt w base p n L v) (hblk : blk.length = 5)
    (ho : w'.ownsRow base 82 5 v' (L.length + 1) (flatR L ++ blk)) (hg : w.grownBy w' v.ownBlock) : RPre (w'.setCell ⟨p, 4, none⟩ v') base p n L [] blk v' ∧ Tn TR base w (w'.setCell ⟨p, 4, none⟩ v') := by
  have hrow : ∀ k, v.ownBlock = some k → IsT TR w k ∧ base ≤ k := fun k hk => by
    obtain ⟨a, cap, hv⟩ := h.form
    cases a with
    | none => rw [hv] at hk; cases hk
    | some a =>
      obtain ⟨h1, h2⟩ := World.ownsRow.lt h.row k hk
      rcases h.row.2 with ⟨h3, _⟩ | ⟨g, cp, cur, h3, _, h5, _⟩
      · rw [h3] at hk; cases hk
      · rw [h3] at hk
        injection hk with hk
        subst hk
        exact ⟨⟨_, _, _, h5, rfl⟩, h1⟩
  have ht : Tn TR base w w' := Tn.grown hg hrow
  have hpa : w'.heap[p]? = some (.cells #[.int .i64 (n 0 : Int), .int .i64 (n 1 : Int), .int .i64 (n 2 : Int), .int .i64 (n 3 : Int), v] 70 (0, 0)) := (hg.block p h.lt (Ne.symm h.out.2)).trans h.arena
  have hvt : ∀ k, v'.ownBlock = some k → ∃ cur, w'.heap[k]? = some (.cells cur 82 (0, 0)) := fun k hk => by
    rcases ho.2 with ⟨h3, _⟩ | ⟨g, cp, cur, h3, _, h5, _⟩
    · rw [h3] at hk; cases hk
    · rw [h3] at hk
      injection hk with hk
      subst hk
      exact ⟨_, h5⟩
  have hnp : v'.ownBlock ≠ some p := fun e => by
    obtain ⟨cur, h9⟩ := hvt p e
    rw [hpa] at h9
    injection h9 with h9
    injection h9 with _ h9
    exact absurd h9 (by decide)
  have hmem : ∀ x ∈ L, w'.heap[x.2]? = some (.cells (memV x.1.mem) 3 (0, 0)) := fun x hx => (hg.block x.2 (block_lt (h.mem x hx).1) (Ne.symm (h.apart x hx).2.2)).trans (h.mem x hx).1
  refine ⟨⟨?_, ?_, hblk, fun x hx => ?_, fun x hx => ?_, by rw [List.append_nil]; exact h.nodup, h.out.1, hnp⟩, ht.trans (Tn.set ⟨_, _, _, hpa, rfl⟩ h.out.1 _)⟩
  · rw [heap_put hpa]; rfl
  · rw [show flatR [] = [] from rfl, List.append_nil, show ([] : List RQ).length = 0 from rfl, Nat.add_zero]
    refine ⟨ho.1, ?_⟩
    rcases ho.2 with ⟨h1, h2⟩ | ⟨g, cap, cur, h1, h2, h3, h4⟩
    · exact .inl ⟨h1, h2⟩
    · exact .inr ⟨g, cap, cur, h1, h2, by rw [Below.heap_setCell _ _ _ _ (show g ≠ p from fun e => hnp (by rw [h1, ← e]; rfl))]; exact h3, h4⟩
  · rw [List.append_nil] at hx
    rw [Below.heap_setCell _ _ _ _ (show x.2 ≠ p from (h.apart x hx).2.1)]
    exact ⟨hmem x hx, (h.mem x hx).2⟩
  · rw [List.append_nil] at hx
    refine ⟨(h.apart x hx).1, (h.apart x hx).2.1, fun e => ?_⟩
    obtain ⟨cur, h9⟩ := hvt x.2 e
    rw [hmem x hx] at h9
    injection h9 with h9
    injection h9 with _ h9
    exact absurd h9 (by decide)
end Go.Proofs.Ytheljldoboiekaa.Sl
