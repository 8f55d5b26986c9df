/-
  A byte stored in a block of the reference's arena. No condition.
-/
import Derived.Test.YtheljldoboiekaaSlOps
namespace Go.Proofs.Ytheljldoboiekaa.Sl
open Go.RowKit Go.Proofs.Ytheljldoboiekaa.Fd
set_option maxRecDepth 100000
set_option linter.unusedVariables false
set_option linter.unusedSimpArgs false

theorem flatR_same : ∀ (L : List RQ) (k : Nat) (x : RQ) (hk : k < L.length), five x = five L[k] → flatR (L.set k x) = flatR L
  | [], k, x, hk, _ => absurd hk (by simp)
  | y :: r, 0, x, _, h => by
    have h : five x = five y := h
    show five x ++ flatR r = five y ++ flatR r
    rw [h]
  | y :: r, k + 1, x, hk, h => by
    show five y ++ flatR (r.set k x) = five y ++ flatR r
    rw [flatR_same r k x (by simpa using hk) (by simpa using h)]
theorem memV_set (m : Tk.Bs) (j : Nat) (y : UInt8) : (memV m).setIfInBounds j (.int .i64 (y.toNat : Int)) = memV (m.set j y) := by
  unfold memV; simp [List.map_set]
theorem RAt.storeMem {w : World} {base p : Nat} {n : Nat → Nat} {L : List RQ} {v : Value} (h : RAt w base p n L v) {k : Nat} (hk : k < L.length) (j : Nat) (y : UInt8) :
    RAt (w.setCell ⟨L[k].2, j, none⟩ (.int .i64 (y.toNat : Int))) base p n (L.set k ({ L[k].1 with mem := L[k].1.mem.set j y }, L[k].2)) v := by
  have hap := h.apart L[k] (List.getElem_mem hk)
  have hne : ∀ b, b ≠ L[k].2 → (w.setCell ⟨L[k].2, j, none⟩ (.int .i64 (y.toNat : Int))).heap[b]? = w.heap[b]? := fun b hb => by simp [World.setCell, Array.getElem?_modify, Ne.symm hb]
  have hmap : (L.set k ({ L[k].1 with mem := L[k].1.mem.set j y }, L[k].2)).map (fun x => x.2) = L.map fun x => x.2 := by
    rw [List.map_set]
    apply List.ext_getElem?
    intro i
    by_cases hi : k = i
    · subst hi; rw [List.getElem?_set_self (by simpa using hk)]; simp [hk]
    · rw [List.getElem?_set_ne hi]
  refine ⟨?_, ?_, ?_, ?_, by rw [hmap]; exact h.nodup, h.out⟩
  · rw [hne p (Ne.symm hap.2.1)]; exact h.arena
  · rw [flatR_same L k ({ L[k].1 with mem := L[k].1.mem.set j y }, L[k].2) hk rfl, List.length_set]
    have hr := h.row
    refine ⟨hr.1, ?_⟩
    rcases hr.2 with ⟨h1, h2⟩ | ⟨g, cap, cur, h1, h2, h3, h4⟩
    · exact .inl ⟨h1, h2⟩
    · exact .inr ⟨g, cap, cur, h1, h2, by rw [hne g (fun e => hap.2.2 (by rw [h1, e]; rfl))]; exact h3, h4⟩
  · intro x hx
    obtain ⟨i, hi, rfl⟩ := List.mem_iff_getElem.1 hx
    have hi2 : i < L.length := by simpa using hi
    by_cases e : k = i
    · subst e
      rw [List.getElem_set_self]
      obtain ⟨m1, m2⟩ := h.mem L[k] (List.getElem_mem hk)
      refine ⟨?_, by show (L[k].1.mem.set j y).length = _; rw [List.length_set]; exact m2⟩
      show (w.setCell ⟨L[k].2, j, none⟩ _).heap[L[k].2]? = some (.cells (memV (L[k].1.mem.set j y)) _ _)
      rw [heap_put m1, memV_set]
    · rw [List.getElem_set_ne e]
      have hq : L[i].2 ≠ L[k].2 := by
        intro q
        have h1 : i < (L.map fun x => x.2).length := by simpa using hi2
        have h2 : k < (L.map fun x => x.2).length := by simpa using hk
        have hp := List.pairwise_iff_getElem.1 h.nodup
        rcases Nat.lt_or_gt_of_ne e with h3 | h3
        · exact hp k i h2 h1 h3 (by simpa using q.symm)
        · exact hp i k h1 h2 h3 (by simpa using q)
      rw [hne _ hq]
      exact h.mem L[i] (List.getElem_mem hi2)
  · intro x hx
    rcases List.mem_or_eq_of_mem_set hx with hx | rfl
    · exact h.apart x hx
    · exact hap
theorem lay_none (m : Tk.Bs) (i : Nat) : lay m i [] = m := by unfold lay; simp
theorem lay_next {m b : Tk.Bs} {i t : Nat} (ht : t < b.length) (h : i + b.length ≤ m.length) : (lay m i (b.take t)).set (i + t) b[t] = lay m i (b.take (t + 1)) := by
  unfold lay
  have e1 : (b.take t).length = t := by rw [List.length_take]; omega
  have e2 : (b.take (t + 1)).length = t + 1 := by rw [List.length_take]; omega
  have e3 : (m.take i).length = i := by rw [List.length_take]; omega
  have hd : m.drop (i + t) = m[i + t]'(by omega) :: m.drop (i + t + 1) := List.drop_eq_getElem_cons (by omega)
  rw [e1, e2, hd, List.set_append_right _ _ (by rw [List.length_append, e1, e3]; exact Nat.le_refl _), List.length_append, e1, e3, Nat.sub_self, List.set_cons_zero, ← Nat.add_assoc]
  have e4 : b.take (t + 1) = b.take t ++ [b[t]] := by rw [List.take_succ_eq_append_getElem ht]
  rw [e4]
  simp only [List.append_assoc, List.cons_append, List.nil_append]
theorem lay_len {m b : Tk.Bs} {i : Nat} (h : i + b.length ≤ m.length) : (lay m i b).length = m.length := lay_length h
end Go.Proofs.Ytheljldoboiekaa.Sl
