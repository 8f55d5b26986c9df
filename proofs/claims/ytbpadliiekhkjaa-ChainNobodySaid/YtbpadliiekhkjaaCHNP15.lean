/-
  Texts that the laws' proofs stand on, 3 of them in one file; each one's head says what it proves and under which condition.
-/
import Derived.Test.YtbpadliiekhkjaaCHNP6
import Derived.Deep.DeepCutAuto
import Derived.Deep.RegionWith
import Derived.Test.YtbpadliiekhkjaaCHNP10
/-
  A byte stored in a block of the reference's arena. No condition.
-/
namespace Go.Proofs.Ytbpadliiekhkjaa.Sl
open Go.RowKit Go.Proofs.Ytbpadliiekhkjaa.Fd
set_option maxRecDepth 100000
set_option linter.unusedVariables false
set_option linter.unusedSimpArgs false

theorem flatR_same : ∀ (L : List RQ) (k : Nat) (x : RQ) (hk : k < L.length), five x = five L[k] → flatR (L.set k x) = flatR L
  | [], k, x, hk, _ => absurd hk (by simp)
  | y :: r, 0, x, _, h => by
    have h : five x = five y := h
    show five x ++ flatR r = five y ++ flatR r
    rw [h]
  | y :: r, k + 1, x, hk, h => by
    show five y ++ flatR (r.set k x) = five y ++ flatR r
    rw [flatR_same r k x (by simpa using hk) (by simpa using h)]
theorem memV_set (m : Tk.Bs) (j : Nat) (y : UInt8) : (memV m).setIfInBounds j (.int .i64 (y.toNat : Int)) = memV (m.set j y) := by
  unfold memV; simp [List.map_set]
theorem RAt.storeMem {w : World} {base p : Nat} {n : Nat → Nat} {L : List RQ} {v : Value} (h : RAt w base p n L v) {k : Nat} (hk : k < L.length) (j : Nat) (y : UInt8) :
    RAt (w.setCell ⟨L[k].2, j, none⟩ (.int .i64 (y.toNat : Int))) base p n (L.set k ({ L[k].1 with mem := L[k].1.mem.set j y }, L[k].2)) v := by
  have hap := h.apart L[k] (List.getElem_mem hk)
  have hne : ∀ b, b ≠ L[k].2 → (w.setCell ⟨L[k].2, j, none⟩ (.int .i64 (y.toNat : Int))).heap[b]? = w.heap[b]? := fun b hb => by simp [World.setCell, Array.getElem?_modify, Ne.symm hb]
  have hmap : (L.set k ({ L[k].1 with mem := L[k].1.mem.set j y }, L[k].2)).map (fun x => x.2) = L.map fun x => x.2 := by
    rw [List.map_set]
    apply List.ext_getElem?
    intro i
    by_cases hi : k = i
    · subst hi; rw [List.getElem?_set_self (by simpa using hk)]; simp [hk]
    · rw [List.getElem?_set_ne hi]
  refine ⟨?_, ?_, ?_, ?_, by rw [hmap]; exact h.nodup, h.out⟩
  · rw [hne p (Ne.symm hap.2.1)]; exact h.arena
  · rw [flatR_same L k ({ L[k].1 with mem := L[k].1.mem.set j y }, L[k].2) hk rfl, List.length_set]
    have hr := h.row
    refine ⟨hr.1, ?_⟩
    rcases hr.2 with ⟨h1, h2⟩ | ⟨g, cap, cur, h1, h2, h3, h4⟩
    · exact .inl ⟨h1, h2⟩
    · exact .inr ⟨g, cap, cur, h1, h2, by rw [hne g (fun e => hap.2.2 (by rw [h1, e]; rfl))]; exact h3, h4⟩
  · intro x hx
    obtain ⟨i, hi, rfl⟩ := List.mem_iff_getElem.1 hx
    have hi2 : i < L.length := by simpa using hi
    by_cases e : k = i
    · subst e
      rw [List.getElem_set_self]
      obtain ⟨m1, m2⟩ := h.mem L[k] (List.getElem_mem hk)
      refine ⟨?_, by show (L[k].1.mem.set j y).length = _; rw [List.length_set]; exact m2⟩
      show (w.setCell ⟨L[k].2, j, none⟩ _).heap[L[k].2]? = some (.cells (memV (L[k].1.mem.set j y)) _ _)
      rw [heap_put m1, memV_set]
    · rw [List.getElem_set_ne e]
      have hq : L[i].2 ≠ L[k].2 := by
        intro q
        have h1 : i < (L.map fun x => x.2).length := by simpa using hi2
        have h2 : k < (L.map fun x => x.2).length := by simpa using hk
        have hp := List.pairwise_iff_getElem.1 h.nodup
        rcases Nat.lt_or_gt_of_ne e with h3 | h3
        · exact hp k i h2 h1 h3 (by simpa using q.symm)
        · exact hp i k h1 h2 h3 (by simpa using q)
      rw [hne _ hq]
      exact h.mem L[i] (List.getElem_mem hi2)
  · intro x hx
    rcases List.mem_or_eq_of_mem_set hx with hx | rfl
    · exact h.apart x hx
    · exact hap
theorem lay_none (m : Tk.Bs) (i : Nat) : lay m i [] = m := by unfold lay; simp
theorem lay_next {m b : Tk.Bs} {i t : Nat} (ht : t < b.length) (h : i + b.length ≤ m.length) : (lay m i (b.take t)).set (i + t) b[t] = lay m i (b.take (t + 1)) := by
  unfold lay
  have e1 : (b.take t).length = t := by rw [List.length_take]; omega
  have e2 : (b.take (t + 1)).length = t + 1 := by rw [List.length_take]; omega
  have e3 : (m.take i).length = i := by rw [List.length_take]; omega
  have hd : m.drop (i + t) = m[i + t]'(by omega) :: m.drop (i + t + 1) := List.drop_eq_getElem_cons (by omega)
  rw [e1, e2, hd, List.set_append_right _ _ (by rw [List.length_append, e1, e3]; exact Nat.le_refl _), List.length_append, e1, e3, Nat.sub_self, List.set_cons_zero, ← Nat.add_assoc]
  have e4 : b.take (t + 1) = b.take t ++ [b[t]] := by rw [List.take_succ_eq_append_getElem ht]
  rw [e4]
  simp only [List.append_assoc, List.cons_append, List.nil_append]
theorem lay_len {m b : Tk.Bs} {i : Nat} (h : i + b.length ≤ m.length) : (lay m i b).length = m.length := lay_length h
end Go.Proofs.Ytbpadliiekhkjaa.Sl
/-
  The reference's Hold and Drop beside the plain arena. Condition: they are related ahead.
-/
namespace Go.Proofs.Ytbpadliiekhkjaa.Sl
open Go.RowKit Go.Proofs.Ytbpadliiekhkjaa.Fd
set_option maxRecDepth 100000
set_option linter.unusedVariables false
set_option linter.unusedSimpArgs false

/-- What a call leaves: an error, the two related, nothing older than base changed. -/
def DoneR (base p : Nat) (n : Nat → Nat) (r : Int × Ar) (G : Nat) (w : World) (e : Ending) (w' : World) : Prop := e = .returned (.int .i64 r.1) ∧ RRel w' base p n r.2 G ∧ Tn TR base w w'
/-- Where a held number is stored. -/
theorem RRel.setHeld {w : World} {base p : Nat} {n : Nat → Nat} {A : Ar} {G : Nat} {L : List RQ} {v : Value} (hA : RAt w base p n L v) (hR : RelR A n (rbs L)) (hlen : L.length ≤ G) (hbd : ∀ x ∈ L, x.1.gen ≤ G ∧ x.1.held ≤ 1048576) (hG : G ≤ 1099511627776)
    {c i g : Int} {b : Blk} (hlt : findR c i (rbs L) < L.length) (h3 : L[findR c i (rbs L)].1.held = b.held) (h4 : L[findR c i (rbs L)].1.gen = b.gen) (h5 : L[findR c i (rbs L)].1.mem = b.mem) (c0 : 0 ≤ c) (c4 : c < 4) (i0 : 0 ≤ i) (hb : (A c.toNat)[i.toNat]? = some b)
    {gg cap : Nat} (hv : v = .slice (some ⟨gg, 0, none⟩) L.length cap) (h' : Nat) (hh : h' ≤ 1048576) :
    RRel (w.setCell ⟨gg, findR c i (rbs L) * 5 + 3, none⟩ (.int .i64 (h' : Int))) base p n (putA A (c, i, g) { b with held := h' }) G ∧ Tn TR base w (w.setCell ⟨gg, findR c i (rbs L) * 5 + 3, none⟩ (.int .i64 (h' : Int))) := by
  have hr : (rbs L)[findR c i (rbs L)]? = some L[findR c i (rbs L)].1 := by
    rw [List.getElem?_eq_getElem (by rw [rbs_length]; exact hlt), rbs_at L _ hlt]
  have hput := hR.put (g := g) c0 c4 i0 hb hr h3 (x := { L[findR c i (rbs L)].1 with held := h' }) (y := { b with held := h' }) rfl rfl h4 rfl (fun _ => h5)
  have hst := hA.store hlt hv (t := 3) (by decide) (u := .int .i64 (h' : Int)) (x := ({ L[findR c i (rbs L)].1 with held := h' }, L[findR c i (rbs L)].2)) rfl rfl rfl rfl
  refine ⟨⟨⟨_, v, hst, by rw [rbs_set]; exact hput, by rw [List.length_set]; exact hlen, fun y hy => ?_⟩, hG⟩, Tn.set (hA.rowIs hv).1 (hA.rowIs hv).2 _⟩
  rcases List.mem_or_eq_of_mem_set hy with hy | rfl
  · exact hbd y hy
  · exact ⟨(hbd _ (List.getElem_mem hlt)).1, hh⟩
set_option maxHeartbeats 8000000 in
theorem hold_any {base p : Nat} {n : Nat → Nat} {A : Ar} {G : Nat} (c i g : Int) (w : World) (h : RRel w base p n A G) :
    Calls Try.prog 40 #[.pointer (some ⟨p, 0, none⟩), .int .i64 c, .int .i64 i, .int .i64 g] w (DoneR base p n (holdA A (c, i, g)) G w) := by
  obtain ⟨L, v, hA, hR, hlen, hbd⟩ := h.it
  obtain ⟨a, cap, hv⟩ := hA.form
  have hc4 := hA.arenaV
  rw [hv] at hc4
  have HF := Lib.hid (right_any c i g w hA (Nat.le_trans hlen h.small))
  rcases right_rel hR c i g with ⟨h1, h2⟩ | ⟨b, hlt, h1, h2, h3, h4, h5, h6, h7, c0, cc4, i0, hb⟩
  · have HV := Lib.hid (show holdA A (c, i, g) = (15, A) from by unfold holdA; rw [h1])
    have HH := Lib.hid h
    rw [h2] at HF
    clear h1 h2 hA hR hv h hbd
    go_enter Try.func40, Try.ntmps40
    go_wp2_with fail
    refine HF.out.mono ?_
    rintro e w1 ⟨rfl, rfl⟩
    go_wp2_with fail
    go_ret
    exact ⟨by rw [HV.out]; rfl, by rw [HV.out]; exact HH.out, Tn.refl _ _ _⟩
  · obtain ⟨gg, cap', hv', _, _, hcell, hfr⟩ := hA.entry hlt
    have hv2 := hv
    rw [hv] at hv'
    injection hv' with e1 e2 e3
    subst e1 e3
    have d3 := hcell 3 (by decide)
    have f3 := hfr (findR c i (rbs L) * 5 + 3)
    have hhb : b.held ≤ 1048576 := by have := (hbd _ (List.getElem_mem hlt)).2; omega
    have HH := Lib.hid h
    by_cases hbig : b.held = 1048576
    · have HV := Lib.hid (show holdA A (c, i, g) = (3, A) from by unfold holdA; rw [h1]; show (if _ then _ else _) = _; rw [if_pos hbig])
      rw [h2] at HF
      generalize findR c i (rbs L) = k at hlt hcell HF h3 d3 f3
      replace d3 : w.cell? ⟨gg, k * 5 + 3, none⟩ = some (.int .i64 (L[k].1.held : Int)) := d3
      rw [h3] at d3
      have hkl : k < L.length := hlt
      clear h2 hA hR hv hv2 h hcell hfr h3 h4 h5 hbd
      have be : ((b.held : Int) == 1048576) = true := by rw [hbig]; rfl
      clear hbig hhb h6 h7 h1
      go_enter Try.func40, Try.ntmps40
      go_wp2_with fail
      refine HF.out.mono ?_
      rintro e w1 ⟨rfl, rfl⟩
      go_wp2_with fail
      go_ret
      exact ⟨by rw [HV.out]; rfl, by rw [HV.out]; exact HH.out, Tn.refl _ _ _⟩
    · have HV := Lib.hid (show holdA A (c, i, g) = (0, putA A (c, i, g) { b with held := b.held + 1 }) from by unfold holdA; rw [h1]; show (if _ then _ else _) = _; rw [if_neg hbig])
      have HS := Lib.hid (RRel.setHeld (g := g) hA hR hlen hbd h.small hlt h3 h4 h5 c0 cc4 i0 hb hv2 (b.held + 1) (by omega))
      rw [h2] at HF
      generalize findR c i (rbs L) = k at hlt hcell HF h3 d3 f3 HS
      replace d3 : w.cell? ⟨gg, k * 5 + 3, none⟩ = some (.int .i64 (L[k].1.held : Int)) := d3
      rw [h3] at d3
      have hkl : k < L.length := hlt
      clear h2 hA hR hv hv2 h hcell hfr h3 h4 h5 hbd
      have be : ((b.held : Int) == 1048576) = false := by rw [beq_eq_false_iff_ne]; omega
      have hbi : (b.held : Int) ≤ 1048575 := by omega
      clear hbig hhb h6 h7 h1
      go_enter Try.func40, Try.ntmps40
      go_wp2_with fail
      refine HF.out.mono ?_
      rintro e w1 ⟨rfl, rfl⟩
      go_wp2_with fail
      go_ret
      exact ⟨by rw [HV.out]; rfl, by rw [HV.out]; exact HS.out.1, HS.out.2⟩
set_option maxHeartbeats 8000000 in
theorem drop_any {base p : Nat} {n : Nat → Nat} {A : Ar} {G : Nat} (c i g : Int) (w : World) (h : RRel w base p n A G) :
    Calls Try.prog 37 #[.pointer (some ⟨p, 0, none⟩), .int .i64 c, .int .i64 i, .int .i64 g] w (DoneR base p n (dropA A (c, i, g)) G w) := by
  obtain ⟨L, v, hA, hR, hlen, hbd⟩ := h.it
  obtain ⟨a, cap, hv⟩ := hA.form
  have hc4 := hA.arenaV
  rw [hv] at hc4
  have HF := Lib.hid (right_any c i g w hA (Nat.le_trans hlen h.small))
  rcases right_rel hR c i g with ⟨h1, h2⟩ | ⟨b, hlt, h1, h2, h3, h4, h5, h6, h7, c0, cc4, i0, hb⟩
  · have HV := Lib.hid (show dropA A (c, i, g) = (15, A) from by unfold dropA; rw [h1])
    have HH := Lib.hid h
    rw [h2] at HF
    clear h1 h2 hA hR hv h hbd
    go_enter Try.func37, Try.ntmps37
    go_wp2_with fail
    refine HF.out.mono ?_
    rintro e w1 ⟨rfl, rfl⟩
    go_wp2_with fail
    go_ret
    exact ⟨by rw [HV.out]; rfl, by rw [HV.out]; exact HH.out, Tn.refl _ _ _⟩
  · obtain ⟨gg, cap', hv', _, _, hcell, hfr⟩ := hA.entry hlt
    have hv2 := hv
    rw [hv] at hv'
    injection hv' with e1 e2 e3
    subst e1 e3
    have d3 := hcell 3 (by decide)
    have f3 := hfr (findR c i (rbs L) * 5 + 3)
    have hhb : b.held ≤ 1048576 := by have := (hbd _ (List.getElem_mem hlt)).2; omega
    have HH := Lib.hid h
    have HV := Lib.hid (show dropA A (c, i, g) = (0, putA A (c, i, g) { b with held := b.held - 1 }) from by unfold dropA; rw [h1])
    have HS := Lib.hid (RRel.setHeld (g := g) hA hR hlen hbd h.small hlt h3 h4 h5 c0 cc4 i0 hb hv2 (b.held - 1) (by omega))
    rw [h2] at HF
    generalize findR c i (rbs L) = k at hlt hcell HF h3 d3 f3 HS
    replace d3 : w.cell? ⟨gg, k * 5 + 3, none⟩ = some (.int .i64 (L[k].1.held : Int)) := d3
    rw [h3] at d3
    have hkl : k < L.length := hlt
    clear h2 hA hR hv hv2 h hcell hfr h3 h4 h5 hbd
    have hbi : 1 ≤ (b.held : Int) := by omega
    have hbj : (b.held : Int) ≤ 1048576 := by omega
    have hsub : ((b.held - 1 : Nat) : Int) = (b.held : Int) - 1 := by omega
    rw [hsub] at HS
    clear hhb h6 h7 h1 hsub
    go_enter Try.func37, Try.ntmps37
    go_wp2_with fail
    refine HF.out.mono ?_
    rintro e w1 ⟨rfl, rfl⟩
    go_wp2_with fail
    go_ret
    exact ⟨by rw [HV.out]; rfl, by rw [HV.out]; exact HS.out.1, HS.out.2⟩
end Go.Proofs.Ytbpadliiekhkjaa.Sl
/-
  The reference's Write beside the plain arena. Condition: they are related ahead; the bytes lie in a block that is older than the arena.
-/
-- cut by strips.py
namespace Go.Proofs.Ytbpadliiekhkjaa.Sl
open Go.RowKit Go.Proofs.Ytbpadliiekhkjaa.Fd
set_option maxRecDepth 100000
set_option linter.unusedVariables false
set_option linter.unusedSimpArgs false

/-- A slice that reads as these bytes, in a block below base. -/
def BytesL (w : World) (base : Nat) (v : Value) (bs : Tk.Bs) : Prop :=
  (bs = [] ∧ ∃ a cap, v = .slice a 0 cap) ∨ ∃ g off cap, v = .slice (some ⟨g, off, none⟩) bs.length cap ∧ g < base ∧ ∀ j (hj : j < bs.length), w.cell? ⟨g, off + j, none⟩ = some (.int .u8 (bs[j].toNat : Int))
theorem BytesL.form {w : World} {base : Nat} {v : Value} {bs : Tk.Bs} (h : BytesL w base v bs) : ∃ a cap, v = .slice a bs.length cap := by
  rcases h with ⟨rfl, a, cap, hv⟩ | ⟨g, off, cap, hv, _⟩
  · exact ⟨a, cap, hv⟩
  · exact ⟨_, cap, hv⟩
theorem fits_iff' {c i n : Int} : fitsI c i n = true ↔ 0 ≤ i ∧ i ≤ sizesI c ∧ 0 ≤ n ∧ n ≤ sizesI c - i := by unfold fitsI; rw [decide_eq_true_iff]
theorem sizes_le' (c : Int) : 0 ≤ sizesI c ∧ sizesI c ≤ 4096 := by
  unfold sizesI
  split
  · rename_i h
    rcases (by omega : c = 0 ∨ c = 1 ∨ c = 2 ∨ c = 3) with rfl | rfl | rfl | rfl <;> decide
  · decide
/-- So many of the bytes are written. -/
structure Wr (w : World) (base p : Nat) (n : Nat → Nat) (L : List RQ) (v : Value) (k : Nat) (x : RB) (q : Nat) (at' : Nat) (bs : Tk.Bs) (t : Nat) (wr : World) : Prop where
  rat : RAt wr base p n (L.set k ({ x with mem := lay x.mem at' (bs.take t) }, q)) v
  bel : Tn TR base w wr
end Go.Proofs.Ytbpadliiekhkjaa.Sl
