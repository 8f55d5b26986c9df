/-
  The reference's Sizes, Held, Hold and Drop beside the plain arena: what each returns, and that the two stay related. Condition: they are related ahead.
-/
import Derived.Test.YtheljldoboiekaaSlFind
import Derived.Test.YtheljldoboiekaaSlTn
namespace Go.Proofs.Ytheljldoboiekaa.Sl
open Go.RowKit Go.Proofs.Ytheljldoboiekaa.Fd
set_option maxRecDepth 100000
set_option linter.unusedVariables false
set_option linter.unusedSimpArgs false

theorem flatR_set (u : Value) (t : Nat) (ht : t < 5) : ∀ (L : List RQ) (k : Nat) (x : RQ), (hk : k < L.length) → five x = (five L[k]).set t u → flatR (L.set k x) = (flatR L).set (k * 5 + t) u
  | [], k, x, hk, _ => absurd hk (by simp)
  | y :: r, 0, x, _, h => by
    have h : five x = (five y).set t u := h
    show five x ++ flatR r = (five y ++ flatR r).set _ u
    rw [Nat.zero_mul, Nat.zero_add, List.set_append_left _ _ (by show t < 5; exact ht), h]
  | y :: r, k + 1, x, hk, h => by
    show five y ++ flatR (r.set k x) = (five y ++ flatR r).set _ u
    rw [List.set_append_right _ _ (by show 5 ≤ _; omega), flatR_set u t ht r k x (by simpa using hk) (by simpa using h)]
    congr 2
    show _ = _ - 5
    omega
theorem rbs_set (L : List RQ) (k : Nat) (x : RQ) : rbs (L.set k x) = (rbs L).set k x.1 := by unfold rbs; rw [List.map_set]
/-- One number of an entry is stored. -/
theorem RAt.store {w : World} {base p : Nat} {n : Nat → Nat} {L : List RQ} {v : Value} (h : RAt w base p n L v) {k : Nat} (hk : k < L.length) {g cap : Nat} (hv : v = .slice (some ⟨g, 0, none⟩) L.length cap) {t : Nat} (ht : t < 5) {u : Value} {x : RQ}
    (hx : five x = (five L[k]).set t u) (hq : x.2 = L[k].2) (hm : x.1.mem = L[k].1.mem) (hc : x.1.c = L[k].1.c) : RAt (w.setCell ⟨g, k * 5 + t, none⟩ u) base p n (L.set k x) v := by
  have hg : v.ownBlock = some g := by rw [hv]; rfl
  have hne : ∀ b, b ≠ g → (w.setCell ⟨g, k * 5 + t, none⟩ u).heap[b]? = w.heap[b]? := fun b hb => by simp [World.setCell, Array.getElem?_modify, Ne.symm hb]
  have hmem : ∀ y ∈ L.set k x, ∃ z ∈ L, y.2 = z.2 ∧ y.1.mem = z.1.mem ∧ y.1.c = z.1.c := by
    intro y hy
    rcases List.mem_or_eq_of_mem_set hy with hy | rfl
    · exact ⟨y, hy, rfl, rfl, rfl⟩
    · exact ⟨L[k], List.getElem_mem hk, hq, hm, hc⟩
  have hmap : (L.set k x).map (fun x => x.2) = L.map fun x => x.2 := by
    rw [List.map_set, hq]
    apply List.ext_getElem?
    intro j
    by_cases hj : k = j
    · subst hj; rw [List.getElem?_set_self (by simpa using hk)]; simp [hk]
    · rw [List.getElem?_set_ne hj]
  refine ⟨?_, ?_, ?_, ?_, by rw [hmap]; exact h.nodup, h.out⟩
  · rw [hne p (fun e => h.out.2 (by rw [hg, e]))]; exact h.arena
  · rw [flatR_set u t ht L k x hk hx, List.length_set]
    have hr := h.row
    rw [hv] at hr ⊢
    exact (World.ownsRow.stored hr (k * 5 + t) u).1
  · intro y hy
    obtain ⟨z, hz, e1, e2, e3⟩ := hmem y hy
    rw [e1, e2, e3, hne z.2 (fun e => (h.apart z hz).2.2 (by rw [hg, e]))]
    exact h.mem z hz
  · intro y hy
    obtain ⟨z, hz, e1, _, _⟩ := hmem y hy
    rw [e1]; exact h.apart z hz
/-- The reference's arena and the plain one; G bounds how many blocks were taken, and how often. -/
structure RRel (w : World) (base p : Nat) (n : Nat → Nat) (A : Ar) (G : Nat) : Prop where
  it : ∃ L v, RAt w base p n L v ∧ RelR A n (rbs L) ∧ L.length ≤ G ∧ (∀ x ∈ L, x.1.gen ≤ G ∧ x.1.held ≤ 1048576)
  small : G ≤ 1099511627776
theorem RRel.same {w w' : World} {base p : Nat} {n : Nat → Nat} {A : Ar} {G : Nat} (h : RRel w base p n A G) (hb : Below w.heap.size w w') : RRel w' base p n A G := by
  obtain ⟨L, v, h1, h2⟩ := h.it
  exact ⟨⟨L, v, h1.same hb, h2⟩, h.small⟩
/-- The types of the reference's blocks. -/
def TR (t : TypeId) : Bool := t == 70 || t == 82 || t == 3
theorem RAt.rowIs {w : World} {base p : Nat} {n : Nat → Nat} {L : List RQ} {v : Value} (h : RAt w base p n L v) {g a c : Nat} (hv : v = .slice (some ⟨g, 0, none⟩) a c) : IsT TR w g ∧ base ≤ g := by
  refine ⟨?_, (World.ownsRow.lt h.row g (by rw [hv]; rfl)).1⟩
  rcases h.row.2 with ⟨h1, _⟩ | ⟨b, cap, cur, h1, _, h3, _⟩
  · rw [hv] at h1; cases h1
  · rw [hv] at h1
    injection h1 with e
    injection e with e
    injection e with e
    subst e
    exact ⟨_, _, _, h3, rfl⟩
theorem RAt.tn {T : TypeId → Bool} {b0 : Nat} {w w' : World} {base p : Nat} {n : Nat → Nat} {L : List RQ} {v : Value} (h : RAt w base p n L v) (ht : Tn T b0 w w') (hT : ∀ t, TR t = true → T t = false) : RAt w' base p n L v := by
  refine ⟨ht.other h.arena (hT _ rfl), ?_, fun x hx => ⟨ht.other (h.mem x hx).1 (hT _ rfl), (h.mem x hx).2⟩, h.apart, h.nodup, h.out⟩
  have hr := h.row
  refine ⟨hr.1, ?_⟩
  rcases hr.2 with ⟨h1, h2⟩ | ⟨g, cap, cur, h1, h2, h3, h4⟩
  · exact .inl ⟨h1, h2⟩
  · exact .inr ⟨g, cap, cur, h1, h2, ht.other h3 (hT _ rfl), h4⟩
theorem RRel.tn {T : TypeId → Bool} {b0 : Nat} {w w' : World} {base p : Nat} {n : Nat → Nat} {A : Ar} {G : Nat} (h : RRel w base p n A G) (ht : Tn T b0 w w') (hT : ∀ t, TR t = true → T t = false) : RRel w' base p n A G := by
  obtain ⟨L, v, h1, h2⟩ := h.it
  exact ⟨⟨L, v, h1.tn ht hT, h2⟩, h.small⟩
/-- What a handle is to both. -/
theorem right_rel {A : Ar} {n : Nat → Nat} {L : List RQ} (h : RelR A n (rbs L)) (c i g : Int) :
    (rightA A (c, i, g) = none ∧ rightI c i g L = -1) ∨
    ∃ b, ∃ hk : findR c i (rbs L) < L.length, rightA A (c, i, g) = some b ∧ rightI c i g L = findR c i (rbs L) ∧ L[findR c i (rbs L)].1.held = b.held ∧ L[findR c i (rbs L)].1.gen = b.gen ∧ L[findR c i (rbs L)].1.mem = b.mem ∧
      b.held ≠ 0 ∧ (b.gen : Int) = g ∧ 0 ≤ c ∧ c < 4 ∧ 0 ≤ i ∧ (A c.toNat)[i.toNat]? = some b := by
  rcases h.right c i g with ⟨h1, h2⟩ | ⟨b, r, h1, h2, h3, h4, h5, h6⟩
  · left
    refine ⟨h1, ?_⟩
    unfold rightI
    split
    · rename_i hlt
      have hr : (rbs L)[findR c i (rbs L)]? = some L[findR c i (rbs L)].1 := by
        rw [List.getElem?_eq_getElem (by rw [rbs_length]; exact hlt), rbs_at L _ hlt]
      rw [if_pos (h2 _ hr)]
    · rfl
  · right
    obtain ⟨hlr, e⟩ := List.getElem?_eq_some_iff.1 h2
    have hlt : findR c i (rbs L) < L.length := by rw [← rbs_length]; exact hlr
    rw [rbs_at L _ hlt] at e
    refine ⟨b, hlt, h1, ?_, by rw [e]; exact h3, by rw [e]; exact h4, by rw [e]; exact h5, h6⟩
    unfold rightI
    rw [dif_pos hlt, if_neg (by rw [e]; rintro (q | q); exact h6.1 (by omega); exact q (by omega))]
set_option maxHeartbeats 4000000 in
theorem sizes_any (c : Int) (w : World) : Calls Try.prog 26 #[.int .i64 c] w fun e w' => e = .returned (.int .i64 (sizesI c)) ∧ Below w.heap.size w w' := by
  have HB := Lib.hid ((Below.refl w.heap.size w).alloc (Nat.le_refl _) (.cells #[.int .i64 64, .int .i64 256, .int .i64 1024, .int .i64 4096] 3))
  by_cases hc : 0 ≤ c ∧ c ≤ 3
  · rcases (by omega : c = 0 ∨ c = 1 ∨ c = 2 ∨ c = 3) with rfl | rfl | rfl | rfl
    all_goals
      go_enter Try.func26, Try.ntmps26
      go_wp2_with fail
      go_ret
      exact ⟨rfl, HB.out⟩
  · have HV := Lib.hid (show sizesI c = 0 from by unfold sizesI; rw [if_neg hc])
    rcases (by omega : c < 0 ∨ 3 < c) with hc | hc
    all_goals
      go_enter Try.func26, Try.ntmps26
      go_wp2_with fail
      go_ret
      exact ⟨by rw [HV.out]; rfl, Below.refl _ _⟩
set_option maxHeartbeats 4000000 in
theorem held_any {base p : Nat} {n : Nat → Nat} {A : Ar} {G : Nat} (c i g : Int) (w : World) (h : RRel w base p n A G) :
    Calls Try.prog 23 #[.pointer (some ⟨p, 0, none⟩), .int .i64 c, .int .i64 i, .int .i64 g] w fun e w' => e = .returned (.int .i64 (heldA A (c, i, g))) ∧ w = w' := by
  obtain ⟨L, v, hA, hR, hlen, hbd⟩ := h.it
  obtain ⟨a, cap, hv⟩ := hA.form
  have hc4 := hA.arenaV
  rw [hv] at hc4
  have HF := Lib.hid (right_any c i g w hA (Nat.le_trans hlen h.small))
  rcases right_rel hR c i g with ⟨h1, h2⟩ | ⟨b, hlt, h1, h2, h3, _⟩
  · have HV := Lib.hid (show heldA A (c, i, g) = 0 from by unfold heldA; rw [h1])
    rw [h2] at HF
    clear h1 h2 hA hR hv h
    go_enter Try.func23, Try.ntmps23
    go_wp2_with fail
    refine HF.out.mono ?_
    rintro e w1 ⟨rfl, rfl⟩
    go_wp2_with fail
    go_ret
    exact ⟨by rw [HV.out]; rfl, rfl⟩
  · have HV := Lib.hid (show heldA A (c, i, g) = b.held from by unfold heldA; rw [h1])
    obtain ⟨gg, cap', hv', _, _, hcell, _⟩ := hA.entry hlt
    rw [hv] at hv'
    injection hv' with e1 e2 e3
    subst e1 e3
    have d3 := hcell 3 (by decide)
    rw [h2] at HF
    generalize findR c i (rbs L) = k at hlt hcell HF h3 d3
    replace d3 : w.cell? ⟨gg, k * 5 + 3, none⟩ = some (.int .i64 (L[k].1.held : Int)) := d3
    rw [h3] at d3
    have hkl : k < L.length := hlt
    clear h1 h2 hA hR hv h hcell h3
    go_enter Try.func23, Try.ntmps23
    go_wp2_with fail
    refine HF.out.mono ?_
    rintro e w1 ⟨rfl, rfl⟩
    go_wp2_with fail
    go_ret
    exact ⟨by rw [HV.out]; rfl, rfl⟩
end Go.Proofs.Ytheljldoboiekaa.Sl
