/-
  The reference's Hold and Drop beside the plain arena. Condition: they are related ahead.
-/
import Derived.Test.YtheljldoboiekaaSlOps
namespace Go.Proofs.Ytheljldoboiekaa.Sl
open Go.RowKit Go.Proofs.Ytheljldoboiekaa.Fd
set_option maxRecDepth 100000
set_option linter.unusedVariables false
set_option linter.unusedSimpArgs false

/-- What a call leaves: an error, the two related, nothing older than base changed. -/
def DoneR (base p : Nat) (n : Nat → Nat) (r : Int × Ar) (G : Nat) (w : World) (e : Ending) (w' : World) : Prop := e = .returned (.int .i64 r.1) ∧ RRel w' base p n r.2 G ∧ Tn TR base w w'
/-- Where a held number is stored. -/
theorem RRel.setHeld {w : World} {base p : Nat} {n : Nat → Nat} {A : Ar} {G : Nat} {L : List RQ} {v : Value} (hA : RAt w base p n L v) (hR : RelR A n (rbs L)) (hlen : L.length ≤ G) (hbd : ∀ x ∈ L, x.1.gen ≤ G ∧ x.1.held ≤ 1048576) (hG : G ≤ 1099511627776)
    {c i g : Int} {b : Blk} (hlt : findR c i (rbs L) < L.length) (h3 : L[findR c i (rbs L)].1.held = b.held) (h4 : L[findR c i (rbs L)].1.gen = b.gen) (h5 : L[findR c i (rbs L)].1.mem = b.mem) (c0 : 0 ≤ c) (c4 : c < 4) (i0 : 0 ≤ i) (hb : (A c.toNat)[i.toNat]? = some b)
    {gg cap : Nat} (hv : v = .slice (some ⟨gg, 0, none⟩) L.length cap) (h' : Nat) (hh : h' ≤ 1048576) :
    RRel (w.setCell ⟨gg, findR c i (rbs L) * 5 + 3, none⟩ (.int .i64 (h' : Int))) base p n (putA A (c, i, g) { b with held := h' }) G ∧ Tn TR base w (w.setCell ⟨gg, findR c i (rbs L) * 5 + 3, none⟩ (.int .i64 (h' : Int))) := by
  have hr : (rbs L)[findR c i (rbs L)]? = some L[findR c i (rbs L)].1 := by
    rw [List.getElem?_eq_getElem (by rw [rbs_length]; exact hlt), rbs_at L _ hlt]
  have hput := hR.put (g := g) c0 c4 i0 hb hr h3 (x := { L[findR c i (rbs L)].1 with held := h' }) (y := { b with held := h' }) rfl rfl h4 rfl (fun _ => h5)
  have hst := hA.store hlt hv (t := 3) (by decide) (u := .int .i64 (h' : Int)) (x := ({ L[findR c i (rbs L)].1 with held := h' }, L[findR c i (rbs L)].2)) rfl rfl rfl rfl
  refine ⟨⟨⟨_, v, hst, by rw [rbs_set]; exact hput, by rw [List.length_set]; exact hlen, fun y hy => ?_⟩, hG⟩, Tn.set (hA.rowIs hv).1 (hA.rowIs hv).2 _⟩
  rcases List.mem_or_eq_of_mem_set hy with hy | rfl
  · exact hbd y hy
  · exact ⟨(hbd _ (List.getElem_mem hlt)).1, hh⟩
set_option maxHeartbeats 8000000 in
theorem hold_any {base p : Nat} {n : Nat → Nat} {A : Ar} {G : Nat} (c i g : Int) (w : World) (h : RRel w base p n A G) :
    Calls Try.prog 14 #[.pointer (some ⟨p, 0, none⟩), .int .i64 c, .int .i64 i, .int .i64 g] w (DoneR base p n (holdA A (c, i, g)) G w) := by
  obtain ⟨L, v, hA, hR, hlen, hbd⟩ := h.it
  obtain ⟨a, cap, hv⟩ := hA.form
  have hc4 := hA.arenaV
  rw [hv] at hc4
  have HF := Lib.hid (right_any c i g w hA (Nat.le_trans hlen h.small))
  rcases right_rel hR c i g with ⟨h1, h2⟩ | ⟨b, hlt, h1, h2, h3, h4, h5, h6, h7, c0, cc4, i0, hb⟩
  · have HV := Lib.hid (show holdA A (c, i, g) = (15, A) from by unfold holdA; rw [h1])
    have HH := Lib.hid h
    rw [h2] at HF
    clear h1 h2 hA hR hv h hbd
    go_enter Try.func14, Try.ntmps14
    go_wp2_with fail
    refine HF.out.mono ?_
    rintro e w1 ⟨rfl, rfl⟩
    go_wp2_with fail
    go_ret
    exact ⟨by rw [HV.out]; rfl, by rw [HV.out]; exact HH.out, Tn.refl _ _ _⟩
  · obtain ⟨gg, cap', hv', _, _, hcell, hfr⟩ := hA.entry hlt
    have hv2 := hv
    rw [hv] at hv'
    injection hv' with e1 e2 e3
    subst e1 e3
    have d3 := hcell 3 (by decide)
    have f3 := hfr (findR c i (rbs L) * 5 + 3)
    have hhb : b.held ≤ 1048576 := by have := (hbd _ (List.getElem_mem hlt)).2; omega
    have HH := Lib.hid h
    by_cases hbig : b.held = 1048576
    · have HV := Lib.hid (show holdA A (c, i, g) = (3, A) from by unfold holdA; rw [h1]; show (if _ then _ else _) = _; rw [if_pos hbig])
      rw [h2] at HF
      generalize findR c i (rbs L) = k at hlt hcell HF h3 d3 f3
      replace d3 : w.cell? ⟨gg, k * 5 + 3, none⟩ = some (.int .i64 (L[k].1.held : Int)) := d3
      rw [h3] at d3
      have hkl : k < L.length := hlt
      clear h2 hA hR hv hv2 h hcell hfr h3 h4 h5 hbd
      have be : ((b.held : Int) == 1048576) = true := by rw [hbig]; rfl
      clear hbig hhb h6 h7 h1
      go_enter Try.func14, Try.ntmps14
      go_wp2_with fail
      refine HF.out.mono ?_
      rintro e w1 ⟨rfl, rfl⟩
      go_wp2_with fail
      go_ret
      exact ⟨by rw [HV.out]; rfl, by rw [HV.out]; exact HH.out, Tn.refl _ _ _⟩
    · have HV := Lib.hid (show holdA A (c, i, g) = (0, putA A (c, i, g) { b with held := b.held + 1 }) from by unfold holdA; rw [h1]; show (if _ then _ else _) = _; rw [if_neg hbig])
      have HS := Lib.hid (RRel.setHeld (g := g) hA hR hlen hbd h.small hlt h3 h4 h5 c0 cc4 i0 hb hv2 (b.held + 1) (by omega))
      rw [h2] at HF
      generalize findR c i (rbs L) = k at hlt hcell HF h3 d3 f3 HS
      replace d3 : w.cell? ⟨gg, k * 5 + 3, none⟩ = some (.int .i64 (L[k].1.held : Int)) := d3
      rw [h3] at d3
      have hkl : k < L.length := hlt
      clear h2 hA hR hv hv2 h hcell hfr h3 h4 h5 hbd
      have be : ((b.held : Int) == 1048576) = false := by rw [beq_eq_false_iff_ne]; omega
      have hbi : (b.held : Int) ≤ 1048575 := by omega
      clear hbig hhb h6 h7 h1
      go_enter Try.func14, Try.ntmps14
      go_wp2_with fail
      refine HF.out.mono ?_
      rintro e w1 ⟨rfl, rfl⟩
      go_wp2_with fail
      go_ret
      exact ⟨by rw [HV.out]; rfl, by rw [HV.out]; exact HS.out.1, HS.out.2⟩
set_option maxHeartbeats 8000000 in
theorem drop_any {base p : Nat} {n : Nat → Nat} {A : Ar} {G : Nat} (c i g : Int) (w : World) (h : RRel w base p n A G) :
    Calls Try.prog 16 #[.pointer (some ⟨p, 0, none⟩), .int .i64 c, .int .i64 i, .int .i64 g] w (DoneR base p n (dropA A (c, i, g)) G w) := by
  obtain ⟨L, v, hA, hR, hlen, hbd⟩ := h.it
  obtain ⟨a, cap, hv⟩ := hA.form
  have hc4 := hA.arenaV
  rw [hv] at hc4
  have HF := Lib.hid (right_any c i g w hA (Nat.le_trans hlen h.small))
  rcases right_rel hR c i g with ⟨h1, h2⟩ | ⟨b, hlt, h1, h2, h3, h4, h5, h6, h7, c0, cc4, i0, hb⟩
  · have HV := Lib.hid (show dropA A (c, i, g) = (15, A) from by unfold dropA; rw [h1])
    have HH := Lib.hid h
    rw [h2] at HF
    clear h1 h2 hA hR hv h hbd
    go_enter Try.func16, Try.ntmps16
    go_wp2_with fail
    refine HF.out.mono ?_
    rintro e w1 ⟨rfl, rfl⟩
    go_wp2_with fail
    go_ret
    exact ⟨by rw [HV.out]; rfl, by rw [HV.out]; exact HH.out, Tn.refl _ _ _⟩
  · obtain ⟨gg, cap', hv', _, _, hcell, hfr⟩ := hA.entry hlt
    have hv2 := hv
    rw [hv] at hv'
    injection hv' with e1 e2 e3
    subst e1 e3
    have d3 := hcell 3 (by decide)
    have f3 := hfr (findR c i (rbs L) * 5 + 3)
    have hhb : b.held ≤ 1048576 := by have := (hbd _ (List.getElem_mem hlt)).2; omega
    have HH := Lib.hid h
    have HV := Lib.hid (show dropA A (c, i, g) = (0, putA A (c, i, g) { b with held := b.held - 1 }) from by unfold dropA; rw [h1])
    have HS := Lib.hid (RRel.setHeld (g := g) hA hR hlen hbd h.small hlt h3 h4 h5 c0 cc4 i0 hb hv2 (b.held - 1) (by omega))
    rw [h2] at HF
    generalize findR c i (rbs L) = k at hlt hcell HF h3 d3 f3 HS
    replace d3 : w.cell? ⟨gg, k * 5 + 3, none⟩ = some (.int .i64 (L[k].1.held : Int)) := d3
    rw [h3] at d3
    have hkl : k < L.length := hlt
    clear h2 hA hR hv hv2 h hcell hfr h3 h4 h5 hbd
    have hbi : 1 ≤ (b.held : Int) := by omega
    have hbj : (b.held : Int) ≤ 1048576 := by omega
    have hsub : ((b.held - 1 : Nat) : Int) = (b.held : Int) - 1 := by omega
    rw [hsub] at HS
    clear hhb h6 h7 h1 hsub
    go_enter Try.func16, Try.ntmps16
    go_wp2_with fail
    refine HF.out.mono ?_
    rintro e w1 ⟨rfl, rfl⟩
    go_wp2_with fail
    go_ret
    exact ⟨by rw [HV.out]; rfl, by rw [HV.out]; exact HS.out.1, HS.out.2⟩
end Go.Proofs.Ytheljldoboiekaa.Sl
