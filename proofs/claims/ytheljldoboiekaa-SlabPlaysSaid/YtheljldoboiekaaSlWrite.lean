/-
  The reference's Write beside the plain arena. Condition: they are related ahead; the bytes lie in a block that is older than the arena.
-/
import Derived.Test.YtheljldoboiekaaSlWrMath
import Derived.Test.YtheljldoboiekaaSlHold
import Derived.Deep.DeepCutAuto
import Derived.Deep.RegionWith
import Derived.Test.YtheljldoboiekaaRgSto
namespace Go.Proofs.Ytheljldoboiekaa.Sl
open Go.RowKit Go.Proofs.Ytheljldoboiekaa.Fd
set_option maxRecDepth 100000
set_option linter.unusedVariables false
set_option linter.unusedSimpArgs false

/-- A slice that reads as these bytes, in a block below base. -/
def BytesL (w : World) (base : Nat) (v : Value) (bs : Tk.Bs) : Prop :=
  (bs = [] ∧ ∃ a cap, v = .slice a 0 cap) ∨ ∃ g off cap, v = .slice (some ⟨g, off, none⟩) bs.length cap ∧ g < base ∧ ∀ j (hj : j < bs.length), w.cell? ⟨g, off + j, none⟩ = some (.int .u8 (bs[j].toNat : Int))
theorem BytesL.form {w : World} {base : Nat} {v : Value} {bs : Tk.Bs} (h : BytesL w base v bs) : ∃ a cap, v = .slice a bs.length cap := by
  rcases h with ⟨rfl, a, cap, hv⟩ | ⟨g, off, cap, hv, _⟩
  · exact ⟨a, cap, hv⟩
  · exact ⟨_, cap, hv⟩
theorem fits_iff' {c i n : Int} : fitsI c i n = true ↔ 0 ≤ i ∧ i ≤ sizesI c ∧ 0 ≤ n ∧ n ≤ sizesI c - i := by unfold fitsI; rw [decide_eq_true_iff]
theorem sizes_le' (c : Int) : 0 ≤ sizesI c ∧ sizesI c ≤ 4096 := by
  unfold sizesI
  split
  · rename_i h
    rcases (by omega : c = 0 ∨ c = 1 ∨ c = 2 ∨ c = 3) with rfl | rfl | rfl | rfl <;> decide
  · decide
/-- So many of the bytes are written. -/
structure Wr (w : World) (base p : Nat) (n : Nat → Nat) (L : List RQ) (v : Value) (k : Nat) (x : RB) (q : Nat) (at' : Nat) (bs : Tk.Bs) (t : Nat) (wr : World) : Prop where
  rat : RAt wr base p n (L.set k ({ x with mem := lay x.mem at' (bs.take t) }, q)) v
  bel : Tn TR base w wr
set_option maxHeartbeats 8000000 in
theorem write_any {base p : Nat} {n : Nat → Nat} {A : Ar} {G : Nat} (c i g at' : Int) (bv : Value) (bs : Tk.Bs) (w : World) (h : RRel w base p n A G) (hbs : BytesL w base bv bs) (hbl : bs.length ≤ 1099511627776) :
    Calls Try.prog 18 #[.pointer (some ⟨p, 0, none⟩), .int .i64 c, .int .i64 i, .int .i64 g, .int .i64 at', bv] w (DoneR base p n (writeA A (c, i, g) at' bs) G w) := by
  obtain ⟨ba, bc, rfl⟩ := hbs.form
  obtain ⟨L, v, hA, hR, hlen, hbd⟩ := h.it
  obtain ⟨a, cap, hv⟩ := hA.form
  have hc4 := hA.arenaV
  rw [hv] at hc4
  have HF := Lib.hid (right_any c i g w hA (Nat.le_trans hlen h.small))
  have HH := Lib.hid h
  rcases right_rel hR c i g with ⟨h1, h2⟩ | ⟨b, hlt, h1, h2, h3, h4, h5, h6, h7, c0, cc4, i0', hb⟩
  · have HV := Lib.hid (show writeA A (c, i, g) at' bs = (15, A) from by unfold writeA; rw [h1])
    rw [h2] at HF
    clear h1 h2 hA hR hv h hbd hbs
    go_enter Try.func18, Try.ntmps18
    go_wp2_with fail
    refine HF.out.mono ?_
    rintro e w1 ⟨rfl, rfl⟩
    go_wp2_with fail
    go_ret
    exact ⟨by rw [HV.out]; rfl, by rw [HV.out]; exact HH.out, Tn.refl _ _ _⟩
  · have hr : (rbs L)[findR c i (rbs L)]? = some L[findR c i (rbs L)].1 := by
      rw [List.getElem?_eq_getElem (by rw [rbs_length]; exact hlt), rbs_at L _ hlt]
    have hkey : (L[findR c i (rbs L)].1.c : Int) = c := (of_decide_eq_true (findR_key hr)).1
    have hm2 := (hA.mem _ (List.getElem_mem hlt)).2
    have hS : sizesI c = (sizeC L[findR c i (rbs L)].1.c : Int) := by
      have e : c.toNat = L[findR c i (rbs L)].1.c := by omega
      unfold sizesI; rw [if_pos (by omega), e]
    have hSl := sizes_le' c
    have HFin := Lib.hid (show ∀ W : World, Tn TR base w W → ∀ m : Tk.Bs, RAt W base p n (L.set (findR c i (rbs L)) ({ L[findR c i (rbs L)].1 with mem := m }, L[findR c i (rbs L)].2)) v → RRel W base p n (putA A (c, i, g) { b with mem := m }) G from fun W _ m hW =>
      ⟨⟨_, v, hW, by rw [rbs_set]; exact hR.put (g := g) c0 cc4 i0' hb hr h3 (x := { L[findR c i (rbs L)].1 with mem := m }) (y := { b with mem := m }) rfl rfl h4 h3 (fun _ => rfl), by rw [List.length_set]; exact hlen, fun y hy => by
        rcases List.mem_or_eq_of_mem_set hy with hy | rfl
        · exact hbd y hy
        · exact ⟨(hbd L[findR c i (rbs L)] (List.getElem_mem hlt)).1, (hbd L[findR c i (rbs L)] (List.getElem_mem hlt)).2⟩⟩, h.small⟩)
    rw [hS] at hSl
    have HRd := Lib.hid (show writeA A (c, i, g) at' bs = if fitsI c at' bs.length then (0, putA A (c, i, g) { b with mem := lay b.mem at'.toNat bs }) else (2, A) from by unfold writeA; rw [h1])
    have hfit := fits_iff' (c := c) (i := at') (n := bs.length)
    have HSz := Lib.hid (fun V => (show Calls Try.prog 26 #[.int .i64 c] V fun e w' => e = .returned (.int .i64 (sizeC L[findR c i (rbs L)].1.c : Int)) ∧ Below V.heap.size V w' from by rw [← hS]; exact sizes_any c V))
    rw [hS] at hfit
    rw [h2] at HF
    have HA := Lib.hid hA
    have HBS := Lib.hid hbs
    have HM := Lib.hid h5
    generalize findR c i (rbs L) = k at hlt HF HFin HSz hm2 hSl hfit HM
    have hbase : base ≤ w.heap.size := Nat.le_trans hA.out.1 (Nat.le_of_lt hA.lt)
    clear h1 h2 hA hR h hbd h3 h4 h5 hb hkey hS hr hbs
    by_cases hat0 : at' < 0
    · have HV := Lib.hid (show writeA A (c, i, g) at' bs = (2, A) from by rw [HRd.out, if_neg (by rw [hfit]; omega)])
      go_enter Try.func18, Try.ntmps18
      go_wp2_with fail
      refine HF.out.mono ?_
      rintro e w1 ⟨rfl, rfl⟩
      go_wp2_with fail
      go_ret
      exact ⟨by rw [HV.out]; rfl, by rw [HV.out]; exact HH.out, Tn.refl _ _ _⟩
    · go_enter Try.func18, Try.ntmps18
      go_wp2_with fail
      refine HF.out.mono ?_
      rintro e w1 ⟨rfl, hw1⟩
      rw [← hw1]
      clear hw1
      go_wp2_with fail
      refine (HSz.out _).mono ?_
      rintro e w2 ⟨rfl, hb2⟩
      by_cases hbig : (sizeC L[k].1.c : Int) < at'
      · have HV := Lib.hid (show writeA A (c, i, g) at' bs = (2, A) from by rw [HRd.out, if_neg (by rw [hfit]; omega)])
        generalize sizeC L[k].1.c = S at hbig hSl ⊢
        go_wp2_with fail
        go_ret
        exact ⟨by rw [HV.out]; rfl, by rw [HV.out]; exact HH.out.same hb2, Tn.of_below hb2⟩
      · go_wp2_with fail
        refine (HSz.out _).mono ?_
        rintro e w3 ⟨rfl, hb3⟩
        have hB3 := Bl.next hb2 hb3
        clear hb2 hb3 HSz
        by_cases hbig2 : (sizeC L[k].1.c : Int) - at' < bs.length
        · have HV := Lib.hid (show writeA A (c, i, g) at' bs = (2, A) from by rw [HRd.out, if_neg (by rw [hfit]; omega)])
          generalize sizeC L[k].1.c = S at hbig hbig2 hSl ⊢
          go_wp2_with fail
          go_ret
          exact ⟨by rw [HV.out]; rfl, by rw [HV.out]; exact HH.out.same hB3, Tn.of_below hB3⟩
        · obtain ⟨an, rfl⟩ : ∃ x : Nat, at' = x := ⟨at'.toNat, by omega⟩
          have HV := Lib.hid (show writeA A (c, i, g) an bs = (0, putA A (c, i, g) { b with mem := lay b.mem an bs }) from by rw [HRd.out, if_pos (by rw [hfit]; omega)]; rfl)
          have hfits : an + bs.length ≤ L[k].1.mem.length := by rw [hm2]; omega
          have HW3 := Lib.hid (show Wr w base p n L v k L[k].1 L[k].2 an bs 0 w3 from ⟨by rw [List.take_zero, lay_none]; show RAt w3 base p n (L.set k L[k]) v; rw [List.set_getElem_self]; exact HA.out.same hB3, Tn.of_below hB3⟩)
          have HB3 := Lib.hid hB3
          clear HRd hfit hat0 hB3
          have k1 : ¬ (sizeC L[k].1.c : Int) - (an : Int) < (bs.length : Int) := hbig2
          go_wp2_with fail
          go_loopw [14] (fun j wr => ∃ t : Nat, t ≤ bs.length ∧ j = .int .i64 (t : Int) ∧ Wr w base p n L v k L[k].1 L[k].2 an bs t wr) (fun j _ => bs.length - (intOf j).toNat)
          case atStart => exact ⟨0, Nat.zero_le _, rfl, HW3.out⟩
          case round =>
            obtain ⟨t, ht, rfl, hW⟩ := hrel
            have HW := Lib.hid hW
            clear hW HW3
            by_cases hlt2 : t < bs.length
            · have hkk : k < (L.set k ({ L[k].1 with mem := lay L[k].1.mem an (bs.take t) }, L[k].2)).length := by rw [List.length_set]; exact hlt
              obtain ⟨gg, cap', hv', _, _, hcell, _⟩ := HW.out.rat.entry hkk
              have x4 := HW.out.rat.arenaV
              rw [hv] at hv' x4
              injection hv' with e1 e2 e3
              subst e1 e3
              clear e2
              have y4 := hcell 4 (by decide)
              rw [List.getElem_set_self] at y4
              replace y4 : wr.cell? ⟨gg, k * 5 + 4, none⟩ = some (.slice (some ⟨L[k].2, 0, none⟩) (sizeC L[k].1.c) (sizeC L[k].1.c)) := y4
              obtain ⟨m1, m2⟩ := HW.out.rat.mem _ (List.mem_iff_getElem.2 ⟨k, hkk, rfl⟩)
              rw [List.getElem_set_self] at m1 m2
              replace m1 : wr.heap[L[k].2]? = some (.cells (memV (lay L[k].1.mem an (bs.take t))) 3 (0, 0)) := m1
              replace m2 : (lay L[k].1.mem an (bs.take t)).length = sizeC L[k].1.c := m2
              have hms : an + t < (lay L[k].1.mem an (bs.take t)).length := by rw [m2, ← hm2]; omega
              have z4 : wr.cell? ⟨L[k].2, an + t, none⟩ = some (.int .i64 ((lay L[k].1.mem an (bs.take t))[an + t].toNat : Int)) := by
                rw [Lib.cell_of_heap m1]; unfold memV; simp [hms]
              have f4 := free m1 (an + t)
              obtain ⟨bg, bo, rfl, hbgl, b4⟩ : ∃ g off, ba = some ⟨g, off, none⟩ ∧ g < base ∧ wr.cell? ⟨g, off + t, none⟩ = some (.int .u8 (bs[t].toNat : Int)) := by
                rcases HBS.out with ⟨h, _⟩ | ⟨g, off, cap2, hbv, hgb, hj⟩
                · rw [h] at hlt2; simp at hlt2
                · injection hbv with e1 e2 e3
                  exact ⟨g, off, e1, hgb, (HW.out.bel.cell (p := ⟨g, off + t, none⟩) hgb hbase).trans (hj t hlt2)⟩
              have HNX := Lib.hid (show Wr w base p n L v k L[k].1 L[k].2 an bs (t + 1) (wr.setCell ⟨L[k].2, an + t, none⟩ (.int .i64 (bs[t].toNat : Int))) from by
                have hs := HW.out.rat.storeMem hkk (an + t) bs[t]
                simp only [List.getElem_set_self, List.set_set] at hs
                rw [lay_next hlt2 hfits] at hs
                exact ⟨hs, HW.out.bel.trans (Tn.set ⟨_, _, _, m1, rfl⟩ (HA.out.apart _ (List.getElem_mem hlt)).1 _)⟩)
              have hsum : IntKind.i64.wrap ((an : Int) + (t : Int)) = ((an + t : Nat) : Int) := by rw [IntWalk.i64_in _ (by omega)]; omega
              have hsz : an + t < sizeC L[k].1.c := by rw [← hm2]; omega
              have HNY := Lib.hid (show ∀ (wd : World) (q : Nat) (y : Int), L[k].2 = q → (bs[t].toNat : Int) = y → Tn TR base wr wd → wd.heap = wr.heap → Wr w base p n L v k L[k].1 L[k].2 an bs (t + 1) (wd.setCell ⟨q, an + t, none⟩ (.int .i64 y)) from fun wd q y e1 e2 hbd heq => by
                subst e1 e2
                have h1 := HW.out.rat.same (w' := wd) ⟨hbd.os, hbd.tape, hbd.output, by rw [heq]; exact Nat.le_refl _, fun j _ => by rw [heq]⟩
                have hs := h1.storeMem hkk (an + t) bs[t]
                simp only [List.getElem_set_self, List.set_set] at hs
                rw [lay_next hlt2 hfits] at hs
                exact ⟨hs, (HW.out.bel.trans hbd).trans (Tn.set ⟨_, _, _, by rw [heq]; exact m1, rfl⟩ (HA.out.apart _ (List.getElem_mem hlt)).1 _)⟩)
              have hkl : k < L.length := hlt
              have hbnd : bs[t].toNat < 256 := UInt8.toNat_lt _
              generalize (lay L[k].1.mem an (bs.take t))[an + t].toNat = zz at z4
              generalize hq : L[k].2 = q at y4 z4 f4
              generalize hy : bs[t].toNat = y at b4 hbnd
              generalize sizeC L[k].1.c = S at y4 hsz
              have HQ := Lib.hid hq
              have HY := Lib.hid hy
              clear hq hy hcell m1 m2 hms HNX
              have hap := HA.out.apart _ (List.getElem_mem hlt)
              rw [HQ.out, hv] at hap
              have n1 : q ≠ p := hap.2.1
              have n2 : q ≠ gg := fun e => hap.2.2 (by rw [e]; rfl)
              have n3 : q ≠ bg := by have := hap.1; omega
              have HX := Lib.hid (show ∀ (b : Bool) (V : World), (V = if b then wr.drew.setCell ⟨q, an + t, none⟩ (.int .i64 (y : Int)) else wr.drew) → V.cell? ⟨p, 4, none⟩ = some (.slice (some ⟨gg, 0, none⟩) L.length cap) ∧ V.cell? ⟨gg, k * 5 + 4, none⟩ = some (.slice (some ⟨q, 0, none⟩) S S) ∧ V.cell? ⟨bg, bo + t, none⟩ = some (.int .u8 (y : Int)) from fun b V e => by
                subst e
                cases b with
                | false => exact ⟨x4, y4, b4⟩
                | true =>
                  have hh : ∀ (c j : Nat), q ≠ c → (wr.drew.setCell ⟨q, an + t, none⟩ (.int .i64 (y : Int))).cell? ⟨c, j, none⟩ = wr.cell? ⟨c, j, none⟩ := fun c j hc => by
                    have h9 : ∀ W : World, (W.setCell ⟨q, an + t, none⟩ (.int .i64 (y : Int))).heap[c]? = W.heap[c]? := fun W => by simp [World.setCell, Array.getElem?_modify, hc]
                    unfold World.cell?; rw [h9 wr.drew]; rfl
                  exact ⟨(hh p 4 n1).trans x4, (hh gg _ n2).trans y4, (hh bg _ n3).trans b4⟩)
              clear hap n1 n2 n3
              have hap9 := HBS
              have hbl2 : (t : Int) < bs.length := by omega
              clear hap9 hm2 hfits hSl hbig hbig2 k1 hkk hlen hbase hv hc4 hbgl HH HFin HV HBS HB3 HM HF
              go_upto_region 9 with fail
              go_region
              go_wp2_with fail
              go_roundw
              case rel => exact ⟨t + 1, by omega, by go_num, by
                rw [← HQ.out]
                have h9 := HNY.out wr L[k].2 y rfl (by rw [HY.out]) (Tn.refl _ _ _) rfl
                exact ⟨h9.rat.same ((Below.refl _ _).drew), h9.bel.drew⟩⟩
              case measure => simp [intOf]; omega
            · obtain rfl : t = bs.length := by omega
              have HQ := Lib.hid (HFin.out wr HW.out.bel (lay b.mem an bs) (by have := HW.out.rat; rw [List.take_length, HM.out] at this; exact this))
              have HBe := Lib.hid HW.out.bel
              have hv9 := HW.out.rat.arenaV
              go_wp2_with fail
              go_ret
              exact ⟨by rw [HV.out]; rfl, by rw [HV.out]; exact HQ.out, HBe.out⟩
end Go.Proofs.Ytheljldoboiekaa.Sl
