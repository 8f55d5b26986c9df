/-
  The program's right: what it returns. Condition: an arena that New made.
-/
import Derived.Test.YtheljldoboiekaaSlPFind
import Derived.Test.YtheljldoboiekaaRgVal
import Derived.Deep.DeepCutAuto
import Derived.Laws.StructEq
namespace Go.Proofs.Ytheljldoboiekaa.Sl
open Go.RowKit Go.Proofs.Ytheljldoboiekaa.Fd
set_option maxRecDepth 100000
set_option linter.unusedVariables false
set_option linter.unusedSimpArgs false

def hdV (c i g : Int) : Value := .agg #[.int .i64 c, .int .i64 i, .int .i64 g]
/-- The handle's box, and nothing older changed. -/
structure Kr (w : World) (c i g : Int) (W : World) : Prop where
  bel : Below w.heap.size w W
  at' : W.heap[w.heap.size]? = some (.cells #[.int .i64 c, .int .i64 i, .int .i64 g] 34 (0, 0))
theorem Kr.start (w : World) (c i g : Int) : Kr w c i g (w.alloc (.cells #[.int .i64 c, .int .i64 i, .int .i64 g] 34)) := ⟨(Below.refl _ _).alloc (Nat.le_refl _) _, new_block w _⟩
theorem Kr.more {w : World} {c i g : Int} {W V : World} (h : Kr w c i g W) (hb : Below W.heap.size W V) : Kr w c i g V := ⟨Bl.next h.bel hb, Bl.old hb (block_lt h.at') h.at'⟩
theorem Kr.drew {w : World} {c i g : Int} {W : World} (h : Kr w c i g W) : Kr w c i g W.drew := h.more ((Below.refl _ _).drew)
theorem Kr.box {w : World} {c i g : Int} {W : World} (h : Kr w c i g W) : W.cell? ⟨w.heap.size, 0, none⟩ = some (.int .i64 c) ∧ W.cell? ⟨w.heap.size, 1, none⟩ = some (.int .i64 i) ∧ W.cell? ⟨w.heap.size, 2, none⟩ = some (.int .i64 g) := by
  have h1 := h.at'
  refine ⟨?_, ?_, ?_⟩ <;> (rw [Lib.cell_of_heap h1]; rfl)
theorem Kr.cell {w : World} {c i g : Int} {W : World} (h : Kr w c i g W) {a j : Nat} {v : Value} (hc : w.cell? ⟨a, j, none⟩ = some v) (ha : a < w.heap.size) : W.cell? ⟨a, j, none⟩ = some v := (h.bel.cell (p := ⟨a, j, none⟩) ha).trans hc
/-- What right tells: where the block lies, or what is wrong. -/
def rightV (gs : Nat → Nat) (A : Ar) (h : Hd) : Value := match rightA A h with
  | none => .tuple #[.pointer none, .int .i64 15]
  | some _ => .tuple #[.pointer (some ⟨gs h.1.toNat, h.2.1.toNat * 5, none⟩), .int .i64 0]
/-- A block in use has a generation. -/
def Aged (A : Ar) : Prop := ∀ (c i : Nat) (b : Blk), c < 4 → (A c)[i]? = some b → b.held ≠ 0 → b.gen ≠ 0
set_option maxHeartbeats 8000000 in
theorem pright_any {base p : Nat} {n gs : Nat → Nat} {Q : Mp} {M : Nat → Nat → Tk.Bs} {A : Ar} (c i g : Int) (w : World) (h : PAt w base p n gs Q M A) (ha : Aged A) (hn : ∀ c, c < 4 → n c ≤ 4096) :
    Calls Try.prog 38 #[.pointer (some ⟨p, 0, none⟩), .agg #[.int .i64 c, .int .i64 i, .int .i64 g]] w fun e w' => e = .returned (rightV gs A (c, i, g)) ∧ Below w.heap.size w w' := by
  have hpl := h.lt
  have HM := Lib.hid (show w.cell? ⟨p, 0, none⟩ = some (.int .i64 64) from h.size (c := 0) (by decide))
  have HK0 := Lib.hid (Kr.start w c i g)
  have HMd := Lib.hid (made_yes p _ (HK0.out.cell HM.out hpl))
  have HI := Lib.hid (show ∀ W : World, Calls Try.prog 31 #[.int .i64 c] W fun e w' => e = .returned (.bool (inB c)) ∧ W = w' from fun W => isClass_any c W)
  by_cases hc : 0 ≤ c ∧ c ≤ 3
  · have hib : inB c = true := by unfold inB; rw [decide_eq_true hc]
    rw [hib] at HI
    have HCl := HI
    clear hib
    obtain ⟨c, rfl⟩ : ∃ cn : Nat, c = cn := ⟨c.toNat, by omega⟩
    have c4 : c < 4 := by omega
    have hblocks := h.blocks c4
    have hlen := h.len c c4
    have hnc := hn c c4
    by_cases hi : i < 0
    · have HV := Lib.hid (show rightV gs A ((c : Int), i, g) = .tuple #[.pointer none, .int .i64 15] from by
        unfold rightV rightA; rw [if_neg (by simp only; omega)])
      clear h ha hblocks hlen hnc
      go_enter Try.func38, Try.ntmps38
      go_wp2_with fail
      refine HMd.out.mono ?_
      rintro e w1 ⟨rfl, hw⟩
      have HK1 := Lib.hid (hw ▸ HK0.out)
      clear hw HMd HK0
      go_upto_region 3 with fail
      refine Rg.val_region (n := 58) (J := fun V => Kr w c i g V) [(10, .pointer (some ⟨w.heap.size, 0, none⟩)), (11, .int .i64 (c : Int)), (12, .bool true), (13, .bool false), (14, .bool false), (15, .pointer (some ⟨w.heap.size, 1, none⟩)), (16, .int .i64 i), (17, .bool true), (18, .bool true), (19, .bool true), (20, undef), (21, undef), (22, undef), (23, undef), (24, undef), (25, undef), (26, undef), (27, undef), (28, undef), (29, undef), (30, undef), (31, undef), (32, .bool true)] (by kernel_rfl) (by kernel_rfl) (by kernel_rfl) (by kernel_rfl) HK1.out.drew (fun F hF => ?_)
      simp only [Rg.fill, List.setIfInBounds_toArray, List.set_cons_zero, List.set_cons_succ] at hF
      subst hF
      refine ⟨?_, fun V hJ => ?_⟩
      · show ∀ i, i < 23 → _
        repeat' refine Rg.below_succ ?_ ?_
        all_goals first
          | exact Rg.below_zero
          | (refine Rg.StepOK.of rfl ?_
             first
             | (left; exact ⟨by kernel_rfl, fun d hd => by injection hd with hd; subst hd; rfl⟩)
             | (right
                refine ⟨by kernel_rfl, fun V hJ K hK => ?_⟩
                obtain ⟨h0, h1, h2⟩ := hJ.box
                have HJ := Lib.hid hJ
                clear hJ
                go_simp
                first
                  | exact hK _ HJ.out
                  | (refine (HCl.out _).mono ?_; rintro e w9 ⟨rfl, hb⟩; rw [← hb]; exact hK _ HJ.out)))
      · go_wp2_with fail
        go_ret2
        exact ⟨by rw [HV.out]; rfl, hJ.bel⟩
    · obtain ⟨i, rfl⟩ : ∃ im : Nat, i = im := ⟨i.toNat, by omega⟩
      have hcell : w.cell? ⟨p, c * 2 + 1, none⟩ = some (.slice (some ⟨gs c, 0, none⟩) (n c) (n c)) := hblocks
      have q4 : (c : Int) < 4 := by omega
      by_cases hin : i < n c
      · obtain ⟨b, hb⟩ : ∃ b, (A c)[i]? = some b := ⟨_, List.getElem?_eq_getElem (by omega)⟩
        have hage := ha c i b c4 hb
        have hra := right_at (A := A) (c := c) (i := i) (g := g) c4
        rw [hb] at hra
        replace hra : rightA A ((c : Int), (i : Int), g) = if b.held ≠ 0 ∧ (b.gen : Int) = g then some b else none := hra
        have HRA := Lib.hid hra
        have e0 := (h.cell c4 hb (t := 0) (by decide)).1
        have e1 := (h.cell c4 hb (t := 1) (by decide)).1
        have e2 := (h.cell c4 hb (t := 2) (by decide)).1
        have e3 := (h.cell c4 hb (t := 3) (by decide)).1
        replace e0 : w.cell? ⟨gs c, i * 5, none⟩ = some (.int .i64 (ownI c b.gen)) := e0
        replace e1 : w.cell? ⟨gs c, i * 5 + 1, none⟩ = some (.int .i64 (ownI i b.gen)) := e1
        replace e2 : w.cell? ⟨gs c, i * 5 + 2, none⟩ = some (.int .i64 (b.gen : Int)) := e2
        replace e3 : w.cell? ⟨gs c, i * 5 + 3, none⟩ = some (.int .i64 (b.held : Int)) := e3
        have hgl := h.ltG c4
        have HG : rightV gs A ((c : Int), (i : Int), g) = match (if b.held ≠ 0 ∧ (b.gen : Int) = g then some b else none) with
            | none => .tuple #[.pointer none, .int .i64 15]
            | some _ => .tuple #[.pointer (some ⟨gs c, i * 5, none⟩), .int .i64 0] := by
          unfold rightV; rw [HRA.out]; rfl
        have HGG := Lib.hid HG
        clear HG hra HRA hblocks hlen h ha hb
        generalize gs c = G at *
        generalize n c = N at *
        have qN : ¬ N ≤ i := by omega
        by_cases h0 : b.held = 0
        · have HV := Lib.hid (show rightV gs A ((c : Int), (i : Int), g) = .tuple #[.pointer none, .int .i64 15] from by rw [HGG.out, if_neg (by intro q; exact q.1 h0)])
          have t0 : ((b.held : Int) == 0) = true := by rw [h0]; rfl
          clear HGG hage h0
          go_enter Try.func38, Try.ntmps38
          go_wp2_with fail
          refine HMd.out.mono ?_
          rintro e w1 ⟨rfl, hw⟩
          have HK1 := Lib.hid (hw ▸ HK0.out)
          clear hw HMd HK0
          go_upto_region 3 with fail
          refine Rg.val_region (n := 58) (J := fun V => Kr w c i g V) [(10, .pointer (some ⟨w.heap.size, 0, none⟩)), (11, .int .i64 (c : Int)), (12, .bool true), (13, .bool false), (14, .bool false), (15, .pointer (some ⟨w.heap.size, 1, none⟩)), (16, .int .i64 (i : Int)), (17, .bool false), (18, .bool false), (19, .bool false), (20, .pointer (some ⟨w.heap.size, 1, none⟩)), (21, .int .i64 (i : Int)), (22, .pointer (some ⟨p, 0, none⟩)), (23, .pointer (some ⟨w.heap.size, 0, none⟩)), (24, .int .i64 (c : Int)), (25, .pointer (some ⟨p, 0, none⟩)), (26, .pointer (some ⟨p, 0, none⟩)), (27, .pointer (some ⟨p, c * 2, none⟩)), (28, .pointer (some ⟨p, c * 2 + 1, none⟩)), (29, .slice (some ⟨G, 0, none⟩) N N), (30, .int .i64 (N : Int)), (31, .bool false), (32, .bool false)] (by kernel_rfl) (by kernel_rfl) (by kernel_rfl) (by kernel_rfl) HK1.out.drew (fun F hF => ?_)
          simp only [Rg.fill, List.setIfInBounds_toArray, List.set_cons_zero, List.set_cons_succ] at hF
          subst hF
          refine ⟨?_, fun V hJ => ?_⟩
          · show ∀ i, i < 23 → _
            repeat' refine Rg.below_succ ?_ ?_
            all_goals first
              | exact Rg.below_zero
              | (refine Rg.StepOK.of rfl ?_
                 first
                 | (left; exact ⟨by kernel_rfl, fun d hd => by injection hd with hd; subst hd; rfl⟩)
                 | (right
                    refine ⟨by kernel_rfl, fun V hJ K hK => ?_⟩
                    obtain ⟨h0, h1, h2⟩ := hJ.box
                    have cp := hJ.cell hcell hpl
                    have HJ := Lib.hid hJ
                    clear hJ
                    go_simp
                    first
                      | exact hK _ HJ.out
                      | (refine (HCl.out _).mono ?_; rintro e w9 ⟨rfl, hb⟩; rw [← hb]; exact hK _ HJ.out)))
          · have HK3 := Lib.hid hJ
            obtain ⟨h0, h1, h2⟩ := hJ.box
            have cp := hJ.cell hcell hpl
            clear hJ
            go_upto_region 5 with fail
            go_region
            have HK2 := Lib.hid HK3.out.drew
            clear h0 h1 h2 cp
            go_upto_region 6 with fail
            refine Rg.val_region (n := 58) (J := fun V => Kr w c i g V) [(44, .pointer (some ⟨G, i * 5, none⟩)), (45, .pointer (some ⟨G, i * 5, none⟩)), (46, .pointer (some ⟨G, i * 5 + 3, none⟩)), (47, .int .i64 (b.held : Int)), (48, .bool true), (49, .bool true), (50, undef), (51, undef), (52, undef), (53, undef), (54, undef), (55, undef), (56, .bool true)] (by kernel_rfl) (by kernel_rfl) (by kernel_rfl) (by kernel_rfl) HK2.out.drew (fun F hF => ?_)
            simp only [Rg.fill, List.setIfInBounds_toArray, List.set_cons_zero, List.set_cons_succ] at hF
            subst hF
            refine ⟨?_, fun V hJ => ?_⟩
            · show ∀ i, i < 13 → _
              repeat' refine Rg.below_succ ?_ ?_
              all_goals first
                | exact Rg.below_zero
                | (refine Rg.StepOK.of rfl ?_
                   first
                   | (left; exact ⟨by kernel_rfl, fun d hd => by injection hd with hd; subst hd; rfl⟩)
                   | (right
                      refine ⟨by kernel_rfl, fun V hJ K hK => ?_⟩
                      obtain ⟨h0, h1, h2⟩ := hJ.box
                      have cp := hJ.cell hcell hpl
                      have d0 := hJ.cell e0 hgl
                      have d1 := hJ.cell e1 hgl
                      have d2 := hJ.cell e2 hgl
                      have d3 := hJ.cell e3 hgl
                      have HJ := Lib.hid hJ
                      clear hJ
                      go_simp
                      first
                        | exact hK _ HJ.out
                        | (refine (HCl.out _).mono ?_; rintro e w9 ⟨rfl, hb⟩; rw [← hb]; exact hK _ HJ.out)))
            · go_wp2_with fail
              go_ret2
              exact ⟨by rw [HV.out]; rfl, hJ.bel⟩
        · replace hage := hage h0
          have o0 : ownI c b.gen = (c : Int) := by unfold ownI; rw [if_neg hage]
          have o1 : ownI i b.gen = (i : Int) := by unfold ownI; rw [if_neg hage]
          rw [o0] at e0
          rw [o1] at e1
          have t0 : ((b.held : Int) == 0) = false := by rw [beq_eq_false_iff_ne]; omega
          by_cases hg : (b.gen : Int) = g
          · have HV := Lib.hid (show rightV gs A ((c : Int), (i : Int), g) = .tuple #[.pointer (some ⟨G, i * 5, none⟩), .int .i64 0] from by rw [HGG.out, if_pos ⟨h0, hg⟩])
            have t1 : ((b.gen : Int) == g) = true := by rw [beq_iff_eq]; exact hg
            clear HGG hage h0 hg o0 o1
            go_enter Try.func38, Try.ntmps38
            go_wp2_with fail
            refine HMd.out.mono ?_
            rintro e w1 ⟨rfl, hw⟩
            have HK1 := Lib.hid (hw ▸ HK0.out)
            clear hw HMd HK0
            go_upto_region 3 with fail
            refine Rg.val_region (n := 58) (J := fun V => Kr w c i g V) [(10, .pointer (some ⟨w.heap.size, 0, none⟩)), (11, .int .i64 (c : Int)), (12, .bool true), (13, .bool false), (14, .bool false), (15, .pointer (some ⟨w.heap.size, 1, none⟩)), (16, .int .i64 (i : Int)), (17, .bool false), (18, .bool false), (19, .bool false), (20, .pointer (some ⟨w.heap.size, 1, none⟩)), (21, .int .i64 (i : Int)), (22, .pointer (some ⟨p, 0, none⟩)), (23, .pointer (some ⟨w.heap.size, 0, none⟩)), (24, .int .i64 (c : Int)), (25, .pointer (some ⟨p, 0, none⟩)), (26, .pointer (some ⟨p, 0, none⟩)), (27, .pointer (some ⟨p, c * 2, none⟩)), (28, .pointer (some ⟨p, c * 2 + 1, none⟩)), (29, .slice (some ⟨G, 0, none⟩) N N), (30, .int .i64 (N : Int)), (31, .bool false), (32, .bool false)] (by kernel_rfl) (by kernel_rfl) (by kernel_rfl) (by kernel_rfl) HK1.out.drew (fun F hF => ?_)
            simp only [Rg.fill, List.setIfInBounds_toArray, List.set_cons_zero, List.set_cons_succ] at hF
            subst hF
            refine ⟨?_, fun V hJ => ?_⟩
            · show ∀ i, i < 23 → _
              repeat' refine Rg.below_succ ?_ ?_
              all_goals first
                | exact Rg.below_zero
                | (refine Rg.StepOK.of rfl ?_
                   first
                   | (left; exact ⟨by kernel_rfl, fun d hd => by injection hd with hd; subst hd; rfl⟩)
                   | (right
                      refine ⟨by kernel_rfl, fun V hJ K hK => ?_⟩
                      obtain ⟨h0, h1, h2⟩ := hJ.box
                      have cp := hJ.cell hcell hpl
                      have HJ := Lib.hid hJ
                      clear hJ
                      go_simp
                      first
                        | exact hK _ HJ.out
                        | (refine (HCl.out _).mono ?_; rintro e w9 ⟨rfl, hb⟩; rw [← hb]; exact hK _ HJ.out)))
            · have HK3 := Lib.hid hJ
              obtain ⟨h0, h1, h2⟩ := hJ.box
              have cp := hJ.cell hcell hpl
              clear hJ
              go_upto_region 5 with fail
              go_region
              have HK2 := Lib.hid HK3.out.drew
              clear h0 h1 h2 cp
              go_upto_region 6 with fail
              refine Rg.val_region (n := 58) (J := fun V => Kr w c i g V) [(44, .pointer (some ⟨G, i * 5, none⟩)), (45, .pointer (some ⟨G, i * 5, none⟩)), (46, .pointer (some ⟨G, i * 5 + 3, none⟩)), (47, .int .i64 (b.held : Int)), (48, .bool false), (49, .bool false), (50, .pointer (some ⟨G, i * 5, none⟩)), (51, .pointer (some ⟨G, i * 5, none⟩)), (52, .pointer (some ⟨G, i * 5, none⟩)), (53, .agg #[.int .i64 (c : Int), .int .i64 (i : Int), .int .i64 (b.gen : Int)]), (54, .agg #[.int .i64 (c : Int), .int .i64 (i : Int), .int .i64 g]), (55, .bool false), (56, .bool false)] (by kernel_rfl) (by kernel_rfl) (by kernel_rfl) (by kernel_rfl) HK2.out.drew (fun F hF => ?_)
              simp only [Rg.fill, List.setIfInBounds_toArray, List.set_cons_zero, List.set_cons_succ] at hF
              subst hF
              refine ⟨?_, fun V hJ => ?_⟩
              · show ∀ i, i < 13 → _
                repeat' refine Rg.below_succ ?_ ?_
                all_goals first
                  | exact Rg.below_zero
                  | (refine Rg.StepOK.of rfl ?_
                     first
                     | (left; exact ⟨by kernel_rfl, fun d hd => by injection hd with hd; subst hd; rfl⟩)
                     | (right
                        refine ⟨by kernel_rfl, fun V hJ K hK => ?_⟩
                        obtain ⟨h0, h1, h2⟩ := hJ.box
                        have cp := hJ.cell hcell hpl
                        have d0 := hJ.cell e0 hgl
                        have d1 := hJ.cell e1 hgl
                        have d2 := hJ.cell e2 hgl
                        have d3 := hJ.cell e3 hgl
                        have HJ := Lib.hid hJ
                        clear hJ
                        go_simp
                        first
                          | exact hK _ HJ.out
                          | (refine (HCl.out _).mono ?_; rintro e w9 ⟨rfl, hb⟩; rw [← hb]; exact hK _ HJ.out)))
              · go_wp2_with fail
                go_ret2
                exact ⟨by rw [HV.out]; rfl, hJ.bel⟩
          · have HV := Lib.hid (show rightV gs A ((c : Int), (i : Int), g) = .tuple #[.pointer none, .int .i64 15] from by rw [HGG.out, if_neg (by intro q; exact hg q.2)])
            have t1 : ((b.gen : Int) == g) = false := by rw [beq_eq_false_iff_ne]; exact hg
            clear HGG hage h0 hg o0 o1
            go_enter Try.func38, Try.ntmps38
            go_wp2_with fail
            refine HMd.out.mono ?_
            rintro e w1 ⟨rfl, hw⟩
            have HK1 := Lib.hid (hw ▸ HK0.out)
            clear hw HMd HK0
            go_upto_region 3 with fail
            refine Rg.val_region (n := 58) (J := fun V => Kr w c i g V) [(10, .pointer (some ⟨w.heap.size, 0, none⟩)), (11, .int .i64 (c : Int)), (12, .bool true), (13, .bool false), (14, .bool false), (15, .pointer (some ⟨w.heap.size, 1, none⟩)), (16, .int .i64 (i : Int)), (17, .bool false), (18, .bool false), (19, .bool false), (20, .pointer (some ⟨w.heap.size, 1, none⟩)), (21, .int .i64 (i : Int)), (22, .pointer (some ⟨p, 0, none⟩)), (23, .pointer (some ⟨w.heap.size, 0, none⟩)), (24, .int .i64 (c : Int)), (25, .pointer (some ⟨p, 0, none⟩)), (26, .pointer (some ⟨p, 0, none⟩)), (27, .pointer (some ⟨p, c * 2, none⟩)), (28, .pointer (some ⟨p, c * 2 + 1, none⟩)), (29, .slice (some ⟨G, 0, none⟩) N N), (30, .int .i64 (N : Int)), (31, .bool false), (32, .bool false)] (by kernel_rfl) (by kernel_rfl) (by kernel_rfl) (by kernel_rfl) HK1.out.drew (fun F hF => ?_)
            simp only [Rg.fill, List.setIfInBounds_toArray, List.set_cons_zero, List.set_cons_succ] at hF
            subst hF
            refine ⟨?_, fun V hJ => ?_⟩
            · show ∀ i, i < 23 → _
              repeat' refine Rg.below_succ ?_ ?_
              all_goals first
                | exact Rg.below_zero
                | (refine Rg.StepOK.of rfl ?_
                   first
                   | (left; exact ⟨by kernel_rfl, fun d hd => by injection hd with hd; subst hd; rfl⟩)
                   | (right
                      refine ⟨by kernel_rfl, fun V hJ K hK => ?_⟩
                      obtain ⟨h0, h1, h2⟩ := hJ.box
                      have cp := hJ.cell hcell hpl
                      have HJ := Lib.hid hJ
                      clear hJ
                      go_simp
                      first
                        | exact hK _ HJ.out
                        | (refine (HCl.out _).mono ?_; rintro e w9 ⟨rfl, hb⟩; rw [← hb]; exact hK _ HJ.out)))
            · have HK3 := Lib.hid hJ
              obtain ⟨h0, h1, h2⟩ := hJ.box
              have cp := hJ.cell hcell hpl
              clear hJ
              go_upto_region 5 with fail
              go_region
              have HK2 := Lib.hid HK3.out.drew
              clear h0 h1 h2 cp
              go_upto_region 6 with fail
              refine Rg.val_region (n := 58) (J := fun V => Kr w c i g V) [(44, .pointer (some ⟨G, i * 5, none⟩)), (45, .pointer (some ⟨G, i * 5, none⟩)), (46, .pointer (some ⟨G, i * 5 + 3, none⟩)), (47, .int .i64 (b.held : Int)), (48, .bool false), (49, .bool false), (50, .pointer (some ⟨G, i * 5, none⟩)), (51, .pointer (some ⟨G, i * 5, none⟩)), (52, .pointer (some ⟨G, i * 5, none⟩)), (53, .agg #[.int .i64 (c : Int), .int .i64 (i : Int), .int .i64 (b.gen : Int)]), (54, .agg #[.int .i64 (c : Int), .int .i64 (i : Int), .int .i64 g]), (55, .bool true), (56, .bool true)] (by kernel_rfl) (by kernel_rfl) (by kernel_rfl) (by kernel_rfl) HK2.out.drew (fun F hF => ?_)
              simp only [Rg.fill, List.setIfInBounds_toArray, List.set_cons_zero, List.set_cons_succ] at hF
              subst hF
              refine ⟨?_, fun V hJ => ?_⟩
              · show ∀ i, i < 13 → _
                repeat' refine Rg.below_succ ?_ ?_
                all_goals first
                  | exact Rg.below_zero
                  | (refine Rg.StepOK.of rfl ?_
                     first
                     | (left; exact ⟨by kernel_rfl, fun d hd => by injection hd with hd; subst hd; rfl⟩)
                     | (right
                        refine ⟨by kernel_rfl, fun V hJ K hK => ?_⟩
                        obtain ⟨h0, h1, h2⟩ := hJ.box
                        have cp := hJ.cell hcell hpl
                        have d0 := hJ.cell e0 hgl
                        have d1 := hJ.cell e1 hgl
                        have d2 := hJ.cell e2 hgl
                        have d3 := hJ.cell e3 hgl
                        have HJ := Lib.hid hJ
                        clear hJ
                        go_simp
                        first
                          | exact hK _ HJ.out
                          | (refine (HCl.out _).mono ?_; rintro e w9 ⟨rfl, hb⟩; rw [← hb]; exact hK _ HJ.out)))
              · go_wp2_with fail
                go_ret2
                exact ⟨by rw [HV.out]; rfl, hJ.bel⟩
      · have HV := Lib.hid (show rightV gs A ((c : Int), (i : Int), g) = .tuple #[.pointer none, .int .i64 15] from by
          unfold rightV
          rw [right_at c4, List.getElem?_eq_none (by omega)])
        clear h ha hblocks hlen
        generalize gs c = G at *
        generalize n c = N at *
        have qN : N ≤ i := by omega
        go_enter Try.func38, Try.ntmps38
        go_wp2_with fail
        refine HMd.out.mono ?_
        rintro e w1 ⟨rfl, hw⟩
        have HK1 := Lib.hid (hw ▸ HK0.out)
        clear hw HMd HK0
        go_upto_region 3 with fail
        refine Rg.val_region (n := 58) (J := fun V => Kr w c i g V) [(10, .pointer (some ⟨w.heap.size, 0, none⟩)), (11, .int .i64 (c : Int)), (12, .bool true), (13, .bool false), (14, .bool false), (15, .pointer (some ⟨w.heap.size, 1, none⟩)), (16, .int .i64 (i : Int)), (17, .bool false), (18, .bool false), (19, .bool false), (20, .pointer (some ⟨w.heap.size, 1, none⟩)), (21, .int .i64 (i : Int)), (22, .pointer (some ⟨p, 0, none⟩)), (23, .pointer (some ⟨w.heap.size, 0, none⟩)), (24, .int .i64 (c : Int)), (25, .pointer (some ⟨p, 0, none⟩)), (26, .pointer (some ⟨p, 0, none⟩)), (27, .pointer (some ⟨p, c * 2, none⟩)), (28, .pointer (some ⟨p, c * 2 + 1, none⟩)), (29, .slice (some ⟨G, 0, none⟩) N N), (30, .int .i64 (N : Int)), (31, .bool true), (32, .bool true)] (by kernel_rfl) (by kernel_rfl) (by kernel_rfl) (by kernel_rfl) HK1.out.drew (fun F hF => ?_)
        simp only [Rg.fill, List.setIfInBounds_toArray, List.set_cons_zero, List.set_cons_succ] at hF
        subst hF
        refine ⟨?_, fun V hJ => ?_⟩
        · show ∀ i, i < 23 → _
          repeat' refine Rg.below_succ ?_ ?_
          all_goals first
            | exact Rg.below_zero
            | (refine Rg.StepOK.of rfl ?_
               first
               | (left; exact ⟨by kernel_rfl, fun d hd => by injection hd with hd; subst hd; rfl⟩)
               | (right
                  refine ⟨by kernel_rfl, fun V hJ K hK => ?_⟩
                  obtain ⟨h0, h1, h2⟩ := hJ.box
                  have cp := hJ.cell hcell hpl
                  have HJ := Lib.hid hJ
                  clear hJ
                  go_simp
                  first
                    | exact hK _ HJ.out
                    | (refine (HCl.out _).mono ?_; rintro e w9 ⟨rfl, hb⟩; rw [← hb]; exact hK _ HJ.out)))
        · go_wp2_with fail
          go_ret2
          exact ⟨by rw [HV.out]; rfl, hJ.bel⟩
  · have hib : inB c = false := by unfold inB; rw [decide_eq_false hc]
    rw [hib] at HI
    have HCl := HI
    have HV := Lib.hid (show rightV gs A (c, i, g) = .tuple #[.pointer none, .int .i64 15] from by
      unfold rightV rightA; rw [if_neg (by simp only; omega)])
    clear h ha hib
    go_enter Try.func38, Try.ntmps38
    go_wp2_with fail
    refine HMd.out.mono ?_
    rintro e w1 ⟨rfl, hw⟩
    have HK1 := Lib.hid (hw ▸ HK0.out)
    clear hw HMd HK0
    go_upto_region 3 with fail
    refine Rg.val_region (n := 58) (J := fun V => Kr w c i g V) [(10, .pointer (some ⟨w.heap.size, 0, none⟩)), (11, .int .i64 c), (12, .bool false), (13, .bool true), (14, .bool true), (15, undef), (16, undef), (17, undef), (18, .bool true), (19, .bool true), (20, undef), (21, undef), (22, undef), (23, undef), (24, undef), (25, undef), (26, undef), (27, undef), (28, undef), (29, undef), (30, undef), (31, undef), (32, .bool true)] (by kernel_rfl) (by kernel_rfl) (by kernel_rfl) (by kernel_rfl) HK1.out.drew (fun F hF => ?_)
    simp only [Rg.fill, List.setIfInBounds_toArray, List.set_cons_zero, List.set_cons_succ] at hF
    subst hF
    refine ⟨?_, fun V hJ => ?_⟩
    · show ∀ i, i < 23 → _
      repeat' refine Rg.below_succ ?_ ?_
      all_goals first
        | exact Rg.below_zero
        | (refine Rg.StepOK.of rfl ?_
           first
           | (left; exact ⟨by kernel_rfl, fun d hd => by injection hd with hd; subst hd; rfl⟩)
           | (right
              refine ⟨by kernel_rfl, fun V hJ K hK => ?_⟩
              obtain ⟨h0, h1, h2⟩ := hJ.box
              have HJ := Lib.hid hJ
              clear hJ
              go_simp
              first
                | exact hK _ HJ.out
                | (refine (HCl.out _).mono ?_; rintro e w9 ⟨rfl, hb⟩; rw [← hb]; exact hK _ HJ.out)))
    · go_wp2_with fail
      go_ret2
      exact ⟨by rw [HV.out]; rfl, hJ.bel⟩
end Go.Proofs.Ytheljldoboiekaa.Sl
