/-
  Texts that the laws' proofs stand on, 3 of them in one file; each one's head says what it proves and under which condition.
-/
import Derived.Test.YtbpadliiekhkjaaCHNP7
import Derived.Deep.DeepCutAuto
import Derived.Laws.StructEq
import Derived.Test.YtbpadliiekhkjaaCHNP5
/-
  The program's right: what it returns. Condition: an arena that New made.
-/
namespace Go.Proofs.Ytbpadliiekhkjaa.Sl
open Go.RowKit Go.Proofs.Ytbpadliiekhkjaa.Fd
set_option maxRecDepth 100000
set_option linter.unusedVariables false
set_option linter.unusedSimpArgs false

def hdV (c i g : Int) : Value := .agg #[.int .i64 c, .int .i64 i, .int .i64 g]
/-- The handle's box, and nothing older changed. -/
structure Kr (w : World) (c i g : Int) (W : World) : Prop where
  bel : Below w.heap.size w W
  at' : W.heap[w.heap.size]? = some (.cells #[.int .i64 c, .int .i64 i, .int .i64 g] 78 (0, 0))
theorem Kr.start (w : World) (c i g : Int) : Kr w c i g (w.alloc (.cells #[.int .i64 c, .int .i64 i, .int .i64 g] 78)) := ⟨(Below.refl _ _).alloc (Nat.le_refl _) _, new_block w _⟩
theorem Kr.more {w : World} {c i g : Int} {W V : World} (h : Kr w c i g W) (hb : Below W.heap.size W V) : Kr w c i g V := ⟨Bl.next h.bel hb, Bl.old hb (block_lt h.at') h.at'⟩
theorem Kr.drew {w : World} {c i g : Int} {W : World} (h : Kr w c i g W) : Kr w c i g W.drew := h.more ((Below.refl _ _).drew)
theorem Kr.box {w : World} {c i g : Int} {W : World} (h : Kr w c i g W) : W.cell? ⟨w.heap.size, 0, none⟩ = some (.int .i64 c) ∧ W.cell? ⟨w.heap.size, 1, none⟩ = some (.int .i64 i) ∧ W.cell? ⟨w.heap.size, 2, none⟩ = some (.int .i64 g) := by
  have h1 := h.at'
  refine ⟨?_, ?_, ?_⟩ <;> (rw [Lib.cell_of_heap h1]; rfl)
theorem Kr.cell {w : World} {c i g : Int} {W : World} (h : Kr w c i g W) {a j : Nat} {v : Value} (hc : w.cell? ⟨a, j, none⟩ = some v) (ha : a < w.heap.size) : W.cell? ⟨a, j, none⟩ = some v := (h.bel.cell (p := ⟨a, j, none⟩) ha).trans hc
/-- What right tells: where the block lies, or what is wrong. -/
def rightV (gs : Nat → Nat) (A : Ar) (h : Hd) : Value := match rightA A h with
  | none => .tuple #[.pointer none, .int .i64 15]
  | some _ => .tuple #[.pointer (some ⟨gs h.1.toNat, h.2.1.toNat * 5, none⟩), .int .i64 0]
/-- A block in use has a generation. -/
def Aged (A : Ar) : Prop := ∀ (c i : Nat) (b : Blk), c < 4 → (A c)[i]? = some b → b.held ≠ 0 → b.gen ≠ 0
set_option maxHeartbeats 8000000 in
theorem pright_any {base p : Nat} {n gs : Nat → Nat} {Q : Mp} {M : Nat → Nat → Tk.Bs} {A : Ar} (c i g : Int) (w : World) (h : PAt w base p n gs Q M A) (ha : Aged A) (hn : ∀ c, c < 4 → n c ≤ 4096) :
    Calls Try.prog 54 #[.pointer (some ⟨p, 0, none⟩), .agg #[.int .i64 c, .int .i64 i, .int .i64 g]] w fun e w' => e = .returned (rightV gs A (c, i, g)) ∧ Below w.heap.size w w' := by
  have hpl := h.lt
  have HM := Lib.hid (show w.cell? ⟨p, 0, none⟩ = some (.int .i64 64) from h.size (c := 0) (by decide))
  have HK0 := Lib.hid (Kr.start w c i g)
  have HMd := Lib.hid (made_yes p _ (HK0.out.cell HM.out hpl))
  have HI := Lib.hid (show ∀ W : World, Calls Try.prog 44 #[.int .i64 c] W fun e w' => e = .returned (.bool (inB c)) ∧ W = w' from fun W => isClass_any c W)
  by_cases hc : 0 ≤ c ∧ c ≤ 3
  · have hib : inB c = true := by unfold inB; rw [decide_eq_true hc]
    rw [hib] at HI
    have HCl := HI
    clear hib
    obtain ⟨c, rfl⟩ : ∃ cn : Nat, c = cn := ⟨c.toNat, by omega⟩
    have c4 : c < 4 := by omega
    have hblocks := h.blocks c4
    have hlen := h.len c c4
    have hnc := hn c c4
    by_cases hi : i < 0
    · have HV := Lib.hid (show rightV gs A ((c : Int), i, g) = .tuple #[.pointer none, .int .i64 15] from by
        unfold rightV rightA; rw [if_neg (by simp only; omega)])
      clear h ha hblocks hlen hnc
      go_enter Try.func54, Try.ntmps54
      go_wp2_with fail
      refine HMd.out.mono ?_
      rintro e w1 ⟨rfl, hw⟩
      have HK1 := Lib.hid (hw ▸ HK0.out)
      clear hw HMd HK0
      go_upto_region 3 with fail
      refine Rg.val_region (n := 58) (J := fun V => Kr w c i g V) [(10, .pointer (some ⟨w.heap.size, 0, none⟩)), (11, .int .i64 (c : Int)), (12, .bool true), (13, .bool false), (14, .bool false), (15, .pointer (some ⟨w.heap.size, 1, none⟩)), (16, .int .i64 i), (17, .bool true), (18, .bool true), (19, .bool true), (20, undef), (21, undef), (22, undef), (23, undef), (24, undef), (25, undef), (26, undef), (27, undef), (28, undef), (29, undef), (30, undef), (31, undef), (32, .bool true)] (by kernel_rfl) (by kernel_rfl) (by kernel_rfl) (by kernel_rfl) HK1.out.drew (fun F hF => ?_)
      simp only [Rg.fill, List.setIfInBounds_toArray, List.set_cons_zero, List.set_cons_succ] at hF
      subst hF
      refine ⟨?_, fun V hJ => ?_⟩
      · show ∀ i, i < 23 → _
        repeat' refine Rg.below_succ ?_ ?_
        all_goals first
          | exact Rg.below_zero
          | (refine Rg.StepOK.of rfl ?_
             first
             | (left; exact ⟨by kernel_rfl, fun d hd => by injection hd with hd; subst hd; rfl⟩)
             | (right
                refine ⟨by kernel_rfl, fun V hJ K hK => ?_⟩
                obtain ⟨h0, h1, h2⟩ := hJ.box
                have HJ := Lib.hid hJ
                clear hJ
                go_simp
                first
                  | exact hK _ HJ.out
                  | (refine (HCl.out _).mono ?_; rintro e w9 ⟨rfl, hb⟩; rw [← hb]; exact hK _ HJ.out)))
      · go_wp2_with fail
        go_ret2
        exact ⟨by rw [HV.out]; rfl, hJ.bel⟩
    · obtain ⟨i, rfl⟩ : ∃ im : Nat, i = im := ⟨i.toNat, by omega⟩
      have hcell : w.cell? ⟨p, c * 2 + 1, none⟩ = some (.slice (some ⟨gs c, 0, none⟩) (n c) (n c)) := hblocks
      have q4 : (c : Int) < 4 := by omega
      by_cases hin : i < n c
      · obtain ⟨b, hb⟩ : ∃ b, (A c)[i]? = some b := ⟨_, List.getElem?_eq_getElem (by omega)⟩
        have hage := ha c i b c4 hb
        have hra := right_at (A := A) (c := c) (i := i) (g := g) c4
        rw [hb] at hra
        replace hra : rightA A ((c : Int), (i : Int), g) = if b.held ≠ 0 ∧ (b.gen : Int) = g then some b else none := hra
        have HRA := Lib.hid hra
        have e0 := (h.cell c4 hb (t := 0) (by decide)).1
        have e1 := (h.cell c4 hb (t := 1) (by decide)).1
        have e2 := (h.cell c4 hb (t := 2) (by decide)).1
        have e3 := (h.cell c4 hb (t := 3) (by decide)).1
        replace e0 : w.cell? ⟨gs c, i * 5, none⟩ = some (.int .i64 (ownI c b.gen)) := e0
        replace e1 : w.cell? ⟨gs c, i * 5 + 1, none⟩ = some (.int .i64 (ownI i b.gen)) := e1
        replace e2 : w.cell? ⟨gs c, i * 5 + 2, none⟩ = some (.int .i64 (b.gen : Int)) := e2
        replace e3 : w.cell? ⟨gs c, i * 5 + 3, none⟩ = some (.int .i64 (b.held : Int)) := e3
        have hgl := h.ltG c4
        have HG : rightV gs A ((c : Int), (i : Int), g) = match (if b.held ≠ 0 ∧ (b.gen : Int) = g then some b else none) with
            | none => .tuple #[.pointer none, .int .i64 15]
            | some _ => .tuple #[.pointer (some ⟨gs c, i * 5, none⟩), .int .i64 0] := by
          unfold rightV; rw [HRA.out]; rfl
        have HGG := Lib.hid HG
        clear HG hra HRA hblocks hlen h ha hb
        generalize gs c = G at *
        generalize n c = N at *
        have qN : ¬ N ≤ i := by omega
        by_cases h0 : b.held = 0
        · have HV := Lib.hid (show rightV gs A ((c : Int), (i : Int), g) = .tuple #[.pointer none, .int .i64 15] from by rw [HGG.out, if_neg (by intro q; exact q.1 h0)])
          have t0 : ((b.held : Int) == 0) = true := by rw [h0]; rfl
          clear HGG hage h0
          go_enter Try.func54, Try.ntmps54
          go_wp2_with fail
          refine HMd.out.mono ?_
          rintro e w1 ⟨rfl, hw⟩
          have HK1 := Lib.hid (hw ▸ HK0.out)
          clear hw HMd HK0
          go_upto_region 3 with fail
          refine Rg.val_region (n := 58) (J := fun V => Kr w c i g V) [(10, .pointer (some ⟨w.heap.size, 0, none⟩)), (11, .int .i64 (c : Int)), (12, .bool true), (13, .bool false), (14, .bool false), (15, .pointer (some ⟨w.heap.size, 1, none⟩)), (16, .int .i64 (i : Int)), (17, .bool false), (18, .bool false), (19, .bool false), (20, .pointer (some ⟨w.heap.size, 1, none⟩)), (21, .int .i64 (i : Int)), (22, .pointer (some ⟨p, 0, none⟩)), (23, .pointer (some ⟨w.heap.size, 0, none⟩)), (24, .int .i64 (c : Int)), (25, .pointer (some ⟨p, 0, none⟩)), (26, .pointer (some ⟨p, 0, none⟩)), (27, .pointer (some ⟨p, c * 2, none⟩)), (28, .pointer (some ⟨p, c * 2 + 1, none⟩)), (29, .slice (some ⟨G, 0, none⟩) N N), (30, .int .i64 (N : Int)), (31, .bool false), (32, .bool false)] (by kernel_rfl) (by kernel_rfl) (by kernel_rfl) (by kernel_rfl) HK1.out.drew (fun F hF => ?_)
          simp only [Rg.fill, List.setIfInBounds_toArray, List.set_cons_zero, List.set_cons_succ] at hF
          subst hF
          refine ⟨?_, fun V hJ => ?_⟩
          · show ∀ i, i < 23 → _
            repeat' refine Rg.below_succ ?_ ?_
            all_goals first
              | exact Rg.below_zero
              | (refine Rg.StepOK.of rfl ?_
                 first
                 | (left; exact ⟨by kernel_rfl, fun d hd => by injection hd with hd; subst hd; rfl⟩)
                 | (right
                    refine ⟨by kernel_rfl, fun V hJ K hK => ?_⟩
                    obtain ⟨h0, h1, h2⟩ := hJ.box
                    have cp := hJ.cell hcell hpl
                    have HJ := Lib.hid hJ
                    clear hJ
                    go_simp
                    first
                      | exact hK _ HJ.out
                      | (refine (HCl.out _).mono ?_; rintro e w9 ⟨rfl, hb⟩; rw [← hb]; exact hK _ HJ.out)))
          · have HK3 := Lib.hid hJ
            obtain ⟨h0, h1, h2⟩ := hJ.box
            have cp := hJ.cell hcell hpl
            clear hJ
            go_upto_region 5 with fail
            go_region
            have HK2 := Lib.hid HK3.out.drew
            clear h0 h1 h2 cp
            go_upto_region 6 with fail
            refine Rg.val_region (n := 58) (J := fun V => Kr w c i g V) [(44, .pointer (some ⟨G, i * 5, none⟩)), (45, .pointer (some ⟨G, i * 5, none⟩)), (46, .pointer (some ⟨G, i * 5 + 3, none⟩)), (47, .int .i64 (b.held : Int)), (48, .bool true), (49, .bool true), (50, undef), (51, undef), (52, undef), (53, undef), (54, undef), (55, undef), (56, .bool true)] (by kernel_rfl) (by kernel_rfl) (by kernel_rfl) (by kernel_rfl) HK2.out.drew (fun F hF => ?_)
            simp only [Rg.fill, List.setIfInBounds_toArray, List.set_cons_zero, List.set_cons_succ] at hF
            subst hF
            refine ⟨?_, fun V hJ => ?_⟩
            · show ∀ i, i < 13 → _
              repeat' refine Rg.below_succ ?_ ?_
              all_goals first
                | exact Rg.below_zero
                | (refine Rg.StepOK.of rfl ?_
                   first
                   | (left; exact ⟨by kernel_rfl, fun d hd => by injection hd with hd; subst hd; rfl⟩)
                   | (right
                      refine ⟨by kernel_rfl, fun V hJ K hK => ?_⟩
                      obtain ⟨h0, h1, h2⟩ := hJ.box
                      have cp := hJ.cell hcell hpl
                      have d0 := hJ.cell e0 hgl
                      have d1 := hJ.cell e1 hgl
                      have d2 := hJ.cell e2 hgl
                      have d3 := hJ.cell e3 hgl
                      have HJ := Lib.hid hJ
                      clear hJ
                      go_simp
                      first
                        | exact hK _ HJ.out
                        | (refine (HCl.out _).mono ?_; rintro e w9 ⟨rfl, hb⟩; rw [← hb]; exact hK _ HJ.out)))
            · go_wp2_with fail
              go_ret2
              exact ⟨by rw [HV.out]; rfl, hJ.bel⟩
        · replace hage := hage h0
          have o0 : ownI c b.gen = (c : Int) := by unfold ownI; rw [if_neg hage]
          have o1 : ownI i b.gen = (i : Int) := by unfold ownI; rw [if_neg hage]
          rw [o0] at e0
          rw [o1] at e1
          have t0 : ((b.held : Int) == 0) = false := by rw [beq_eq_false_iff_ne]; omega
          by_cases hg : (b.gen : Int) = g
          · have HV := Lib.hid (show rightV gs A ((c : Int), (i : Int), g) = .tuple #[.pointer (some ⟨G, i * 5, none⟩), .int .i64 0] from by rw [HGG.out, if_pos ⟨h0, hg⟩])
            have t1 : ((b.gen : Int) == g) = true := by rw [beq_iff_eq]; exact hg
            clear HGG hage h0 hg o0 o1
            go_enter Try.func54, Try.ntmps54
            go_wp2_with fail
            refine HMd.out.mono ?_
            rintro e w1 ⟨rfl, hw⟩
            have HK1 := Lib.hid (hw ▸ HK0.out)
            clear hw HMd HK0
            go_upto_region 3 with fail
            refine Rg.val_region (n := 58) (J := fun V => Kr w c i g V) [(10, .pointer (some ⟨w.heap.size, 0, none⟩)), (11, .int .i64 (c : Int)), (12, .bool true), (13, .bool false), (14, .bool false), (15, .pointer (some ⟨w.heap.size, 1, none⟩)), (16, .int .i64 (i : Int)), (17, .bool false), (18, .bool false), (19, .bool false), (20, .pointer (some ⟨w.heap.size, 1, none⟩)), (21, .int .i64 (i : Int)), (22, .pointer (some ⟨p, 0, none⟩)), (23, .pointer (some ⟨w.heap.size, 0, none⟩)), (24, .int .i64 (c : Int)), (25, .pointer (some ⟨p, 0, none⟩)), (26, .pointer (some ⟨p, 0, none⟩)), (27, .pointer (some ⟨p, c * 2, none⟩)), (28, .pointer (some ⟨p, c * 2 + 1, none⟩)), (29, .slice (some ⟨G, 0, none⟩) N N), (30, .int .i64 (N : Int)), (31, .bool false), (32, .bool false)] (by kernel_rfl) (by kernel_rfl) (by kernel_rfl) (by kernel_rfl) HK1.out.drew (fun F hF => ?_)
            simp only [Rg.fill, List.setIfInBounds_toArray, List.set_cons_zero, List.set_cons_succ] at hF
            subst hF
            refine ⟨?_, fun V hJ => ?_⟩
            · show ∀ i, i < 23 → _
              repeat' refine Rg.below_succ ?_ ?_
              all_goals first
                | exact Rg.below_zero
                | (refine Rg.StepOK.of rfl ?_
                   first
                   | (left; exact ⟨by kernel_rfl, fun d hd => by injection hd with hd; subst hd; rfl⟩)
                   | (right
                      refine ⟨by kernel_rfl, fun V hJ K hK => ?_⟩
                      obtain ⟨h0, h1, h2⟩ := hJ.box
                      have cp := hJ.cell hcell hpl
                      have HJ := Lib.hid hJ
                      clear hJ
                      go_simp
                      first
                        | exact hK _ HJ.out
                        | (refine (HCl.out _).mono ?_; rintro e w9 ⟨rfl, hb⟩; rw [← hb]; exact hK _ HJ.out)))
            · have HK3 := Lib.hid hJ
              obtain ⟨h0, h1, h2⟩ := hJ.box
              have cp := hJ.cell hcell hpl
              clear hJ
              go_upto_region 5 with fail
              go_region
              have HK2 := Lib.hid HK3.out.drew
              clear h0 h1 h2 cp
              go_upto_region 6 with fail
              refine Rg.val_region (n := 58) (J := fun V => Kr w c i g V) [(44, .pointer (some ⟨G, i * 5, none⟩)), (45, .pointer (some ⟨G, i * 5, none⟩)), (46, .pointer (some ⟨G, i * 5 + 3, none⟩)), (47, .int .i64 (b.held : Int)), (48, .bool false), (49, .bool false), (50, .pointer (some ⟨G, i * 5, none⟩)), (51, .pointer (some ⟨G, i * 5, none⟩)), (52, .pointer (some ⟨G, i * 5, none⟩)), (53, .agg #[.int .i64 (c : Int), .int .i64 (i : Int), .int .i64 (b.gen : Int)]), (54, .agg #[.int .i64 (c : Int), .int .i64 (i : Int), .int .i64 g]), (55, .bool false), (56, .bool false)] (by kernel_rfl) (by kernel_rfl) (by kernel_rfl) (by kernel_rfl) HK2.out.drew (fun F hF => ?_)
              simp only [Rg.fill, List.setIfInBounds_toArray, List.set_cons_zero, List.set_cons_succ] at hF
              subst hF
              refine ⟨?_, fun V hJ => ?_⟩
              · show ∀ i, i < 13 → _
                repeat' refine Rg.below_succ ?_ ?_
                all_goals first
                  | exact Rg.below_zero
                  | (refine Rg.StepOK.of rfl ?_
                     first
                     | (left; exact ⟨by kernel_rfl, fun d hd => by injection hd with hd; subst hd; rfl⟩)
                     | (right
                        refine ⟨by kernel_rfl, fun V hJ K hK => ?_⟩
                        obtain ⟨h0, h1, h2⟩ := hJ.box
                        have cp := hJ.cell hcell hpl
                        have d0 := hJ.cell e0 hgl
                        have d1 := hJ.cell e1 hgl
                        have d2 := hJ.cell e2 hgl
                        have d3 := hJ.cell e3 hgl
                        have HJ := Lib.hid hJ
                        clear hJ
                        go_simp
                        first
                          | exact hK _ HJ.out
                          | (refine (HCl.out _).mono ?_; rintro e w9 ⟨rfl, hb⟩; rw [← hb]; exact hK _ HJ.out)))
              · go_wp2_with fail
                go_ret2
                exact ⟨by rw [HV.out]; rfl, hJ.bel⟩
          · have HV := Lib.hid (show rightV gs A ((c : Int), (i : Int), g) = .tuple #[.pointer none, .int .i64 15] from by rw [HGG.out, if_neg (by intro q; exact hg q.2)])
            have t1 : ((b.gen : Int) == g) = false := by rw [beq_eq_false_iff_ne]; exact hg
            clear HGG hage h0 hg o0 o1
            go_enter Try.func54, Try.ntmps54
            go_wp2_with fail
            refine HMd.out.mono ?_
            rintro e w1 ⟨rfl, hw⟩
            have HK1 := Lib.hid (hw ▸ HK0.out)
            clear hw HMd HK0
            go_upto_region 3 with fail
            refine Rg.val_region (n := 58) (J := fun V => Kr w c i g V) [(10, .pointer (some ⟨w.heap.size, 0, none⟩)), (11, .int .i64 (c : Int)), (12, .bool true), (13, .bool false), (14, .bool false), (15, .pointer (some ⟨w.heap.size, 1, none⟩)), (16, .int .i64 (i : Int)), (17, .bool false), (18, .bool false), (19, .bool false), (20, .pointer (some ⟨w.heap.size, 1, none⟩)), (21, .int .i64 (i : Int)), (22, .pointer (some ⟨p, 0, none⟩)), (23, .pointer (some ⟨w.heap.size, 0, none⟩)), (24, .int .i64 (c : Int)), (25, .pointer (some ⟨p, 0, none⟩)), (26, .pointer (some ⟨p, 0, none⟩)), (27, .pointer (some ⟨p, c * 2, none⟩)), (28, .pointer (some ⟨p, c * 2 + 1, none⟩)), (29, .slice (some ⟨G, 0, none⟩) N N), (30, .int .i64 (N : Int)), (31, .bool false), (32, .bool false)] (by kernel_rfl) (by kernel_rfl) (by kernel_rfl) (by kernel_rfl) HK1.out.drew (fun F hF => ?_)
            simp only [Rg.fill, List.setIfInBounds_toArray, List.set_cons_zero, List.set_cons_succ] at hF
            subst hF
            refine ⟨?_, fun V hJ => ?_⟩
            · show ∀ i, i < 23 → _
              repeat' refine Rg.below_succ ?_ ?_
              all_goals first
                | exact Rg.below_zero
                | (refine Rg.StepOK.of rfl ?_
                   first
                   | (left; exact ⟨by kernel_rfl, fun d hd => by injection hd with hd; subst hd; rfl⟩)
                   | (right
                      refine ⟨by kernel_rfl, fun V hJ K hK => ?_⟩
                      obtain ⟨h0, h1, h2⟩ := hJ.box
                      have cp := hJ.cell hcell hpl
                      have HJ := Lib.hid hJ
                      clear hJ
                      go_simp
                      first
                        | exact hK _ HJ.out
                        | (refine (HCl.out _).mono ?_; rintro e w9 ⟨rfl, hb⟩; rw [← hb]; exact hK _ HJ.out)))
            · have HK3 := Lib.hid hJ
              obtain ⟨h0, h1, h2⟩ := hJ.box
              have cp := hJ.cell hcell hpl
              clear hJ
              go_upto_region 5 with fail
              go_region
              have HK2 := Lib.hid HK3.out.drew
              clear h0 h1 h2 cp
              go_upto_region 6 with fail
              refine Rg.val_region (n := 58) (J := fun V => Kr w c i g V) [(44, .pointer (some ⟨G, i * 5, none⟩)), (45, .pointer (some ⟨G, i * 5, none⟩)), (46, .pointer (some ⟨G, i * 5 + 3, none⟩)), (47, .int .i64 (b.held : Int)), (48, .bool false), (49, .bool false), (50, .pointer (some ⟨G, i * 5, none⟩)), (51, .pointer (some ⟨G, i * 5, none⟩)), (52, .pointer (some ⟨G, i * 5, none⟩)), (53, .agg #[.int .i64 (c : Int), .int .i64 (i : Int), .int .i64 (b.gen : Int)]), (54, .agg #[.int .i64 (c : Int), .int .i64 (i : Int), .int .i64 g]), (55, .bool true), (56, .bool true)] (by kernel_rfl) (by kernel_rfl) (by kernel_rfl) (by kernel_rfl) HK2.out.drew (fun F hF => ?_)
              simp only [Rg.fill, List.setIfInBounds_toArray, List.set_cons_zero, List.set_cons_succ] at hF
              subst hF
              refine ⟨?_, fun V hJ => ?_⟩
              · show ∀ i, i < 13 → _
                repeat' refine Rg.below_succ ?_ ?_
                all_goals first
                  | exact Rg.below_zero
                  | (refine Rg.StepOK.of rfl ?_
                     first
                     | (left; exact ⟨by kernel_rfl, fun d hd => by injection hd with hd; subst hd; rfl⟩)
                     | (right
                        refine ⟨by kernel_rfl, fun V hJ K hK => ?_⟩
                        obtain ⟨h0, h1, h2⟩ := hJ.box
                        have cp := hJ.cell hcell hpl
                        have d0 := hJ.cell e0 hgl
                        have d1 := hJ.cell e1 hgl
                        have d2 := hJ.cell e2 hgl
                        have d3 := hJ.cell e3 hgl
                        have HJ := Lib.hid hJ
                        clear hJ
                        go_simp
                        first
                          | exact hK _ HJ.out
                          | (refine (HCl.out _).mono ?_; rintro e w9 ⟨rfl, hb⟩; rw [← hb]; exact hK _ HJ.out)))
              · go_wp2_with fail
                go_ret2
                exact ⟨by rw [HV.out]; rfl, hJ.bel⟩
      · have HV := Lib.hid (show rightV gs A ((c : Int), (i : Int), g) = .tuple #[.pointer none, .int .i64 15] from by
          unfold rightV
          rw [right_at c4, List.getElem?_eq_none (by omega)])
        clear h ha hblocks hlen
        generalize gs c = G at *
        generalize n c = N at *
        have qN : N ≤ i := by omega
        go_enter Try.func54, Try.ntmps54
        go_wp2_with fail
        refine HMd.out.mono ?_
        rintro e w1 ⟨rfl, hw⟩
        have HK1 := Lib.hid (hw ▸ HK0.out)
        clear hw HMd HK0
        go_upto_region 3 with fail
        refine Rg.val_region (n := 58) (J := fun V => Kr w c i g V) [(10, .pointer (some ⟨w.heap.size, 0, none⟩)), (11, .int .i64 (c : Int)), (12, .bool true), (13, .bool false), (14, .bool false), (15, .pointer (some ⟨w.heap.size, 1, none⟩)), (16, .int .i64 (i : Int)), (17, .bool false), (18, .bool false), (19, .bool false), (20, .pointer (some ⟨w.heap.size, 1, none⟩)), (21, .int .i64 (i : Int)), (22, .pointer (some ⟨p, 0, none⟩)), (23, .pointer (some ⟨w.heap.size, 0, none⟩)), (24, .int .i64 (c : Int)), (25, .pointer (some ⟨p, 0, none⟩)), (26, .pointer (some ⟨p, 0, none⟩)), (27, .pointer (some ⟨p, c * 2, none⟩)), (28, .pointer (some ⟨p, c * 2 + 1, none⟩)), (29, .slice (some ⟨G, 0, none⟩) N N), (30, .int .i64 (N : Int)), (31, .bool true), (32, .bool true)] (by kernel_rfl) (by kernel_rfl) (by kernel_rfl) (by kernel_rfl) HK1.out.drew (fun F hF => ?_)
        simp only [Rg.fill, List.setIfInBounds_toArray, List.set_cons_zero, List.set_cons_succ] at hF
        subst hF
        refine ⟨?_, fun V hJ => ?_⟩
        · show ∀ i, i < 23 → _
          repeat' refine Rg.below_succ ?_ ?_
          all_goals first
            | exact Rg.below_zero
            | (refine Rg.StepOK.of rfl ?_
               first
               | (left; exact ⟨by kernel_rfl, fun d hd => by injection hd with hd; subst hd; rfl⟩)
               | (right
                  refine ⟨by kernel_rfl, fun V hJ K hK => ?_⟩
                  obtain ⟨h0, h1, h2⟩ := hJ.box
                  have cp := hJ.cell hcell hpl
                  have HJ := Lib.hid hJ
                  clear hJ
                  go_simp
                  first
                    | exact hK _ HJ.out
                    | (refine (HCl.out _).mono ?_; rintro e w9 ⟨rfl, hb⟩; rw [← hb]; exact hK _ HJ.out)))
        · go_wp2_with fail
          go_ret2
          exact ⟨by rw [HV.out]; rfl, hJ.bel⟩
  · have hib : inB c = false := by unfold inB; rw [decide_eq_false hc]
    rw [hib] at HI
    have HCl := HI
    have HV := Lib.hid (show rightV gs A (c, i, g) = .tuple #[.pointer none, .int .i64 15] from by
      unfold rightV rightA; rw [if_neg (by simp only; omega)])
    clear h ha hib
    go_enter Try.func54, Try.ntmps54
    go_wp2_with fail
    refine HMd.out.mono ?_
    rintro e w1 ⟨rfl, hw⟩
    have HK1 := Lib.hid (hw ▸ HK0.out)
    clear hw HMd HK0
    go_upto_region 3 with fail
    refine Rg.val_region (n := 58) (J := fun V => Kr w c i g V) [(10, .pointer (some ⟨w.heap.size, 0, none⟩)), (11, .int .i64 c), (12, .bool false), (13, .bool true), (14, .bool true), (15, undef), (16, undef), (17, undef), (18, .bool true), (19, .bool true), (20, undef), (21, undef), (22, undef), (23, undef), (24, undef), (25, undef), (26, undef), (27, undef), (28, undef), (29, undef), (30, undef), (31, undef), (32, .bool true)] (by kernel_rfl) (by kernel_rfl) (by kernel_rfl) (by kernel_rfl) HK1.out.drew (fun F hF => ?_)
    simp only [Rg.fill, List.setIfInBounds_toArray, List.set_cons_zero, List.set_cons_succ] at hF
    subst hF
    refine ⟨?_, fun V hJ => ?_⟩
    · show ∀ i, i < 23 → _
      repeat' refine Rg.below_succ ?_ ?_
      all_goals first
        | exact Rg.below_zero
        | (refine Rg.StepOK.of rfl ?_
           first
           | (left; exact ⟨by kernel_rfl, fun d hd => by injection hd with hd; subst hd; rfl⟩)
           | (right
              refine ⟨by kernel_rfl, fun V hJ K hK => ?_⟩
              obtain ⟨h0, h1, h2⟩ := hJ.box
              have HJ := Lib.hid hJ
              clear hJ
              go_simp
              first
                | exact hK _ HJ.out
                | (refine (HCl.out _).mono ?_; rintro e w9 ⟨rfl, hb⟩; rw [← hb]; exact hK _ HJ.out)))
    · go_wp2_with fail
      go_ret2
      exact ⟨by rw [HV.out]; rfl, hJ.bel⟩
end Go.Proofs.Ytbpadliiekhkjaa.Sl
/-
  The program's arena beside the plain one. No condition.
-/
namespace Go.Proofs.Ytbpadliiekhkjaa.Sl
open Go.RowKit Go.Proofs.Ytbpadliiekhkjaa.Fd
set_option maxRecDepth 100000
set_option linter.unusedVariables false
set_option linter.unusedSimpArgs false

/-- The types of the program's blocks. -/
def TP (t : TypeId) : Bool := t == 66 || t == 92 || t == 5
theorem PAt.tn {T : TypeId → Bool} {b0 : Nat} {w w' : World} {base p : Nat} {n gs : Nat → Nat} {Q : Mp} {M : Nat → Nat → Tk.Bs} {A : Ar} (h : PAt w base p n gs Q M A) (ht : Tn T b0 w w') (hT : ∀ t, TP t = true → T t = false) : PAt w' base p n gs Q M A := by
  refine ⟨ht.other h.arena (hT _ rfl), fun c hc => ?_, h.len, fun c i q hq => ⟨ht.other (h.mem c i q hq).1 (hT _ rfl), (h.mem c i q hq).2⟩, h.apP, h.apG, h.apGG, h.apQ, h.apQQ⟩
  obtain ⟨cur, h1, h2⟩ := h.row c hc
  exact ⟨cur, ht.other h1 (hT _ rfl), h2⟩
theorem PAt.rowIs {w : World} {base p : Nat} {n gs : Nat → Nat} {Q : Mp} {M : Nat → Nat → Tk.Bs} {A : Ar} (h : PAt w base p n gs Q M A) {c : Nat} (hc : c < 4) : IsT TP w (gs c) ∧ base ≤ gs c := by
  obtain ⟨cur, h1, h2⟩ := h.row c hc
  exact ⟨⟨_, _, _, h1, rfl⟩, (h.apG c hc).1⟩
theorem PAt.memIs {w : World} {base p : Nat} {n gs : Nat → Nat} {Q : Mp} {M : Nat → Nat → Tk.Bs} {A : Ar} (h : PAt w base p n gs Q M A) {c i q : Nat} (hq : Q c i = some q) : IsT TP w q ∧ base ≤ q :=
  ⟨⟨_, _, _, (h.mem c i q hq).1, rfl⟩, (h.apQ c i q hq).2.1⟩
/-- What the memory says of the plain arena; no block was taken or held too often. -/
structure PGood (Q : Mp) (M : Nat → Nat → Tk.Bs) (A : Ar) (G : Nat) : Prop where
  busy : ∀ (c i : Nat) (b : Blk), c < 4 → (A c)[i]? = some b → b.held ≠ 0 → b.gen ≠ 0 ∧ (∃ q, Q c i = some q) ∧ M c i = b.mem
  idle : ∀ (c i : Nat) (b : Blk) (q : Nat), c < 4 → (A c)[i]? = some b → b.held = 0 → Q c i = some q → M c i = List.replicate (sizeC c) 0
  small : ∀ (c i : Nat) (b : Blk), c < 4 → (A c)[i]? = some b → b.gen ≤ G ∧ b.held ≤ 1048576
theorem PGood.aged {Q : Mp} {M : Nat → Nat → Tk.Bs} {A : Ar} {G : Nat} (h : PGood Q M A G) : Aged A := fun c i b hc hb hh => (h.busy c i b hc hb hh).1
/-- One block is changed. -/
theorem PGood.put {Q Q' : Mp} {M M' : Nat → Nat → Tk.Bs} {A : Ar} {G G' : Nat} (h : PGood Q M A G) {c i : Nat} {y : Blk} (hQ : ∀ d j, ¬ (d = c ∧ j = i) → Q' d j = Q d j) (hM : ∀ d j, ¬ (d = c ∧ j = i) → M' d j = M d j) (hG : G ≤ G')
    (h1 : y.held ≠ 0 → y.gen ≠ 0 ∧ (∃ q, Q' c i = some q) ∧ M' c i = y.mem) (h2 : y.held = 0 → ∀ q, Q' c i = some q → M' c i = List.replicate (sizeC c) 0) (h3 : y.gen ≤ G' ∧ y.held ≤ 1048576) :
    PGood Q' M' (upd A c ((A c).set i y)) G' := by
  have key : ∀ (d j : Nat) (b : Blk), (upd A c ((A c).set i y) d)[j]? = some b → (d = c ∧ j = i ∧ b = y) ∨ (¬ (d = c ∧ j = i) ∧ (A d)[j]? = some b) := by
    intro d j b hb
    by_cases e : d = c
    · subst e
      rw [upd_same] at hb
      by_cases e2 : i = j
      · subst e2
        left
        obtain ⟨hl, hv⟩ := List.getElem?_eq_some_iff.1 hb
        rw [List.getElem_set_self] at hv
        exact ⟨rfl, rfl, hv.symm⟩
      · rw [List.getElem?_set_ne e2] at hb
        exact .inr ⟨fun q => e2 q.2.symm, hb⟩
    · rw [upd_other _ _ e] at hb
      exact .inr ⟨fun q => e q.1, hb⟩
  refine ⟨fun d j b hd hb hh => ?_, fun d j b q hd hb hh hq => ?_, fun d j b hd hb => ?_⟩
  · rcases key d j b hb with ⟨rfl, rfl, rfl⟩ | ⟨hn, hb2⟩
    · exact h1 hh
    · rw [hQ d j hn, hM d j hn]; exact h.busy d j b hd hb2 hh
  · rcases key d j b hb with ⟨rfl, rfl, rfl⟩ | ⟨hn, hb2⟩
    · exact h2 hh q hq
    · rw [hQ d j hn] at hq
      rw [hM d j hn]; exact h.idle d j b q hd hb2 hh hq
  · rcases key d j b hb with ⟨rfl, rfl, rfl⟩ | ⟨hn, hb2⟩
    · exact h3
    · obtain ⟨h4, h5⟩ := h.small d j b hd hb2
      exact ⟨by omega, h5⟩
structure PRel (w : World) (base p : Nat) (n : Nat → Nat) (A : Ar) (G : Nat) : Prop where
  it : ∃ gs Q M, PAt w base p n gs Q M A ∧ PGood Q M A G
  few : ∀ c, c < 4 → n c ≤ 4096
  small : G ≤ 1099511627776
theorem PRel.same {w w' : World} {base p : Nat} {n : Nat → Nat} {A : Ar} {G : Nat} (h : PRel w base p n A G) (hb : Below w.heap.size w w') : PRel w' base p n A G := by
  obtain ⟨gs, Q, M, h1, h2⟩ := h.it
  exact ⟨⟨gs, Q, M, h1.same hb, h2⟩, h.few, h.small⟩
theorem PRel.tn {T : TypeId → Bool} {b0 : Nat} {w w' : World} {base p : Nat} {n : Nat → Nat} {A : Ar} {G : Nat} (h : PRel w base p n A G) (ht : Tn T b0 w w') (hT : ∀ t, TP t = true → T t = false) : PRel w' base p n A G := by
  obtain ⟨gs, Q, M, h1, h2⟩ := h.it
  exact ⟨⟨gs, Q, M, h1.tn ht hT, h2⟩, h.few, h.small⟩
theorem PRel.lt {w : World} {base p : Nat} {n : Nat → Nat} {A : Ar} {G : Nat} (h : PRel w base p n A G) : base ≤ p ∧ p < w.heap.size := by
  obtain ⟨gs, Q, M, h1, h2⟩ := h.it
  exact ⟨h1.apP, h1.lt⟩
theorem PRel.more {w : World} {base p : Nat} {n : Nat → Nat} {A : Ar} {G G' : Nat} (h : PRel w base p n A G) (hg : G ≤ G') (hs : G' ≤ 1099511627776) : PRel w base p n A G' := by
  obtain ⟨gs, Q, M, h1, h2⟩ := h.it
  exact ⟨⟨gs, Q, M, h1, ⟨h2.busy, h2.idle, fun c i b hc hb => by obtain ⟨h4, h5⟩ := h2.small c i b hc hb; exact ⟨by omega, h5⟩⟩⟩, h.few, hs⟩
/-- What a call leaves: an error, the two related, nothing else changed. -/
def DoneP (base p : Nat) (n : Nat → Nat) (r : Int × Ar) (G : Nat) (w : World) (e : Ending) (w' : World) : Prop := e = .returned (.int .i64 r.1) ∧ PRel w' base p n r.2 G ∧ Tn TP base w w'
/-- What a handle is. -/
theorem right_ways {A : Ar} (gs : Nat → Nat) (c i g : Int) :
    (rightA A (c, i, g) = none ∧ rightV gs A (c, i, g) = .tuple #[.pointer none, .int .i64 15]) ∨
    ∃ (cn im : Nat) (b : Blk), c = (cn : Int) ∧ i = (im : Int) ∧ cn < 4 ∧ (A cn)[im]? = some b ∧ b.held ≠ 0 ∧ (b.gen : Int) = g ∧ rightA A (c, i, g) = some b ∧ rightV gs A (c, i, g) = .tuple #[.pointer (some ⟨gs cn, im * 5, none⟩), .int .i64 0] := by
  cases hr : rightA A (c, i, g) with
  | none => exact .inl ⟨rfl, by unfold rightV; rw [hr]⟩
  | some b =>
    right
    have h := hr
    unfold rightA at h
    split at h
    · rename_i hc
      simp only at hc
      obtain ⟨cn, rfl⟩ : ∃ x : Nat, c = x := ⟨c.toNat, by omega⟩
      obtain ⟨im, rfl⟩ : ∃ x : Nat, i = x := ⟨i.toNat, by omega⟩
      have h2 := right_at (A := A) (c := cn) (i := im) (g := g) (by omega)
      rw [hr] at h2
      cases hb : (A cn)[im]? with
      | none => rw [hb] at h2; cases h2
      | some x =>
        rw [hb] at h2
        replace h2 : some b = if x.held ≠ 0 ∧ (x.gen : Int) = g then some x else none := h2
        split at h2
        · rename_i hq
          injection h2 with h2
          subst h2
          exact ⟨cn, im, b, rfl, rfl, by omega, hb, hq.1, hq.2, rfl, by unfold rightV; rw [hr]; rfl⟩
        · cases h2
    · cases h
/-- A held number is stored. -/
theorem PAt.setHeld {w : World} {base p : Nat} {n gs : Nat → Nat} {Q : Mp} {M : Nat → Nat → Tk.Bs} {A : Ar} (h : PAt w base p n gs Q M A) {c i : Nat} {b : Blk} (hc : c < 4) (hb : (A c)[i]? = some b) (h' : Nat) :
    PAt (w.setCell ⟨gs c, i * 5 + 3, none⟩ (.int .i64 (h' : Int))) base p n gs Q M (upd A c ((A c).set i { b with held := h' })) ∧ Tn TP base w (w.setCell ⟨gs c, i * 5 + 3, none⟩ (.int .i64 (h' : Int))) :=
  ⟨h.store hc hb (t := 3) (by decide) (b' := { b with held := h' }) rfl, Tn.set (h.rowIs hc).1 (h.rowIs hc).2 _⟩
end Go.Proofs.Ytbpadliiekhkjaa.Sl
/-
  Worlds that turned within blocks of O and of some types alone. No condition.
-/
namespace Go.Proofs.Ytbpadliiekhkjaa.So
open Go.RowKit Go.Proofs.Ytbpadliiekhkjaa.Fd Go.Proofs.Ytbpadliiekhkjaa.Sl
set_option linter.unusedVariables false

structure Tn (T : TypeId → Bool) (O : Nat → Prop) (w w' : World) : Prop where
  os : w'.os = w.os
  tape : w'.tape = w.tape
  output : w'.output = w.output
  size : w.heap.size ≤ w'.heap.size
  block : ∀ k, k < w.heap.size → (¬ O k ∨ ¬ IsT T w k) → w'.heap[k]? = w.heap[k]?
theorem Tn.refl (T : TypeId → Bool) (O : Nat → Prop) (w : World) : Tn T O w w := ⟨rfl, rfl, rfl, Nat.le_refl _, fun _ _ _ => rfl⟩
theorem Tn.of_below {T : TypeId → Bool} {O : Nat → Prop} {w w' : World} (h : Below w.heap.size w w') : Tn T O w w' := ⟨h.os, h.tape, h.output, h.size, fun k hk _ => h.block k hk⟩
theorem Tn.trans {T : TypeId → Bool} {O : Nat → Prop} {a b c : World} (h : Tn T O a b) (k : Tn T O b c) : Tn T O a c :=
  ⟨k.os.trans h.os, k.tape.trans h.tape, k.output.trans h.output, Nat.le_trans h.size k.size, fun i hi hn => by
    have e := h.block i hi hn
    refine (k.block i (Nat.lt_of_lt_of_le hi h.size) ?_).trans e
    rcases hn with hn | hn
    · exact .inl hn
    · right
      rintro ⟨cs, t, fr, h1, h2⟩
      exact hn ⟨cs, t, fr, by rw [← e]; exact h1, h2⟩⟩
theorem Tn.next {T : TypeId → Bool} {O : Nat → Prop} {a b c : World} (h : Tn T O a b) (k : Below b.heap.size b c) : Tn T O a c := h.trans (.of_below k)
theorem Tn.one {T : TypeId → Bool} {O : Nat → Prop} {w w' : World} {g : Nat} (h : IsT T w g) (hb : O g) (h1 : w'.os = w.os) (h2 : w'.tape = w.tape) (h3 : w'.output = w.output) (h4 : w.heap.size ≤ w'.heap.size) (h5 : ∀ k, k < w.heap.size → k ≠ g → w'.heap[k]? = w.heap[k]?) : Tn T O w w' :=
  ⟨h1, h2, h3, h4, fun k hk hn => h5 k hk (fun e => by
    subst e
    rcases hn with hn | hn
    · exact hn hb
    · exact hn h)⟩
theorem Tn.set {T : TypeId → Bool} {O : Nat → Prop} {w : World} {g j : Nat} (h : IsT T w g) (hb : O g) (v : Value) : Tn T O w (w.setCell ⟨g, j, none⟩ v) :=
  .one h hb rfl rfl rfl (by simp [World.setCell]) (fun k _ hk => Below.heap_setCell _ _ _ _ hk)
theorem Tn.row {T : TypeId → Bool} {O : Nat → Prop} {w : World} {g : Nat} (h : IsT T w g) (hb : O g) (cs : Array Value) : Tn T O w (w.setRow g cs) :=
  .one h hb rfl rfl rfl (by simp [World.setRow]) (fun k _ hk => setRow_other w g k cs hk)
theorem Tn.drew {T : TypeId → Bool} {O : Nat → Prop} {a w : World} (h : Tn T O a w) : Tn T O a w.drew := ⟨h.os, h.tape, h.output, h.size, h.block⟩
theorem Tn.mono {T : TypeId → Bool} {O O' : Nat → Prop} {a w : World} (h : Tn T O a w) (hb : ∀ k, O k → O' k) : Tn T O' a w := ⟨h.os, h.tape, h.output, h.size, fun k hk hn => h.block k hk (by
  rcases hn with hn | hn
  · exact .inl (fun q => hn (hb k q))
  · exact .inr hn)⟩
theorem Tn.below {T : TypeId → Bool} {O : Nat → Prop} {w w' : World} {B : Nat} (h : Tn T O w w') (hb : ∀ k, k < B → ¬ O k) (hs : B ≤ w.heap.size) : Below B w w' :=
  ⟨h.os, h.tape, h.output, h.size, fun k hk => h.block k (by omega) (.inl (hb k hk))⟩
/-- A block of another type stays, and one that is not in O. -/
theorem Tn.other {T : TypeId → Bool} {O : Nat → Prop} {w w' : World} (h : Tn T O w w') {k : Nat} {cs : Array Value} {t : TypeId} {fr : Nat × Nat} (e : w.heap[k]? = some (.cells cs t fr)) (ht : T t = false) : w'.heap[k]? = some (.cells cs t fr) := by
  rw [h.block k (block_lt e) (.inr ?_)]
  · exact e
  · rintro ⟨cs2, t2, fr2, h1, h2⟩
    rw [e] at h1
    injection h1 with h1
    injection h1 with _ h3
    subst h3
    rw [ht] at h2
    cases h2
theorem Tn.old {T : TypeId → Bool} {O : Nat → Prop} {w w' : World} (h : Tn T O w w') {k : Nat} (hk : ¬ O k) {o : Obj} (e : w.heap[k]? = some o) : w'.heap[k]? = some o := (h.block k (block_lt e) (.inl hk)).trans e
end Go.Proofs.Ytbpadliiekhkjaa.So
