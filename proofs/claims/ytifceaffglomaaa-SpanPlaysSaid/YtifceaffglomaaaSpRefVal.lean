/-
  The reference's right and Valid: what each returns. Condition: at most 2^63 spans.
-/
import Derived.Test.YtifceaffglomaaaSpLw
import Derived.Test.YtifceaffglomaaaSpCut
import Derived.Test.YtifceaffglomaaaRgVal
namespace Go.Proofs.Ytifceaffglomaaa.Sn
open Go.RowKit Go.Proofs.Ytifceaffglomaaa.Fd
set_option maxRecDepth 100000
set_option linter.unusedVariables false

set_option maxHeartbeats 2000000 in
theorem rright_any (x y : Int) (w : World) :
    Calls Try.prog 32 #[.agg #[.int .i64 x, .int .i64 y]] w fun e w' => e = .returned (.bool (rightB (x, y))) ∧ Below w.heap.size w w' := by
  have HB := Lib.hid ((Below.refl w.heap.size w).alloc (Nat.le_refl _) (.cells #[.int .i64 x, .int .i64 y] 24))
  by_cases h1 : 0 ≤ x
  · by_cases h2 : x ≤ y
    · by_cases h3 : y ≤ 1048576
      · have HR := Lib.hid (show rightB (x, y) = true from by simp [rightB, h1, h2, h3])
        go_enter Try.func32, Try.ntmps32
        go_wp2_with fail
        go_ret
        exact ⟨by rw [HR.out]; rfl, HB.out⟩
      · have HR := Lib.hid (show rightB (x, y) = false from by simp [rightB, h1, h2, h3])
        go_enter Try.func32, Try.ntmps32
        go_wp2_with fail
        go_ret
        exact ⟨by rw [HR.out]; rfl, HB.out⟩
    · have HR := Lib.hid (show rightB (x, y) = false from by simp [rightB, h1, h2])
      go_enter Try.func32, Try.ntmps32
      go_wp2_with fail
      go_ret
      exact ⟨by rw [HR.out]; rfl, HB.out⟩
  · have HR := Lib.hid (show rightB (x, y) = false from by simp [rightB, h1])
    go_enter Try.func32, Try.ntmps32
    go_wp2_with fail
    go_ret
    exact ⟨by rw [HR.out]; rfl, HB.out⟩

/-- What is left to be told of a list, behind so many. -/
def tailB (l : List Sp) (k : Nat) : Bool := goodB (if k = 0 then 0 else (l.getD (k - 1) (0, 0)).2 + 1) (l.drop k)
theorem tail_step (l : List Sp) (k : Nat) (h : k < l.length) : tailB l k = (rightB l[k] && !(decide (l[k].1 = l[k].2)) && decide ((if k = 0 then 0 else (l.getD (k - 1) (0, 0)).2 + 1) ≤ l[k].1) && tailB l (k + 1)) := by
  unfold tailB
  rw [drop_cons l k h]
  simp only [goodB, Nat.add_sub_cancel, at_get l k h]
  simp
set_option maxHeartbeats 16000000 in
theorem rvalid_any (v : Value) (l : List Sp) (w : World) (h : Spans w v l) (hl : l.length ≤ 9223372036854775807) :
    Calls Try.prog 13 #[v] w fun e w' => e = .returned (.bool (validB l)) ∧ Below w.heap.size w w' := by
  by_cases h32 : l.length ≤ 32
  · have HV := Lib.hid (show validB l = tailB l 0 from by simp [validB, h32, tailB])
    rcases h with ⟨rfl, a, cap, rfl⟩ | ⟨b, off, cap, rfl, hc, hm, hlt, hs⟩
    · go_enter Try.func13, Try.ntmps13
      go_wp2_with fail
      refine wp_loop_rounds 1 ?_
      rw [rounds_succ]
      go_wp2_with fail
      go_ret
      exact ⟨rfl, Below.refl _ _⟩
    · have HS := Lib.hid hs
      clear hs hc hm
      go_enter Try.func13, Try.ntmps13
      go_wp2_with fail
      go_loopw [3] (fun i wr => ∃ k : Nat, k ≤ l.length ∧ i = .int .i64 (k : Int) ∧ validB l = tailB l k ∧ Below w.heap.size w wr) (fun i _ => l.length - (intOf i).toNat)
      case atStart => exact ⟨0, Nat.zero_le _, rfl, HV.out, Below.refl _ _⟩
      case round =>
        obtain ⟨k, hk, rfl, hg, hB⟩ := hrel
        have HG := Lib.hid hg
        clear hg
        by_cases hlt2 : k < l.length
        · have HT := Lib.hid (HG.out.trans (tail_step l k hlt2))
          obtain ⟨x, hx⟩ : ∃ x, x = l[k].1 := ⟨_, rfl⟩
          obtain ⟨y, hy⟩ : ∃ y, y = l[k].2 := ⟨_, rfl⟩
          obtain ⟨z, hz⟩ : ∃ z, z = (l.getD (k - 1) (0, 0)).2 := ⟨_, rfl⟩
          have HC := Lib.hid (show ∀ V, Below w.heap.size w V → V.cell? ⟨b, off + k * 2, none⟩ = some (.int .i64 x) ∧ V.cell? ⟨b, off + k * 2 + 1, none⟩ = some (.int .i64 y) ∧ (0 < k → V.cell? ⟨b, off + (k - 1) * 2 + 1, none⟩ = some (.int .i64 z)) from fun V hV =>
            ⟨by rw [hx]; exact (hV.cell (p := ⟨b, off + k * 2, none⟩) hlt).trans (HS.out k hlt2).1, by rw [hy]; exact (hV.cell (p := ⟨b, off + k * 2 + 1, none⟩) hlt).trans (HS.out k hlt2).2,
              fun h0 => by rw [hz, at_get l (k - 1) (by omega)]; exact (hV.cell (p := ⟨b, off + (k - 1) * 2 + 1, none⟩) hlt).trans (HS.out (k - 1) (by omega)).2⟩)
          rw [show l[k] = (l[k].1, l[k].2) from rfl, ← hx, ← hy, ← hz] at HT
          clear hx hy hz HG
          have KR := Lib.hid (fun V => rright_any x y V)
          cases hr : rightB (x, y) with
          | false =>
            have HN := Lib.hid (show validB l = false from by rw [HT.out, hr]; rfl)
            rw [hr] at KR
            clear hr HT
            go_upto_region 6 with fail
            refine Rg.val_region (n := 50) (J := fun V => Below w.heap.size w V) [(13, .slice (some ⟨b, off, none⟩) l.length cap), (14, .int .i64 (k : Int)), (15, .pointer (some ⟨b, off + k * 2, none⟩)), (16, .agg #[.int .i64 x, .int .i64 y]), (17, .bool false), (18, .bool true), (19, .bool true), (20, undef), (21, undef), (22, undef), (23, undef), (24, undef), (25, undef), (26, undef), (27, undef), (28, undef), (29, undef), (30, undef), (31, .bool true), (32, .bool true), (33, undef), (34, undef), (35, undef), (36, undef), (37, undef), (38, undef), (39, undef), (40, undef), (41, undef), (42, undef), (43, undef), (44, undef), (45, undef), (46, undef), (47, undef), (48, undef), (49, .bool true)] (by kernel_rfl) (by kernel_rfl) (by kernel_rfl) (by kernel_rfl) (Bl.drewN hB 1) (fun F hF => ?_)
            simp only [Rg.fill, List.setIfInBounds_toArray, List.set_cons_zero, List.set_cons_succ] at hF
            subst hF
            refine ⟨?_, fun V hJ => ?_⟩
            · show ∀ i, i < 37 → _
              repeat' refine Rg.below_succ ?_ ?_
              all_goals first
                | exact Rg.below_zero
                | (refine Rg.StepOK.of rfl ?_
                   first
                   | (left; exact ⟨by kernel_rfl, fun d hd => by injection hd with hd; subst hd; rfl⟩)
                   | (right
                      refine ⟨by kernel_rfl, fun V hJ K hK => ?_⟩
                      obtain ⟨c0, c1, c2⟩ := HC.out V hJ
                      have HJ := Lib.hid hJ
                      clear hJ
                      go_simp
                      first
                        | exact hK _ HJ.out
                        | (refine (KR.out _).mono ?_; rintro e w9 ⟨rfl, hb⟩; exact hK _ (Bl.next HJ.out hb))))
            · go_wp2_with fail
              go_ret
              exact ⟨by rw [HN.out]; rfl, hJ⟩
          | true =>
            have HRB := Lib.hid hr
            rw [hr] at KR HT
            clear hr
            by_cases h1 : x = y
            · subst h1
              have HN := Lib.hid (show validB l = false from by rw [HT.out]; simp)
              have e1 : (x == x) = true := by simp
              clear HT
              go_upto_region 6 with fail
              refine Rg.val_region (n := 50) (J := fun V => Below w.heap.size w V) [(13, .slice (some ⟨b, off, none⟩) l.length cap), (14, .int .i64 (k : Int)), (15, .pointer (some ⟨b, off + k * 2, none⟩)), (16, .agg #[.int .i64 x, .int .i64 x]), (17, .bool true), (18, .bool false), (19, .bool false), (20, .slice (some ⟨b, off, none⟩) l.length cap), (21, .int .i64 (k : Int)), (22, .pointer (some ⟨b, off + k * 2, none⟩)), (23, .pointer (some ⟨b, off + k * 2, none⟩)), (24, .int .i64 x), (25, .slice (some ⟨b, off, none⟩) l.length cap), (26, .int .i64 (k : Int)), (27, .pointer (some ⟨b, off + k * 2, none⟩)), (28, .pointer (some ⟨b, off + k * 2 + 1, none⟩)), (29, .int .i64 x), (30, .bool true), (31, .bool true), (32, .bool true), (33, undef), (34, undef), (35, undef), (36, undef), (37, undef), (38, undef), (39, undef), (40, undef), (41, undef), (42, undef), (43, undef), (44, undef), (45, undef), (46, undef), (47, undef), (48, undef), (49, .bool true)] (by kernel_rfl) (by kernel_rfl) (by kernel_rfl) (by kernel_rfl) (Bl.drewN hB 1) (fun F hF => ?_)
              simp only [Rg.fill, List.setIfInBounds_toArray, List.set_cons_zero, List.set_cons_succ] at hF
              subst hF
              refine ⟨?_, fun V hJ => ?_⟩
              · show ∀ i, i < 37 → _
                repeat' refine Rg.below_succ ?_ ?_
                all_goals first
                  | exact Rg.below_zero
                  | (refine Rg.StepOK.of rfl ?_
                     first
                     | (left; exact ⟨by kernel_rfl, fun d hd => by injection hd with hd; subst hd; rfl⟩)
                     | (right
                        refine ⟨by kernel_rfl, fun V hJ K hK => ?_⟩
                        obtain ⟨c0, c1, c2⟩ := HC.out V hJ
                        have HJ := Lib.hid hJ
                        clear hJ
                        go_simp
                        first
                          | exact hK _ HJ.out
                          | (refine (KR.out _).mono ?_; rintro e w9 ⟨rfl, hb⟩; exact hK _ (Bl.next HJ.out hb))))
              · go_wp2_with fail
                go_ret
                exact ⟨by rw [HN.out]; rfl, hJ⟩
            · have e1 : (x == y) = false := by rw [beq_eq_false_iff_ne]; exact h1
              have hr := (rightB_iff (x, y)).1 HRB.out
              by_cases h2 : 0 < k
              · have h2' : (0 : Int) < (k : Int) := by omega
                have ek : IntKind.i64.wrap ((k : Int) - 1) = ((k - 1 : Nat) : Int) := (IntWalk.i64_in _ (by omega)).trans (by omega)
                have ek2 : k - 1 < l.length := by omega
                have ek3 : ((k - 1 : Nat) : Int) < (l.length : Int) := by omega
                by_cases h3 : x ≤ z
                · have HN := Lib.hid (show validB l = false from by rw [HT.out, if_neg (by omega)]; simp; intro _ h; omega)
                  clear HT
                  go_upto_region 6 with fail
                  refine Rg.val_region (n := 50) (J := fun V => Below w.heap.size w V) [(13, .slice (some ⟨b, off, none⟩) l.length cap), (14, .int .i64 (k : Int)), (15, .pointer (some ⟨b, off + k * 2, none⟩)), (16, .agg #[.int .i64 x, .int .i64 y]), (17, .bool true), (18, .bool false), (19, .bool false), (20, .slice (some ⟨b, off, none⟩) l.length cap), (21, .int .i64 (k : Int)), (22, .pointer (some ⟨b, off + k * 2, none⟩)), (23, .pointer (some ⟨b, off + k * 2, none⟩)), (24, .int .i64 x), (25, .slice (some ⟨b, off, none⟩) l.length cap), (26, .int .i64 (k : Int)), (27, .pointer (some ⟨b, off + k * 2, none⟩)), (28, .pointer (some ⟨b, off + k * 2 + 1, none⟩)), (29, .int .i64 y), (30, .bool false), (31, .bool false), (32, .bool false), (33, .int .i64 (k : Int)), (34, .bool true), (35, .bool true), (36, .slice (some ⟨b, off, none⟩) l.length cap), (37, .int .i64 (k : Int)), (38, .pointer (some ⟨b, off + k * 2, none⟩)), (39, .pointer (some ⟨b, off + k * 2, none⟩)), (40, .int .i64 x), (41, .slice (some ⟨b, off, none⟩) l.length cap), (42, .int .i64 (k : Int)), (43, .int .i64 ((k - 1 : Nat) : Int)), (44, .pointer (some ⟨b, off + (k - 1) * 2, none⟩)), (45, .pointer (some ⟨b, off + (k - 1) * 2 + 1, none⟩)), (46, .int .i64 z), (47, .bool true), (48, .bool true), (49, .bool true)] (by kernel_rfl) (by kernel_rfl) (by kernel_rfl) (by kernel_rfl) (Bl.drewN hB 1) (fun F hF => ?_)
                  simp only [Rg.fill, List.setIfInBounds_toArray, List.set_cons_zero, List.set_cons_succ] at hF
                  subst hF
                  refine ⟨?_, fun V hJ => ?_⟩
                  · show ∀ i, i < 37 → _
                    repeat' refine Rg.below_succ ?_ ?_
                    all_goals first
                      | exact Rg.below_zero
                      | (refine Rg.StepOK.of rfl ?_
                         first
                         | (left; exact ⟨by kernel_rfl, fun d hd => by injection hd with hd; subst hd; rfl⟩)
                         | (right
                            refine ⟨by kernel_rfl, fun V hJ K hK => ?_⟩
                            obtain ⟨c0, c1, c2⟩ := HC.out V hJ
                            have HJ := Lib.hid hJ
                            clear hJ
                            go_simp
                            first
                              | exact hK _ HJ.out
                              | (refine (KR.out _).mono ?_; rintro e w9 ⟨rfl, hb⟩; exact hK _ (Bl.next HJ.out hb))))
                  · go_wp2_with fail
                    go_ret
                    exact ⟨by rw [HN.out]; rfl, hJ⟩
                · have HN := Lib.hid (show validB l = tailB l (k + 1) from by rw [HT.out, if_neg (by omega)]; simp [h1]; intro _; omega)
                  clear HT
                  go_upto_region 6 with fail
                  refine Rg.val_region (n := 50) (J := fun V => Below w.heap.size w V) [(13, .slice (some ⟨b, off, none⟩) l.length cap), (14, .int .i64 (k : Int)), (15, .pointer (some ⟨b, off + k * 2, none⟩)), (16, .agg #[.int .i64 x, .int .i64 y]), (17, .bool true), (18, .bool false), (19, .bool false), (20, .slice (some ⟨b, off, none⟩) l.length cap), (21, .int .i64 (k : Int)), (22, .pointer (some ⟨b, off + k * 2, none⟩)), (23, .pointer (some ⟨b, off + k * 2, none⟩)), (24, .int .i64 x), (25, .slice (some ⟨b, off, none⟩) l.length cap), (26, .int .i64 (k : Int)), (27, .pointer (some ⟨b, off + k * 2, none⟩)), (28, .pointer (some ⟨b, off + k * 2 + 1, none⟩)), (29, .int .i64 y), (30, .bool false), (31, .bool false), (32, .bool false), (33, .int .i64 (k : Int)), (34, .bool true), (35, .bool true), (36, .slice (some ⟨b, off, none⟩) l.length cap), (37, .int .i64 (k : Int)), (38, .pointer (some ⟨b, off + k * 2, none⟩)), (39, .pointer (some ⟨b, off + k * 2, none⟩)), (40, .int .i64 x), (41, .slice (some ⟨b, off, none⟩) l.length cap), (42, .int .i64 (k : Int)), (43, .int .i64 ((k - 1 : Nat) : Int)), (44, .pointer (some ⟨b, off + (k - 1) * 2, none⟩)), (45, .pointer (some ⟨b, off + (k - 1) * 2 + 1, none⟩)), (46, .int .i64 z), (47, .bool false), (48, .bool false), (49, .bool false)] (by kernel_rfl) (by kernel_rfl) (by kernel_rfl) (by kernel_rfl) (Bl.drewN hB 1) (fun F hF => ?_)
                  simp only [Rg.fill, List.setIfInBounds_toArray, List.set_cons_zero, List.set_cons_succ] at hF
                  subst hF
                  refine ⟨?_, fun V hJ => ?_⟩
                  · show ∀ i, i < 37 → _
                    repeat' refine Rg.below_succ ?_ ?_
                    all_goals first
                      | exact Rg.below_zero
                      | (refine Rg.StepOK.of rfl ?_
                         first
                         | (left; exact ⟨by kernel_rfl, fun d hd => by injection hd with hd; subst hd; rfl⟩)
                         | (right
                            refine ⟨by kernel_rfl, fun V hJ K hK => ?_⟩
                            obtain ⟨c0, c1, c2⟩ := HC.out V hJ
                            have HJ := Lib.hid hJ
                            clear hJ
                            go_simp
                            first
                              | exact hK _ HJ.out
                              | (refine (KR.out _).mono ?_; rintro e w9 ⟨rfl, hb⟩; exact hK _ (Bl.next HJ.out hb))))
                  · go_wp2_with fail
                    go_roundw
                    case rel => exact ⟨k + 1, by omega, by go_num, HN.out, hJ⟩
                    case measure => simp [intOf]; omega
              · have h2' : ¬ (0 : Int) < (k : Int) := by omega
                have HN := Lib.hid (show validB l = tailB l (k + 1) from by rw [HT.out, if_pos (by omega)]; simp [h1]; intro _; have := hr.low; exact this)
                clear HT
                go_upto_region 6 with fail
                refine Rg.val_region (n := 50) (J := fun V => Below w.heap.size w V) [(13, .slice (some ⟨b, off, none⟩) l.length cap), (14, .int .i64 (k : Int)), (15, .pointer (some ⟨b, off + k * 2, none⟩)), (16, .agg #[.int .i64 x, .int .i64 y]), (17, .bool true), (18, .bool false), (19, .bool false), (20, .slice (some ⟨b, off, none⟩) l.length cap), (21, .int .i64 (k : Int)), (22, .pointer (some ⟨b, off + k * 2, none⟩)), (23, .pointer (some ⟨b, off + k * 2, none⟩)), (24, .int .i64 x), (25, .slice (some ⟨b, off, none⟩) l.length cap), (26, .int .i64 (k : Int)), (27, .pointer (some ⟨b, off + k * 2, none⟩)), (28, .pointer (some ⟨b, off + k * 2 + 1, none⟩)), (29, .int .i64 y), (30, .bool false), (31, .bool false), (32, .bool false), (33, .int .i64 (k : Int)), (34, .bool false), (35, .bool false), (36, undef), (37, undef), (38, undef), (39, undef), (40, undef), (41, undef), (42, undef), (43, undef), (44, undef), (45, undef), (46, undef), (47, undef), (48, .bool false), (49, .bool false)] (by kernel_rfl) (by kernel_rfl) (by kernel_rfl) (by kernel_rfl) (Bl.drewN hB 1) (fun F hF => ?_)
                simp only [Rg.fill, List.setIfInBounds_toArray, List.set_cons_zero, List.set_cons_succ] at hF
                subst hF
                refine ⟨?_, fun V hJ => ?_⟩
                · show ∀ i, i < 37 → _
                  repeat' refine Rg.below_succ ?_ ?_
                  all_goals first
                    | exact Rg.below_zero
                    | (refine Rg.StepOK.of rfl ?_
                       first
                       | (left; exact ⟨by kernel_rfl, fun d hd => by injection hd with hd; subst hd; rfl⟩)
                       | (right
                          refine ⟨by kernel_rfl, fun V hJ K hK => ?_⟩
                          obtain ⟨c0, c1, c2⟩ := HC.out V hJ
                          have HJ := Lib.hid hJ
                          clear hJ
                          go_simp
                          first
                            | exact hK _ HJ.out
                            | (refine (KR.out _).mono ?_; rintro e w9 ⟨rfl, hb⟩; exact hK _ (Bl.next HJ.out hb))))
                · go_wp2_with fail
                  go_roundw
                  case rel => exact ⟨k + 1, by omega, by go_num, HN.out, hJ⟩
                  case measure => simp [intOf]; omega
        · have HN := Lib.hid (show validB l = true from by rw [HG.out]; unfold tailB; rw [List.drop_of_length_le (by omega)]; rfl)
          go_wp2_with fail
          go_ret
          exact ⟨by rw [HN.out]; rfl, hB⟩
  · have HV := Lib.hid (show validB l = false from by simp [validB, h32])
    obtain ⟨a, cap, rfl⟩ := h.shape
    clear h
    go_enter Try.func13, Try.ntmps13
    go_wp2_with fail
    go_ret
    exact ⟨by rw [HV.out]; rfl, Below.refl _ _⟩
end Go.Proofs.Ytifceaffglomaaa.Sn
